import Derived.Test.YtandblanpafjoabGreatDoorNetB
namespace Go.Proofs.YtandblanpafjoabGreatDoor
open Go.RowKit Go.Extern.Stop Go.Stop Go.Extern

/-! A player's peer; sending to all the others. -/
theorem own_ptrs {w : World} {B n : Nat} {v : Value} {pb : Nat → Nat} (h : w.ownsRow B 84 1 v n ((List.range n).map fun p => Value.pointer (some ⟨pb p, 0, none⟩))) (hl : 0 < n) : ∃ g cap, v = .slice (some ⟨g, 0, none⟩) n cap ∧ ∀ j, j < n → w.cell? ⟨g, j, none⟩ = some (.pointer (some ⟨pb j, 0, none⟩)) := by
  obtain ⟨h1, h2⟩ := h
  rcases h2 with ⟨e, h0⟩ | ⟨g, cap, cur, e, hB, hg, hc, _, hs, ht⟩
  · omega
  · refine ⟨g, cap, e, fun j hj => ?_⟩
    rw [cell_of_row w g j cur 84 (0, 0) hg]
    have := congrArg (fun l => l[j]?) ht
    simp only [Nat.mul_one, List.getElem?_take, hj, if_true, Array.getElem?_toList, List.getElem?_map] at this
    rw [this]
    simp [hj]
theorem NetQ.parts {w : World} {g : Nat} {pv : Value} {pb : Nat → Nat} {F : Nat → Prop} {m : NetM} (h : NetQ w g pv pb F m) : ∃ rb cap, pv = .slice (some ⟨rb, 0, none⟩) m.players cap ∧ w.cell? ⟨g, 0, none⟩ = some pv ∧ (∀ j, j < m.players → w.cell? ⟨rb, j, none⟩ = some (.pointer (some ⟨pb j, 0, none⟩))) ∧ 2 ≤ m.players ∧ m.players ≤ 4 := by
  obtain ⟨lv, wv, bl, l, Fp, hN, hF⟩ := h
  obtain ⟨rb, cap, e, hc⟩ := own_ptrs hN.row (by have := hN.hp; omega)
  exact ⟨rb, cap, e, hN.wire.blk.cell 0, hc, hN.hp⟩
set_option maxHeartbeats 800000 in
theorem npeer_yes (g p : Nat) (pv : Value) (pb : Nat → Nat) (F : Nat → Prop) (m : NetM) (w : World) (h : NetQ w g pv pb F m) (hp : p < m.players) :
    Calls Tryz.prog 40 #[.pointer (some ⟨g, 0, none⟩), .int .i64 (p : Int)] w fun e w' => e = .returned (.tuple #[.pointer (some ⟨pb p, 0, none⟩), .nilIface]) ∧ w' = w := by
  obtain ⟨rb, cap, rfl, c0, hc, _, hn4⟩ := h.parts
  have cp := hc p hp
  have d1 : decide ((p : Int) < 0) = false := by simp
  have d2 : decide (m.players ≤ p) = false := by simp; omega
  have p0 : (0 : Int) ≤ (p : Int) := by omega
  have p1 : (p : Int) < (m.players : Int) := by omega
  generalize m.players = n at *
  clear h hc
  go_enter Tryz.func40, Tryz.ntmps40
  go_wp2
  go_ret2
  exact ⟨rfl, rfl⟩
end Go.Proofs.YtandblanpafjoabGreatDoor
