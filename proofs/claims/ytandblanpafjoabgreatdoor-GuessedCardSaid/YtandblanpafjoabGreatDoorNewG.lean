import Derived.Test.YtandblanpafjoabGreatDoorNetX
import Derived.Test.YtandblanpafjoabGreatDoorNewF
namespace Go.Proofs.YtandblanpafjoabGreatDoor
open Go.RowKit Go.Extern.Stop Go.Stop Go.Extern

/-! What a net is made of. -/
theorem Tryz.infoI64 : (Tryz.prog.info? 3).map (fun i => (i.zero, i.size, i.bytes)) = some (some (.int .i64 0), 1, 8) := by kernel_rfl
theorem Tryz.sizeWire : (Tryz.prog.info? 81).map (·.size) = some 4 := by kernel_rfl
/-- Lags as they come in: none, or in a block of someone's. -/
def LagSrc (w : World) (lv : Value) (lags : List Int) : Prop := (lv = .slice none 0 0 ∧ lags = []) ∨ ∃ b c, lv = .slice (some ⟨b, 0, none⟩) lags.length c ∧ 0 < lags.length ∧ b < w.heap.size ∧ ∀ j, j < lags.length → w.cell? ⟨b, j, none⟩ = some (.int .i64 (lags.getD j 0))
theorem LagSrc.below {w w' : World} {lv : Value} {lags : List Int} (h : LagSrc w lv lags) (hb : Below w.heap.size w w') : LagSrc w' lv lags := by
  rcases h with h | ⟨b, c, e, h0, hl, hc⟩
  · exact .inl h
  · exact .inr ⟨b, c, e, h0, by have := hb.size; omega, fun j hj => (hb.cell (p := ⟨b, j, none⟩) hl).trans (hc j hj)⟩

set_option maxHeartbeats 400000 in
theorem canPlay_yes (n : Nat) (w : World) (h : 2 ≤ n ∧ n ≤ 4) : Calls Tryz.prog 43 #[.int .i64 (n : Int)] w fun e w' => e = .returned (.bool true) ∧ w' = w := by
  have d1 : decide ((2 : Int) ≤ (n : Int)) = true := by simp; omega
  have d2 : decide ((n : Int) ≤ 4) = true := by simp; omega
  go_enter Tryz.func43, Tryz.ntmps43
  go_wp2
  go_ret
  exact ⟨rfl, rfl⟩
set_option maxHeartbeats 400000 in
theorem lags_yes (lv : Value) (lags : List Int) (w : World) (h : LagSrc w lv lags) (hl : lags.length ≤ 8) (hr : ∀ x ∈ lags, -1 ≤ x ∧ x ≤ 20) : Calls Tryz.prog 93 #[lv] w fun e w' => e = .returned (.bool true) ∧ w' = w := by
  rcases h with ⟨rfl, rfl⟩ | ⟨b, c, rfl, h0, _, hc⟩
  · go_enter Tryz.func93, Tryz.ntmps93
    go_wp2_with fail
    go_loop [10] (fun i => i = .int .i64 0) (fun _ => 0)
    case atStart => rfl
    case round =>
      subst hrel
      go_wp2
      go_ret
      exact ⟨rfl, rfl⟩
  · have d1 : decide ((8 : Int) < (lags.length : Int)) = false := by simp; omega
    have HR := hide hr
    have HC := hide hc
    clear hr hc
    go_enter Tryz.func93, Tryz.ntmps93
    go_wp2_with fail
    go_loop [10] (fun i => ∃ k : Nat, k ≤ lags.length ∧ i = .int .i64 (k : Int)) (fun i => lags.length - (intOf i).toNat)
    case atStart => exact ⟨0, by omega, rfl⟩
    case round =>
      obtain ⟨k, hk, rfl⟩ := hrel
      by_cases hlt : k < lags.length
      · have hd : decide (k < lags.length) = true := by simp; omega
        have ck := unhide HC k hlt
        have k0 : (0 : Int) ≤ (k : Int) := by omega
        have k1 : (k : Int) < (lags.length : Int) := by omega
        have hadd := i64_id ((k : Int) + 1) (by omega) (by omega)
        have hx : -1 ≤ lags.getD k 0 ∧ lags.getD k 0 ≤ 20 := by
          rw [List.getD_eq_getElem?_getD, List.getElem?_eq_getElem hlt]
          exact unhide HR _ (List.getElem_mem _)
        generalize lags.getD k 0 = x at *
        have e1 : decide (x < -1) = false := by simp; omega
        have e2 : decide (20 < x) = false := by simp; omega
        clear hx
        go_wp2
        exact ⟨⟨k + 1, by omega, by go_num⟩, by simp [intOf]; omega⟩
      · have hd : decide (k < lags.length) = false := by simp; omega
        go_wp2
        go_ret
        exact ⟨rfl, rfl⟩
end Go.Proofs.YtandblanpafjoabGreatDoor
