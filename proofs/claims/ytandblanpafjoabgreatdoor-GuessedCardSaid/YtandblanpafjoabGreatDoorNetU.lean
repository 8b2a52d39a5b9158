import Derived.Test.YtandblanpafjoabGreatDoorNetD
import Derived.Test.YtandblanpafjoabGreatDoorPeerE
namespace Go.Proofs.YtandblanpafjoabGreatDoor
open Go.RowKit Go.Extern.Stop Go.Stop Go.Extern

/-! A peer that cannot go on; what it sees. -/
theorem NetQ.at {w : World} {g p : Nat} {pv : Value} {pb : Nat → Nat} {F : Nat → Prop} {m : NetM} (h : NetQ w g pv pb F m) (hp : p < m.players) : ∃ Fp FS v st, PeerAt w (pb p) Fp FS p m.players m.window m.delay (m.peers p) v st := by
  obtain ⟨lv, wv, bl, l, Fp, hN, hF⟩ := h
  obtain ⟨FS, v, st, hP⟩ := hN.peers p hp
  exact ⟨Fp p, FS, v, st, hP⟩
set_option maxHeartbeats 800000 in
theorem nadvance_no (g p : Nat) (i : Int) (k : Nat) (pv : Value) (pb : Nat → Nat) (F : Nat → Prop) (m : NetM) (w : World) (h : NetQ w g pv pb F m) (hp : p < m.players) (hk : (m.advance p i).1 = k) (hk0 : k ≠ 0) :
    Calls Tryz.prog 36 #[.pointer (some ⟨g, 0, none⟩), .int .i64 (p : Int), .int .u8 i] w fun e w' => FaultAt w' e w.heap.size p (k : Int) ∧ Below w.heap.size w w' := by
  have HN := hide h
  obtain ⟨Fp, FS, v, st, hP⟩ := h.at hp
  have hcall : Calls Tryz.prog 60 #[.pointer (some ⟨pb p, 0, none⟩), .int .u8 i] w fun e w' => ∃ g, e = .returned (.iface 96 (.pointer (some ⟨g, 0, none⟩))) ∧ w.heap.size ≤ g ∧ w'.cell? ⟨g, 0, none⟩ = some (.int .i64 (p : Int)) ∧ w'.cell? ⟨g, 1, none⟩ = some (.int .i64 (k : Int)) ∧ Below w.heap.size w w' := by
    unfold NetM.advance at hk
    by_cases h1 : (m.peers p).frame = 200
    · rw [if_pos h1] at hk
      subst hk
      exact padvance_end (pb p) p m.players m.window m.delay i Fp FS (m.peers p) v st w hP h1
    · rw [if_neg h1] at hk
      by_cases h2 : m.window ≤ (m.peers p).frame - m.conf p
      · rw [if_pos h2] at hk
        subst hk
        have h3 := hP.ok.win
        have h4 := hP.hw
        unfold NetM.conf at h2
        exact padvance_stall (pb p) p m.players m.window m.delay i Fp FS (m.peers p) v st w hP h1 (by omega)
      · rw [if_neg h2] at hk
        exact absurd hk.symm hk0
  clear hP hk hk0
  go_enter Tryz.func36, Tryz.ntmps36
  go_wp2_with fail
  refine (npeer_yes g p pv pb F m w h hp).mono ?_
  clear h
  rintro e w1 ⟨rfl, rfl⟩
  have HC := hide hcall
  clear hcall
  go_wp2_with fail
  refine (unhide HC).mono ?_
  rintro e w2 ⟨g2, rfl, hg2, c0, c1, hb2⟩
  go_wp2
  go_ret
  exact ⟨⟨g2, rfl, hg2, c0, c1⟩, hb2⟩
set_option maxHeartbeats 800000 in
theorem nmemory_any (g p : Nat) (pv : Value) (pb : Nat → Nat) (F : Nat → Prop) (m : NetM) (w : World) (h : NetQ w g pv pb F m) (hp : p < m.players) :
    Calls Tryz.prog 39 #[.pointer (some ⟨g, 0, none⟩), .int .i64 (p : Int)] w fun e w' => ∃ g2, e = .returned (.tuple #[.slice (some ⟨g2, 0, none⟩) 288 288, .nilIface]) ∧ w.heap.size ≤ g2 ∧ Blk w' g2 (nums .u8 (stF m.players (insM (m.peers p) m.players) (m.peers p).frame)) 5 ∧ Below w.heap.size w w' := by
  obtain ⟨Fp, FS, v, st, hP⟩ := h.at hp
  have HP := hide hP
  clear hP
  go_enter Tryz.func39, Tryz.ntmps39
  go_wp2_with fail
  refine (npeer_yes g p pv pb F m w h hp).mono ?_
  clear h
  rintro e w1 ⟨rfl, rfl⟩
  go_wp2_with fail
  refine (memory_any (pb p) p m.players m.window m.delay Fp FS (m.peers p) v st w1 (unhide HP)).mono ?_
  rintro e w2 ⟨g2, rfl, hg2, hB2, hb2⟩
  have H2 := hide hB2
  clear hB2
  go_wp2
  go_ret2
  exact ⟨g2, rfl, hg2, unhide H2, hb2⟩
end Go.Proofs.YtandblanpafjoabGreatDoor
