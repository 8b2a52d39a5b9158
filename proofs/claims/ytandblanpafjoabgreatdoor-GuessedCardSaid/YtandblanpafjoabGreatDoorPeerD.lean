import Derived.Test.YtandblanpafjoabGreatDoorPeerC
namespace Go.Proofs.YtandblanpafjoabGreatDoor
open Go.RowKit Go.Extern.Stop Go.Stop Go.Extern

set_option maxHeartbeats 400000 in
theorem frame_cell (sb frame : Nat) (w : World) (h1 : w.cell? ⟨sb, 1, none⟩ = some (.int .i64 (frame : Int))) :
    Calls Tryz.prog 180 #[.pointer (some ⟨sb, 0, none⟩)] w fun e w' => e = .returned (.int .i64 (frame : Int)) ∧ w' = w := by
  go_enter Tryz.func180, Tryz.ntmps180
  go_wp2
  go_ret
  exact ⟨rfl, rfl⟩

set_option maxRecDepth 10000 in
set_option maxHeartbeats 1000000 in
theorem owes_any (b num n win delay q : Nat) (F FS : Nat → Prop) (x : PeerM) (v : Nat → Value) (st : Value) (w : World) (h : PeerAt w b F FS num n win delay x v st) (hto : q < n) :
    Calls Tryz.prog 32 #[.pointer (some ⟨b, 0, none⟩), .int .i64 (q : Int)] w fun e w' => e = .returned (.bool (decide (x.acked q < (x.known num).length))) ∧ Below w.heap.size w w' := by
  have c0 : w.cell? ⟨b, 0, none⟩ = some (.int .i64 (num : Int)) := h.cell 0
  have ca := h.cA q hto
  have hn4 := h.hn4
  have hnum := h.hnum
  have ck := h.cK num (by omega)
  obtain ⟨ao, cp, hv, _, _⟩ := h.shape num hnum
  rw [hv] at ck
  have t0 : (0 : Int) ≤ (q : Int) := by omega
  have t1 : (q : Int) < 4 := by omega
  have u0 : (0 : Int) ≤ (num : Int) := by omega
  have u1 : (num : Int) < 4 := by omega
  clear h
  go_enter Tryz.func32, Tryz.ntmps32
  go_wp2_with fail
  go_still (by kernel_rfl)
  go_wp2
  go_ret
  refine ⟨?_, (Below.refl _ w).drew⟩
  first | rfl | simp


set_option maxRecDepth 10000 in
set_option maxHeartbeats 1000000 in
theorem sum_yes (b num n win delay f : Nat) (F FS : Nat → Prop) (x : PeerM) (v : Nat → Value) (st : Value) (w : World) (h : PeerAt w b F FS num n win delay x v st) (h1 : x.frame - win ≤ f) (h2 : f ≤ x.frame) :
    Calls Tryz.prog 50 #[.pointer (some ⟨b, 0, none⟩), .int .i64 (f : Int)] w fun e w' => e = .returned (.tuple #[.int .u32 (digL (stF n (insM x n) f)), .nilIface]) ∧ Below w.heap.size w w' := by
  have c13 : w.cell? ⟨b, 13, none⟩ = some st := h.cell 13
  have c2 : w.cell? ⟨b, 2, none⟩ = some (.int .i64 (win : Int)) := h.cell 2
  have hfr := h.ok.frame
  have hw8 := h.hw
  have hn4 := h.hn4
  have hg := stF_good h.hn4 (insM x n) f
  have d1 : decide ((f : Int) < 0) = false := by simp
  have d2 : decide ((x.frame : Int) < (f : Int)) = false := by simp; omega
  have hwr := i64_id ((x.frame : Int) - (win : Int)) (by omega) (by omega)
  have d3 : decide ((f : Int) < (x.frame : Int) - (win : Int)) = false := by simp; omega
  have hSt := h.store
  clear h
  rcases hSt with ⟨sb, pb, rb, rfl, hS⟩ | ⟨sb, pb, rb, mb, rfl, hS⟩
  · skip
    have hc := hS.blk.c1
    have hm1 := mFrameF ⟨sb, 0, none⟩
    have hm2 := mStateF ⟨sb, 0, none⟩
    have HS := hide hS
    clear hS
    go_enter Tryz.func50, Tryz.ntmps50
    go_wp2_with fail
    refine (frame_cell sb x.frame w hc).mono ?_
    rintro e w1 ⟨rfl, rfl⟩
    go_wp2_with fail
    refine (fstate_any sb n win (x.frame - win) x.frame pb rb f FS (insM x n) w1 (unhide HS) hn4 hw8.1 h1 h2).mono ?_
    rintro e w2 ⟨rfl, hb2⟩
    go_wp2_with fail
    refine (gdigest_any (stF n (insM x n) f) w2 hg.len hg.rng).mono ?_
    rintro e w3 ⟨rfl, hb3⟩
    go_wp2
    go_ret2
    exact ⟨rfl, hb2.trans (hb3.mono hb2.size)⟩
  · skip
    have hc := hS.blk.c1
    have hm1 := mFrameD ⟨sb, 0, none⟩
    have hm2 := mStateD ⟨sb, 0, none⟩
    have HS := hide hS
    clear hS
    go_enter Tryz.func50, Tryz.ntmps50
    go_wp2_with fail
    refine (frame_cell sb x.frame w hc).mono ?_
    rintro e w1 ⟨rfl, rfl⟩
    go_wp2_with fail
    refine (dstate_any sb n win (x.frame - win) x.frame pb rb f mb FS (insM x n) w1 (unhide HS) hn4 h1 h2 (by omega)).mono ?_
    rintro e w2 ⟨rfl, hb2⟩
    go_wp2_with fail
    refine (gdigest_any (stF n (insM x n) f) w2 hg.len hg.rng).mono ?_
    rintro e w3 ⟨rfl, hb3⟩
    go_wp2
    go_ret2
    exact ⟨rfl, hb2.trans (hb3.mono hb2.size)⟩

set_option maxRecDepth 10000 in
set_option maxHeartbeats 1000000 in
theorem sum_no (b num n win delay : Nat) (f : Int) (F FS : Nat → Prop) (x : PeerM) (v : Nat → Value) (st : Value) (w : World) (h : PeerAt w b F FS num n win delay x v st) (hf : f < 0 ∨ (x.frame : Int) < f ∨ f < (x.frame : Int) - (win : Int)) :
    Calls Tryz.prog 50 #[.pointer (some ⟨b, 0, none⟩), .int .i64 f] w fun e w' => ∃ g, e = .returned (.tuple #[.int .u32 0, .iface 96 (.pointer (some ⟨g, 0, none⟩))]) ∧ w.heap.size ≤ g ∧ w'.cell? ⟨g, 0, none⟩ = some (.int .i64 (num : Int)) ∧ w'.cell? ⟨g, 1, none⟩ = some (.int .i64 6) ∧ Below w.heap.size w w' := by
  obtain ⟨t, sb, rfl, hm, hc⟩ := h.store.frame_call
  have c13 : w.cell? ⟨b, 13, none⟩ = some (.iface t (.pointer (some ⟨sb, 0, none⟩))) := h.cell 13
  have c2 : w.cell? ⟨b, 2, none⟩ = some (.int .i64 (win : Int)) := h.cell 2
  have hfr := h.ok.frame
  have hw8 := h.hw
  have hwr := i64_id ((x.frame : Int) - (win : Int)) (by omega) (by omega)
  have HB := hide h
  clear h
  by_cases d1 : f < 0
  · have e1 : decide (f < 0) = true := by simp [d1]
    go_enter Tryz.func50, Tryz.ntmps50
    go_wp2_with fail
    refine (frame_cell sb x.frame w hc).mono ?_
    rintro e w1 ⟨rfl, rfl⟩
    go_wp2_with fail
    refine (fault_any b num n win delay 6 F FS x v _ w1 (unhide HB)).mono ?_
    rintro e w2 ⟨g, rfl, hg1, hg2, hg3, hb2⟩
    go_wp2
    go_ret2
    exact ⟨g, rfl, hg1, hg2, hg3, hb2⟩
  · have e1 : decide (f < 0) = false := by simp; omega
    by_cases d2 : (x.frame : Int) < f
    · have e2 : decide ((x.frame : Int) < f) = true := by simp [d2]
      go_enter Tryz.func50, Tryz.ntmps50
      go_wp2_with fail
      refine (frame_cell sb x.frame w hc).mono ?_
      rintro e w1 ⟨rfl, rfl⟩
      go_wp2_with fail
      refine (fault_any b num n win delay 6 F FS x v _ w1 (unhide HB)).mono ?_
      rintro e w2 ⟨g, rfl, hg1, hg2, hg3, hb2⟩
      go_wp2
      go_ret2
      exact ⟨g, rfl, hg1, hg2, hg3, hb2⟩
    · have e2 : decide ((x.frame : Int) < f) = false := by simp; omega
      have e3 : decide (f < (x.frame : Int) - (win : Int)) = true := by simp; omega
      go_enter Tryz.func50, Tryz.ntmps50
      go_wp2_with fail
      refine (frame_cell sb x.frame w hc).mono ?_
      rintro e w1 ⟨rfl, rfl⟩
      go_wp2_with fail
      refine (fault_any b num n win delay 6 F FS x v _ w1 (unhide HB)).mono ?_
      rintro e w2 ⟨g, rfl, hg1, hg2, hg3, hb2⟩
      go_wp2
      go_ret2
      exact ⟨g, rfl, hg1, hg2, hg3, hb2⟩
end Go.Proofs.YtandblanpafjoabGreatDoor
