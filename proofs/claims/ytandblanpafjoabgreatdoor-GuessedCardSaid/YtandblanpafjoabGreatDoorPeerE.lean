import Derived.Test.YtandblanpafjoabGreatDoorPeerD
namespace Go.Proofs.YtandblanpafjoabGreatDoor
open Go.RowKit Go.Extern.Stop Go.Stop Go.Extern

set_option maxRecDepth 10000 in
set_option maxHeartbeats 1000000 in
theorem memory_any (b num n win delay : Nat) (F FS : Nat → Prop) (x : PeerM) (v : Nat → Value) (st : Value) (w : World) (h : PeerAt w b F FS num n win delay x v st) :
    Calls Tryz.prog 64 #[.pointer (some ⟨b, 0, none⟩)] w fun e w' => ∃ g, e = .returned (.slice (some ⟨g, 0, none⟩) 288 288) ∧ w.heap.size ≤ g ∧ Blk w' g (nums .u8 (stF n (insM x n) x.frame)) 5 ∧ Below w.heap.size w w' := by
  have c13 : w.cell? ⟨b, 13, none⟩ = some st := h.cell 13
  have hfr := h.ok.frame
  have hw8 := h.hw
  have hn4 := h.hn4
  have hg := stF_good h.hn4 (insM x n) x.frame
  have hSt := h.store
  clear h
  rcases hSt with ⟨sb, pb, rb, rfl, hS⟩ | ⟨sb, pb, rb, mb, rfl, hS⟩
  · skip
    have hc := hS.blk.c1
    have hm1 := mFrameF ⟨sb, 0, none⟩
    have hm2 := mStateF ⟨sb, 0, none⟩
    have HS := hide hS
    clear hS
    go_enter Tryz.func64, Tryz.ntmps64
    go_wp2_with fail
    refine wp_moves_reads_tail0 11 (by kernel_rfl) (by kernel_rfl) (by kernel_rfl) (by kernel_rfl) ?_
    simp only [List.take_succ_cons, List.take_zero, List.drop_succ_cons, List.drop_zero]
    still_step
    still_step
    still_step
    still_step
    still_step
    still_step
    still_step
    still_step
    still_call (frame_cell sb x.frame w.drew hc)
    still_step
    still_step
    refine wpStill_nil ?_
    go_wp2_with fail
    refine (fstate_any sb n win (x.frame - win) x.frame pb rb x.frame FS (insM x n) w.drew ((unhide HS).same (fun _ _ => rfl)) hn4 hw8.1 (by omega) (Nat.le_refl _)).mono ?_
    rintro e w2 ⟨rfl, hb2⟩
    go_wp2_with fail
    refine (bytes_any (stF n (insM x n) x.frame) w2 hg.len).mono ?_
    rintro e w3 ⟨g, rfl, hg1, hg2, hb3⟩
    have hz2 : w.heap.size ≤ w2.heap.size := hb2.size
    go_wp2
    go_ret
    exact ⟨g, rfl, by omega, hg2, ⟨hb3.os.trans hb2.os, hb3.tape.trans hb2.tape, hb3.output.trans hb2.output, Nat.le_trans hb2.size hb3.size, fun k hk => (hb3.block k (by omega)).trans (hb2.block k hk)⟩⟩
  · skip
    have hc := hS.blk.c1
    have hm1 := mFrameD ⟨sb, 0, none⟩
    have hm2 := mStateD ⟨sb, 0, none⟩
    have HS := hide hS
    clear hS
    go_enter Tryz.func64, Tryz.ntmps64
    go_wp2_with fail
    refine wp_moves_reads_tail0 11 (by kernel_rfl) (by kernel_rfl) (by kernel_rfl) (by kernel_rfl) ?_
    simp only [List.take_succ_cons, List.take_zero, List.drop_succ_cons, List.drop_zero]
    still_step
    still_step
    still_step
    still_step
    still_step
    still_step
    still_step
    still_step
    still_call (frame_cell sb x.frame w.drew hc)
    still_step
    still_step
    refine wpStill_nil ?_
    go_wp2_with fail
    refine (dstate_any sb n win (x.frame - win) x.frame pb rb x.frame mb FS (insM x n) w.drew ((unhide HS).same (fun _ _ => rfl)) hn4 (by omega) (Nat.le_refl _) (by omega)).mono ?_
    rintro e w2 ⟨rfl, hb2⟩
    go_wp2_with fail
    refine (bytes_any (stF n (insM x n) x.frame) w2 hg.len).mono ?_
    rintro e w3 ⟨g, rfl, hg1, hg2, hb3⟩
    have hz2 : w.heap.size ≤ w2.heap.size := hb2.size
    go_wp2
    go_ret
    exact ⟨g, rfl, by omega, hg2, ⟨hb3.os.trans hb2.os, hb3.tape.trans hb2.tape, hb3.output.trans hb2.output, Nat.le_trans hb2.size hb3.size, fun k hk => (hb3.block k (by omega)).trans (hb2.block k hk)⟩⟩
end Go.Proofs.YtandblanpafjoabGreatDoor
