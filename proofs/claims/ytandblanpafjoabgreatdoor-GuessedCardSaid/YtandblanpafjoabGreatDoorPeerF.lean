import Derived.Test.YtandblanpafjoabGreatDoorPeerE
import Derived.Maps.AppendAt
namespace Go.Proofs.YtandblanpafjoabGreatDoor
open Go.RowKit Go.Extern.Stop Go.Stop Go.Extern

set_option maxRecDepth 10000 in
set_option maxHeartbeats 2000000 in
theorem padvance_end (b num n win delay : Nat) (i : Int) (F FS : Nat → Prop) (x : PeerM) (v : Nat → Value) (st : Value) (w : World) (h : PeerAt w b F FS num n win delay x v st) (he : x.frame = 200) :
    Calls Tryz.prog 60 #[.pointer (some ⟨b, 0, none⟩), .int .u8 i] w fun e w' => ∃ g, e = .returned (.iface 96 (.pointer (some ⟨g, 0, none⟩))) ∧ w.heap.size ≤ g ∧ w'.cell? ⟨g, 0, none⟩ = some (.int .i64 (num : Int)) ∧ w'.cell? ⟨g, 1, none⟩ = some (.int .i64 3) ∧ Below w.heap.size w w' := by
  obtain ⟨t, sb, rfl, hm, hc⟩ := h.store.frame_call
  have c13 : w.cell? ⟨b, 13, none⟩ = some (.iface t (.pointer (some ⟨sb, 0, none⟩))) := h.cell 13
  have HB := hide h
  have HE := hide he
  have e1 : ((x.frame : Int) == 200) = true := by simp [he]
  clear h he
  go_enter Tryz.func60, Tryz.ntmps60
  go_wp2_with fail
  refine (frame_cell sb x.frame w hc).mono ?_
  rintro e w1 ⟨rfl, rfl⟩
  go_wp2_with fail
  refine (fault_any b num n win delay 3 F FS x v _ w1 (unhide HB)).mono ?_
  rintro e w2 ⟨g, rfl, hg1, hg2, hg3, hb2⟩
  go_wp2
  go_ret
  exact ⟨g, rfl, hg1, hg2, hg3, hb2⟩

set_option maxRecDepth 10000 in
set_option maxHeartbeats 2000000 in
theorem padvance_stall (b num n win delay : Nat) (i : Int) (F FS : Nat → Prop) (x : PeerM) (v : Nat → Value) (st : Value) (w : World) (h : PeerAt w b F FS num n win delay x v st) (he : x.frame ≠ 200) (hs : x.frame - confTo x n = win) :
    Calls Tryz.prog 60 #[.pointer (some ⟨b, 0, none⟩), .int .u8 i] w fun e w' => ∃ g, e = .returned (.iface 96 (.pointer (some ⟨g, 0, none⟩))) ∧ w.heap.size ≤ g ∧ w'.cell? ⟨g, 0, none⟩ = some (.int .i64 (num : Int)) ∧ w'.cell? ⟨g, 1, none⟩ = some (.int .i64 4) ∧ Below w.heap.size w w' := by
  obtain ⟨t, sb, rfl, hm, hc⟩ := h.store.frame_call
  have c13 : w.cell? ⟨b, 13, none⟩ = some (.iface t (.pointer (some ⟨sb, 0, none⟩))) := h.cell 13
  have c2 : w.cell? ⟨b, 2, none⟩ = some (.int .i64 (win : Int)) := h.cell 2
  have hfr := h.ok.frame
  have hcf := confTo_frame x n
  have hw8 := h.hw
  have HB := hide h
  have e1 : ((x.frame : Int) == 200) = false := by rw [beq_eq_false_iff_ne]; omega
  have hsub := i64_id ((x.frame : Int) - (confTo x n : Int)) (by omega) (by omega)
  have e2 : ((x.frame : Int) - (confTo x n : Int) == (win : Int)) = true := by rw [beq_iff_eq]; omega
  clear h
  go_enter Tryz.func60, Tryz.ntmps60
  go_wp2_with fail
  refine (frame_cell sb x.frame w hc).mono ?_
  rintro e w1 ⟨rfl, rfl⟩
  go_wp2_with fail
  refine wp_moves_reads_tail0 9 (by kernel_rfl) (by kernel_rfl) (by kernel_rfl) (by kernel_rfl) ?_
  simp only [List.take_succ_cons, List.take_zero, List.drop_succ_cons, List.drop_zero]
  still_step
  still_step
  still_call (conf_any b num n win delay F FS x v _ w1.drew ((unhide HB).same (fun _ _ => rfl)))
  repeat still_step
  refine wpStill_nil ?_
  go_wp2_with fail
  refine (fault_any b num n win delay 4 F FS x v _ w1.drew ((unhide HB).same (fun _ _ => rfl))).mono ?_
  rintro e w2 ⟨g, rfl, hg1, hg2, hg3, hb2⟩
  go_wp2
  go_ret
  exact ⟨g, rfl, hg1, hg2, hg3, ⟨hb2.os, hb2.tape, hb2.output, hb2.size, hb2.block⟩⟩
end Go.Proofs.YtandblanpafjoabGreatDoor
