import Derived.Test.YtandblanpafjoabGreatDoorFullS
namespace Go.Proofs.YtandblanpafjoabGreatDoor
open Go.RowKit Go.Extern.Stop Go.Stop Go.Extern

set_option maxRecDepth 10000 in
set_option maxHeartbeats 2000000 in
theorem fstate_any (sb n win lo frame pb rb f : Nat) (F : Nat → Prop) (fs : Nat → List Int) (w : World) (h : FullAt w sb F n win lo frame fs pb rb) (hn : n ≤ 4) (hW : 0 < win) (hl : lo ≤ f) (hf : f ≤ frame) :
    Calls Tryz.prog 188 #[.pointer (some ⟨sb, 0, none⟩), .int .i64 (f : Int)] w fun e w' => e = .returned (.agg (nums .u8 (stF n fs f))) ∧ Below w.heap.size w w' := by
  have hz := Tryz.zeroMem
  have hlt := h.blk.lt
  have hb1 : Below w.heap.size w (w.alloc (.cells (nums .u8 Z288) 106)) := (Below.refl _ w).alloc (Nat.le_refl _) _
  have hbx : Blk (w.alloc (.cells (nums .u8 Z288) 106)) w.heap.size (nums .u8 Z288) 106 := Blk.new _ _ _
  have hs1 : (w.alloc (.cells (nums .u8 Z288) 106)).heap.size = w.heap.size + 1 := by simp
  have hlen := stF_len hn fs f
  have HB := hide h
  clear h
  obtain ⟨W1, hW1⟩ : ∃ W1, w.alloc (.cells (nums .u8 Z288) 106) = W1 := ⟨_, rfl⟩
  rw [hW1] at hb1 hbx hs1
  have h1 : StBlk W1 sb 257 n frame (stF n fs frame) pb win rb win := (unhide HB).blk.same (hb1.block sb hlt)
  have k1 := h1.c1
  have k291 := h1.c291
  have hnow := h1.now
  by_cases he : f = frame
  · have hei : ((f : Int) == (frame : Int)) = true := by simp [he]
    go_enter Tryz.func188, Tryz.ntmps188
    go_wp2_with (first | (rw [hW1]) | (refine wpList_load_mid rfl 106 _ rfl sb 2 rfl ((stF n fs frame).map (Value.int .u8)) _ hnow Tryz.underlying106 rfl (by rw [List.length_map, stF_len hn]; exact (zero_of_info Tryz.infoMem).2) ?_) | (refine wpList_store_blk rfl 106 _ _ rfl w.heap.size 106 (nums .u8 Z288) (nums .u8 (stF n fs frame)) rfl rfl hbx (Tryz.sizeMem _ (stF_len hn fs frame)) (by rw [nums_size, nums_size, stF_len hn]; rfl) (nums_one _ _) ?_))
    rw [he] at *
    refine bodyPost_ret (v := .agg (nums .u8 (stF n fs frame))) ?_ rfl ⟨rfl, ?_⟩
    · exact results_cell_row Tryz.results188 _ _ w.heap.size 106 _ (0, 0) _ rfl (hbx.setRow _) Tryz.underlying106 rfl (Tryz.sizeMem _ (stF_len hn fs frame))
    · exact below_setRow hb1 (Nat.le_refl _) _
  · have hei : ((f : Int) == (frame : Int)) = false := by rw [beq_eq_false_iff_ne]; omega
    have hrg := rangeAt_same ((unhide HB).st.at_ f hl (by omega)) (hb1.block rb (unhide HB).st.lt)
    go_enter Tryz.func188, Tryz.ntmps188
    go_wp2_with fail
    refine (rat_mem rb win f (stF n fs f) _ hW hlen hrg).mono ?_
    rintro e w2 ⟨rfl, hb2⟩
    have hbx2 : Blk w2 w.heap.size (nums .u8 Z288) 106 := hbx.below (by omega) hb2
    have hbW : Below w.heap.size w w2 := hb1.trans (hb2.mono (by omega))
    go_wp2_with (first | (refine wpList_store_blk rfl 106 _ _ rfl w.heap.size 106 (nums .u8 Z288) (nums .u8 (stF n fs f)) rfl rfl hbx2 (Tryz.sizeMem _ hlen) (by rw [nums_size, nums_size, hlen]; rfl) (nums_one _ _) ?_))
    refine bodyPost_ret (v := .agg (nums .u8 (stF n fs f))) ?_ rfl ⟨rfl, ?_⟩
    · exact results_cell_row Tryz.results188 _ _ w.heap.size 106 _ (0, 0) _ rfl (hbx2.setRow _) Tryz.underlying106 rfl (Tryz.sizeMem _ hlen)
    · exact below_setRow hbW (Nat.le_refl _) _

set_option maxRecDepth 10000 in
set_option maxHeartbeats 2000000 in
theorem fback_any (sb n win lo frame pb rb f : Nat) (F : Nat → Prop) (fs : Nat → List Int) (w : World) (h : FullAt w sb F n win lo frame fs pb rb) (hn : n ≤ 4) (hW : 0 < win) (hl : lo ≤ f) (hf : f ≤ frame) :
    Calls Tryz.prog 186 #[.pointer (some ⟨sb, 0, none⟩), .int .i64 (f : Int)] w fun e w' => e = .returned (.tuple #[]) ∧ Chg F w w' ∧ FullAt w' sb F n win lo f fs pb rb := by
  have hlen := stF_len hn fs f
  have HB := hide h
  clear h
  go_enter Tryz.func186, Tryz.ntmps186
  go_wp2_with fail
  refine (fstate_any sb n win lo frame pb rb f F fs w (unhide HB) hn hW hl hf).mono ?_
  rintro e w2 ⟨rfl, hb2⟩
  have hlt := (unhide HB).blk.lt
  have h2 : StBlk w2 sb 257 n frame (stF n fs frame) pb win rb win := (unhide HB).blk.same (hb2.block sb hlt)
  have h5 : StBlk (w2.setCells sb 2 (nums .u8 (stF n fs f)).toList) sb 257 n frame (stF n fs f) pb win rb win := h2.putNow (stF n fs f) hlen
  have c5 := h5.c1
  have f5 := h5.frozen 1
  have HTH := hide h2.there
  have H5 := hide h5
  clear h2 h5
  go_wp2_with (first | (refine wpList_store_mid rfl 106 _ _ rfl sb 2 (nums .u8 (stF n fs f)) rfl rfl (by rw [nums_size, hlen]; exact unhide HTH) (Tryz.sizeMem _ hlen) (nums_one _ _) ?_))
  go_end0
  have g := unhide HB
  refine ⟨rfl, ((Chg.ofBelow hb2).thenCells sb _ _ g.f1).thenCell sb 1 _ g.f1, (unhide H5).putFrame f, ?_, ?_, g.ne1, g.ne2, g.ne3, g.f1, g.f2, g.f3⟩
  · refine (g.pl.less (Nat.le_refl _) hf).same ?_
    rw [heap_setCell_other _ _ _ _ (fun e => g.ne1 e.symm), heap_setCells_other (Ne.symm g.ne1), hb2.block pb g.pl.lt]
  · refine (g.st.less (Nat.le_refl _) hf).same ?_
    rw [heap_setCell_other _ _ _ _ (fun e => g.ne2 e.symm), heap_setCells_other (Ne.symm g.ne2), hb2.block rb g.st.lt]
end Go.Proofs.YtandblanpafjoabGreatDoor
