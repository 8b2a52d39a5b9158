import Derived.Test.YtandblanpafjoaaGreatDoorPack14
import Derived.Deep.DeepCutAuto
import Derived.Test.YtandblanpafjoaaGreatDoorPack12
import Derived.Test.YtandblanpafjoaaGreatDoorPack04
namespace Go.Proofs.YtandblanpafjoaaGreatDoor
open Go.RowKit Go.Extern.Stop Go.Stop Go.Extern Go.Maps
theorem rangeAt_sub {w : World} {g o : Nat} {cs : List Value} (h : w.rangeAt g o cs) (a m : Nat) : w.rangeAt g (o + a) ((cs.drop a).take m) := fun j v hv => by
  rw [List.getElem?_take] at hv
  split at hv
  · rw [List.getElem?_drop] at hv
    have := h (a + j) v hv
    rwa [← Nat.add_assoc] at this
  · cases hv
theorem page_map (m : List Int) (k : Nat) : (pageL m k).map (Value.int .u8) = ((m.map (Value.int .u8)).drop (16 * k)).take 16 := by simp [pageL, List.map_take, List.map_drop]
def upto (M : Nat → Option (List Int)) (k : Nat) : Nat → Option (List Int) := fun j => if j < k then M j else none
theorem upto_zero (M : Nat → Option (List Int)) : upto M 0 = fun _ => none := by funext j; simp [upto]
theorem upto_skip {M : Nat → Option (List Int)} {k : Nat} (h : M k = none) : upto M (k + 1) = upto M k := by
  funext j; unfold upto
  by_cases e : j = k
  · subst e; simp [h]
  · have : (j < k + 1) = (j < k) := by apply propext; omega
    simp [this]
theorem upto_put {M : Nat → Option (List Int)} {k : Nat} {l : List Int} (h : M k = some l) : upto M (k + 1) = updM (upto M k) k l := by
  funext j; unfold upto updM
  by_cases e : j = k
  · subst e; simp [h]
  · have : (j < k + 1) = (j < k) := by apply propext; omega
    simp [this, e]
theorem upto_all {M : Nat → Option (List Int)} (h : ∀ j, 18 ≤ j → M j = none) : upto M 18 = M := by
  funext j; unfold upto
  split
  · rfl
  · exact (h j (by omega)).symm
theorem diffL_out (a b : List Int) (j : Nat) (h : 18 ≤ j) : diffL a b j = none := by
  unfold diffL; rw [if_neg (by omega)]
theorem keep_dp {B : Nat} {W W2 : World} {sb : Nat} {nw : List Value} {u v : Value} (h : W.rangeAt sb 2 nw ∧ W.cell? ⟨sb, 291, none⟩ = some u ∧ W.cell? ⟨sb, 1, none⟩ = some v) (hb : Below B W W2) (hsb : sb < B) : W2.rangeAt sb 2 nw ∧ W2.cell? ⟨sb, 291, none⟩ = some u ∧ W2.cell? ⟨sb, 1, none⟩ = some v :=
  ⟨rangeAt_same h.1 (hb.block sb hsb), (hb.cell (p := ⟨sb, 291, none⟩) hsb).trans h.2.1, (hb.cell (p := ⟨sb, 1, none⟩) hsb).trans h.2.2⟩
set_option maxRecDepth 10000 in
set_option maxHeartbeats 4000000 in
theorem dplay_any (sb n win lo lo' frame pb rb : Nat) (mb : Nat → Nat) (F : Nat → Prop) (fs : Nat → List Int) (ins : List Int) (w : World) (h : DeltaAt w sb F n win lo frame fs pb rb mb) (hn2 : 2 ≤ n) (hn : n ≤ 4) (hl : ins.length = n) (hfs : ∀ f, f < frame → (fs f).length = n)
    (hri : ∀ j : Nat, 0 ≤ ins.getD j 0 ∧ ins.getD j 0 ≤ 255) (hW : 0 < win) (hf : frame ≤ 1000) (hlo : lo ≤ lo') (hlo' : frame < lo' + win) :
    Calls Tryz.prog 195 #[.pointer (some ⟨sb, 0, none⟩), .agg (nums .u8 (pad4 n ins))] w fun e w' => e = .returned (.tuple #[]) ∧ Chg F w w' ∧ DeltaAt w' sb F n win lo' (frame + 1) (updF fs frame ins) pb rb mb := by
  obtain ⟨a, b, c, d, e4⟩ := four (pad4_len hl hn)
  have HB := hide h
  have hlt := h.blk.lt
  have hln := h.blk.1
  have hz := Tryz.zeroMem
  have hz2 := Tryz.zeroPg
  have hbx : Blk (w.alloc (.cells (nums .u8 [a, b, c, d]) 199)) w.heap.size (nums .u8 [a, b, c, d]) 199 := Blk.new _ _ _
  have hb1 : Below w.heap.size w (w.alloc (.cells (nums .u8 [a, b, c, d]) 199)) := (Below.refl _ w).alloc (Nat.le_refl _) _
  have hs1 : (w.alloc (.cells (nums .u8 [a, b, c, d]) 199)).heap.size = w.heap.size + 1 := by simp
  have E4 := hide e4
  rw [e4]
  clear h e4
  go_enter Tryz.func195, Tryz.ntmps195
  go_wp2_with fail
  generalize (w.alloc (.cells (nums .u8 [a, b, c, d]) 199)) = W1 at *
  have h1 : StBlk W1 sb 261 n frame (stF n fs frame) pb win rb (win + 1) := (unhide HB).blk.same (hb1.block sb hlt)
  have hsl : W1.cell? ⟨rb, frame % (win + 1), none⟩ = some (.map (some (mb (frame % (win + 1))))) := (hb1.cell (p := ⟨rb, frame % (win + 1), none⟩) (unhide HB).rlt).trans ((unhide HB).slot frame)
  have hrl := (unhide HB).rlt
  have hS1 : W1.rangeAt sb 2 ((stF n fs frame).map (Value.int .u8)) ∧ W1.cell? ⟨sb, 291, none⟩ = some (.slice (some ⟨rb, 0, none⟩) (win + 1) (win + 1)) ∧ W1.cell? ⟨sb, 1, none⟩ = some (.int .i64 (frame : Int)) := ⟨h1.now, h1.c291, h1.c1⟩
  have hrl1 : rb < W1.heap.size := by omega
  have hsb1 : sb < W1.heap.size := by omega
  have HS1 := hide hs1
  clear hs1
  go_cut [4, 5] (fun s4 s5 wx => ∃ g, s4 = .pointer (some ⟨g, 0, none⟩) ∧ s5 = .map (some (mb (frame % (win + 1)))) ∧ W1.heap.size ≤ g ∧ Blk wx g (nums .u8 (stF n fs frame)) 209 ∧ Below W1.heap.size W1 wx)
  case first =>
    refine wp_region_noPanic ?_
    refine wp_held_reads 14 (fun W' => W'.rangeAt sb 2 ((stF n fs frame).map (Value.int .u8)) ∧ W'.cell? ⟨sb, 291, none⟩ = some (.slice (some ⟨rb, 0, none⟩) (win + 1) (win + 1)) ∧ W'.cell? ⟨sb, 1, none⟩ = some (.int .i64 (frame : Int))) (by kernel_rfl) (by decide) (by kernel_rfl) (by kernel_rfl) (fun _ _ _ _ _ h => h) ⟨(World.rangeAt_drew _ _ _ _).2 h1.now, h1.c291, h1.c1⟩ ?_
    simp only [List.take_succ_cons, List.take_zero]
    refine wpHeld_op ?v0 rfl ?h0 ?_
    case h0 => intro w' hS; obtain ⟨_, hS2, hS3⟩ := hS; go_simp; rfl
    refine wpHeld_op ?v1 rfl ?h1 ?_
    case h1 => intro w' hS; obtain ⟨_, hS2, hS3⟩ := hS; go_simp; rfl
    refine wpHeld_op ?v2 rfl ?h2 ?_
    case h2 => intro w' hS; obtain ⟨_, hS2, hS3⟩ := hS; go_simp; rfl
    refine wpHeld_op ?v3 rfl ?h3 ?_
    case h3 => intro w' hS; obtain ⟨_, hS2, hS3⟩ := hS; go_simp; rfl
    refine wpHeld_load_mid rfl 209 _ rfl sb 2 rfl ((stF n fs frame).map (Value.int .u8)) _ (fun w' hS => hS.1) Tryz.underlying209 rfl (by rw [List.length_map, hln]; exact (zero_of_info Tryz.infoMem).2) ?_
    refine wpHeld_op ?v5 rfl ?h5 ?_
    case h5 => intro w' hS; obtain ⟨_, hS2, hS3⟩ := hS; go_simp; rfl
    refine wpHeld_op ?v6 rfl ?h6 ?_
    case h6 => intro w' hS; obtain ⟨_, hS2, hS3⟩ := hS; go_simp; rfl
    refine wpHeld_op ?v7 rfl ?h7 ?_
    case h7 => intro w' hS; obtain ⟨_, hS2, hS3⟩ := hS; go_simp; rfl
    refine wpHeld_op ?v8 rfl ?h8 ?_
    case h8 => intro w' hS; obtain ⟨_, hS2, hS3⟩ := hS; go_simp; rfl
    refine wpHeld_op ?v9 rfl ?h9 ?_
    case h9 => intro w' hS; obtain ⟨_, hS2, hS3⟩ := hS; go_simp; rfl
    refine wpHeld_op ?v10 rfl ?h10 ?_
    case h10 => intro w' hS; obtain ⟨_, hS2, hS3⟩ := hS; go_simp; rfl
    refine wpHeld_op ?v11 rfl ?h11 ?_
    case h11 => intro w' hS; obtain ⟨_, hS2, hS3⟩ := hS; go_simp; rfl
    refine wpHeld_op ?v12 rfl ?h12 ?_
    case h12 => intro w' hS; obtain ⟨_, hS2, hS3⟩ := hS; go_simp; rfl
    refine wpHeld_op ?v13 rfl ?h13 ?_
    case h13 => intro w' hS; obtain ⟨_, hS2, hS3⟩ := hS; go_simp; rfl
    unfold wpHeld
    refine wpAnyH_all (rs := [14, 15]) (by kernel_rfl) (by simp) ?_
    intro i hi
    rcases (show i = 14 ∨ i = 15 by simpa using hi) with rfl | rfl
    · refine wpOp_of_list _ rfl rfl ?_
      go_wp2_with fail
      refine (rat_pg rb (win + 1) frame (mb (frame % (win + 1))) W1.drew (by omega) hsl).mono ?_
      rintro e w2 ⟨rfl, hb2⟩
      have hBB : Below W1.heap.size W1 w2 := ⟨hb2.os, hb2.tape, hb2.output, hb2.size, hb2.block⟩
      go_wp2_with fail
      refine ⟨keep_dp hS1 hBB hsb1, ?_⟩
      refine wpAnyH_all (rs := [15]) (by kernel_rfl) (by simp) ?_
      intro i hi
      obtain rfl : i = 15 := by simpa using hi
      refine wpOp_of_list _ rfl rfl ?_
      go_wp2_with fail
      have hB3 : Below W1.heap.size W1 (w2.alloc (.cells (nums .u8 Z288) 209)) := hBB.alloc hBB.size _
      refine ⟨keep_dp hS1 hB3 hsb1, ?_⟩
      refine wpAnyH_all (rs := [16]) (by kernel_rfl) (by simp) ?_
      intro i hi
      obtain rfl : i = 16 := by simpa using hi
      refine wpOp_of_list _ rfl rfl ?_
      go_wp2_with (first | (refine wpList_store_new rfl 209 _ _ rfl (nums .u8 Z288) (nums .u8 (stF n fs frame)) rfl rfl (Tryz.sizeMem _ hln) (by rw [nums_size, nums_size, hln]; rfl) (nums_one _ _) ?_))
      have hB4 : Below W1.heap.size W1 (w2.alloc (.cells (nums .u8 (stF n fs frame)) 209)) := hBB.alloc hBB.size _
      refine ⟨keep_dp hS1 hB4 hsb1, ?_⟩
      refine wpAnyH_all (rs := [17]) (by kernel_rfl) (by simp) ?_
      intro i hi
      obtain rfl : i = 17 := by simpa using hi
      refine wpOp_of_list _ rfl rfl ?_
      go_wp2_with fail
      refine ⟨keep_dp hS1 hB4 hsb1, ?_⟩
      refine ⟨by kernel_rfl, NoPanic.normal ?_⟩
      go_wp2
      go_meet
      case rel => exact ⟨w2.heap.size, rfl, rfl, hBB.size, Blk.new _ _ _, hB4⟩
    · refine wpOp_of_list _ rfl rfl ?_
      go_wp2_with fail
      have hB2 : Below W1.heap.size W1 (W1.drew.alloc (.cells (nums .u8 Z288) 209)) := (Below.refl _ W1).drew.alloc (Nat.le_refl _) _
      have hz2' : (W1.drew.alloc (.cells (nums .u8 Z288) 209)).heap.size = W1.heap.size + 1 := by simp
      have hx2 : Blk (W1.drew.alloc (.cells (nums .u8 Z288) 209)) W1.heap.size (nums .u8 Z288) 209 := Blk.new W1.drew _ _
      refine ⟨keep_dp hS1 hB2 hsb1, ?_⟩
      refine wpAnyH_all (rs := [14]) (by kernel_rfl) (by simp) ?_
      intro i hi
      obtain rfl : i = 14 := by simpa using hi
      refine wpOp_of_list _ rfl rfl ?_
      go_wp2_with fail
      refine (rat_pg rb (win + 1) frame (mb (frame % (win + 1))) (W1.drew.alloc (.cells (nums .u8 Z288) 209)) (by omega) ((hB2.cell (p := ⟨rb, frame % (win + 1), none⟩) hrl1).trans hsl)).mono ?_
      rintro e w2 ⟨rfl, hb2⟩
      have hBB : Below W1.heap.size W1 w2 := hB2.trans (hb2.mono (by omega))
      have hx3 : Blk w2 W1.heap.size (nums .u8 Z288) 209 := hx2.below (by omega) hb2
      go_wp2_with fail
      refine ⟨keep_dp hS1 hBB hsb1, ?_⟩
      refine wpAnyH_all (rs := [16]) (by kernel_rfl) (by simp) ?_
      intro i hi
      obtain rfl : i = 16 := by simpa using hi
      refine wpOp_of_list _ rfl rfl ?_
      go_wp2_with (first | (refine wpList_store_blk rfl 209 _ _ rfl W1.heap.size 209 (nums .u8 Z288) (nums .u8 (stF n fs frame)) rfl rfl hx3 (Tryz.sizeMem _ hln) (by rw [nums_size, nums_size, hln]; rfl) (nums_one _ _) ?_))
      have hB4 := below_setRow hBB (Nat.le_refl _) (nums .u8 (stF n fs frame))
      refine ⟨keep_dp hS1 hB4 hsb1, ?_⟩
      refine wpAnyH_all (rs := [17]) (by kernel_rfl) (by simp) ?_
      intro i hi
      obtain rfl : i = 17 := by simpa using hi
      refine wpOp_of_list _ rfl rfl ?_
      go_wp2_with fail
      refine ⟨keep_dp hS1 hB4 hsb1, ?_⟩
      refine ⟨by kernel_rfl, NoPanic.normal ?_⟩
      go_wp2
      go_meet
      case rel => exact ⟨W1.heap.size, rfl, rfl, Nat.le_refl _, hx3.setRow _, hB4⟩
  case rest =>
    obtain ⟨g, rfl, rfl, hg1, hgB, hBc⟩ := hcut
    have hz1 := unhide HS1
    have hBw : Below w.heap.size w wc := hb1.trans (hBc.mono (by omega))
    have hx3 : Blk wc w.heap.size (nums .u8 [a, b, c, d]) 199 := hbx.below (by omega) hBc
    clear h1 hbx hb1 hS1 hsl hrl1 hsb1
    go_wp2_with fail
    refine wp_moves_reads_tail0 4 (by kernel_rfl) (by kernel_rfl) (by kernel_rfl) (by kernel_rfl) ?_
    simp only [List.take_succ_cons, List.take_zero, List.drop_succ_cons, List.drop_zero]
    have r0 : wc.cell? ⟨w.heap.size, 0, none⟩ = some (.int .u8 a) := hx3.cell 0
    have r1 : wc.cell? ⟨w.heap.size, 1, none⟩ = some (.int .u8 b) := hx3.cell 1
    have r2 : wc.cell? ⟨w.heap.size, 2, none⟩ = some (.int .u8 c) := hx3.cell 2
    have r3 : wc.cell? ⟨w.heap.size, 3, none⟩ = some (.int .u8 d) := hx3.cell 3
    repeat still_step
    refine wpStill_nil ?_
    clear hx3 r0 r1 r2 r3
    go_wp2_with fail
    have cS := step_at sb n frame pb win rb (win + 1) lo' 261 (stF n fs frame) ins (fun f => insV n (fs f)) wc.drew ((unhide HB).blk.same (hBw.block sb hlt)) (((unhide HB).pl.less hlo (Nat.le_refl _)).same (hBw.block pb (unhide HB).pl.lt)) (fun f _ hff => insV_len (hfs f hff) hn) hlo' hn2 hn (stF_good hn fs frame) hl hri hW hf (Ne.symm (unhide HB).ne1)
    rw [unhide E4] at cS
    refine cS.mono ?_
    rintro e w5 ⟨rfl, hc5, h5, p5⟩
    clear cS
    have hfar := (unhide HB).far (frame % (win + 1)) (Nat.mod_lt frame (by omega))
    have hn5 : ∀ b, b < wc.heap.size → b ≠ sb → b ≠ pb → w5.heap[b]? = wc.heap[b]? := fun b hb h1 h2 => hc5.block b hb (fun e => e.elim h1 h2)
    have hgw : g < wc.heap.size := hgB.lt
    have hgsb : g ≠ sb := by omega
    have hpl := (unhide HB).pl.lt
    have hgpb : g ≠ pb := by omega
    have hg5 : Blk w5 g (nums .u8 (stF n fs frame)) 209 := (hn5 g hgw hgsb hgpb).trans hgB
    have hml := (unhide HB).next.lt
    have hm5 : PgMap w5 (mb (frame % (win + 1))) 0 (fun _ => none) := (unhide HB).next.same ((hn5 _ (by have := hBw.size; omega) hfar.1 hfar.2.1).trans (hBw.block _ hml))
    have hC5 : Chg F w w5 := ((Chg.ofBelow hBw).trans (Chg.drew F wc) (fun _ _ h => h)).trans hc5 (fun x _ hx => by
      rcases hx with hx | hx
      · rw [hx]; exact (unhide HB).f1
      · rw [hx]; exact (unhide HB).f2)
    have hs5 : wc.heap.size ≤ w5.heap.size := hc5.size
    have hl1 := (good_frame (stF_good hn fs frame) ins hn).len
    have HP5 := hide (And.intro p5 hn5)
    have HH5 := hide h5
    clear p5 hn5 h5 hc5 hgB hBc
    go_wp2_with (first | (refine wpList_load_blk rfl 209 _ rfl g rfl 209 (nums .u8 (stF n fs frame)) _ hg5 Tryz.underlying209 rfl (Tryz.sizeMem _ hln) ?_))
    clear hg5
    generalize hB0 : mb (frame % (win + 1)) = B0 at *
    go_loopw [29] (fun p wr => ∃ k : Nat, k ≤ 18 ∧ p = .int .i64 (k : Int) ∧ Chg F w wr ∧ w5.heap.size ≤ wr.heap.size ∧ (∀ q, q < w5.heap.size → q ≠ B0 → wr.heap[q]? = w5.heap[q]?) ∧ PgMap wr B0 k (upto (diffL (stF n fs frame) (frameL (stF n fs frame) n ins)) k)) (fun p _ => 18 - (intOf p).toNat)
    case atStart => exact ⟨0, by omega, rfl, hC5, Nat.le_refl _, fun _ _ _ => rfl, by rw [upto_zero]; exact hm5⟩
    case round =>
      clear hC5 hm5
      obtain ⟨k, hk, rfl, hC, hsz, hsame, hmap⟩ := hrel
      by_cases hlt2 : k < 18
      · have hdk : decide ((k : Int) < 18) = true := by simp; omega
        have hk0 : (0 : Int) ≤ (k : Int) := by omega
        have hk1 : (k : Int) < 18 := by omega
        have hpl0 := pageL_len (stF n fs frame) k hln hlt2
        have hpl1 := pageL_len (frameL (stF n fs frame) n ins) k hl1 hlt2
        have hidx : ∀ W : World, (Instr.index 209 (.agg (nums .u8 (stF n fs frame))) (.int .i64 (k : Int))).run Tryz.prog W = .ok (.agg (nums .u8 (pageL (stF n fs frame) k))) W := fun W => by
          rw [run_index_part W 209 207 18 16 _ _ k Tryz.underlying209 Tryz.underlying207 rfl (zero_of_info Tryz.infoPg).2 hlt2, nums_extract, show k * 16 + 16 - k * 16 = 16 by omega, Nat.mul_comm k 16]; rfl
        go_wp2_with (first | (refine wpList_store_new rfl 207 _ _ rfl (nums .u8 (List.replicate 16 0)) (nums .u8 (pageL (stF n fs frame) k)) rfl rfl (Tryz.sizePg _ hpl0) (by rw [nums_size, nums_size, hpl0]; rfl) (nums_one _ _) ?_))
        have hs6 : StBlk (wr.alloc (.cells (nums .u8 (pageL (stF n fs frame) k)) 207)) sb 261 n (frame + 1) (frameL (stF n fs frame) n ins) pb win rb (win + 1) := (unhide HH5).same (((Below.refl _ wr).alloc (Nat.le_refl _) _).block sb (by have := (unhide HH5).lt; omega) |>.trans (hsame sb (unhide HH5).lt (Ne.symm hfar.1)))
        have hx6 : Blk (wr.alloc (.cells (nums .u8 (pageL (stF n fs frame) k)) 207)) wr.heap.size (nums .u8 (pageL (stF n fs frame) k)) 207 := Blk.new _ _ _
        obtain ⟨D, hown, hD⟩ := hmap
        have ho6 := hown.alloc (.cells (nums .u8 (pageL (stF n fs frame) k)) 207)
        have hC6 : Chg F w (wr.alloc (.cells (nums .u8 (pageL (stF n fs frame) k)) 207)) := hC.trans (Chg.alloc F wr _) (fun _ _ h => h)
        have hsame6 : ∀ q, q < w5.heap.size → q ≠ B0 → (wr.alloc (.cells (nums .u8 (pageL (stF n fs frame) k)) 207)).heap[q]? = w5.heap[q]? := fun q hq hne => (((Below.refl _ wr).alloc (Nat.le_refl _) _).block q (by omega)).trans (hsame q hq hne)
        have hz6 : w5.heap.size ≤ (wr.alloc (.cells (nums .u8 (pageL (stF n fs frame) k)) 207)).heap.size := by simp; omega
        have hbox : Blk (wr.alloc (.cells (nums .u8 (pageL (stF n fs frame) k)) 207)) wr.heap.size ([] ++ ((pageL (stF n fs frame) k).map (Value.int .u8) ++ [])).toArray 207 := by simpa [nums] using hx6
        have hr0 := Blk.rangeAt (a := []) hbox
        have hr1 := rangeAt_sub hs6.now (16 * k) 16
        rw [← page_map] at hr1
        clear hbox hown hC hsame hsz
        generalize hV6 : wr.alloc (.cells (nums .u8 (pageL (stF n fs frame) k)) 207) = V6 at *
        have hgd : Tryz.prog.eqGuardType Tryz.prog.depth 207 = false := by kernel_rfl
        have hneq : ∀ W : World, (binOp .neq 207 (.agg ((pageL (stF n fs frame) k).map (Value.int .u8)).toArray) (.agg ((pageL (frameL (stF n fs frame) n ins) k).map (Value.int .u8)).toArray)).run Tryz.prog W = .ok (.bool (!decide (pageL (stF n fs frame) k = pageL (frameL (stF n fs frame) n ins) k))) W := fun W =>
          run_binneq_nums W 207 5 .u8 16 Tryz.underlying207 Tryz.underlying5 (by kernel_rfl) _ _ hpl0 hpl1
        go_wp2_with fail
        try rw [hV6]
        refine wp_moves_reads_tail0 8 (by kernel_rfl) (by kernel_rfl) (by kernel_rfl) (by kernel_rfl) ?_
        simp only [List.take_succ_cons, List.take_zero, List.drop_succ_cons, List.drop_zero]
        refine wpStill_load_mid rfl 207 _ rfl wr.heap.size 0 rfl ((pageL (stF n fs frame) k).map (Value.int .u8)) _ ((World.rangeAt_drew _ _ _ _).2 hr0) Tryz.underlying207 rfl (by rw [List.length_map, hpl0]; exact (zero_of_info Tryz.infoPg).2) ?_
        still_step
        still_step
        still_step
        still_step
        still_step
        still_step
        refine wpStill_load_mid rfl 207 _ rfl sb (2 + k * 16) (by simp [Act.eval]) ((pageL (frameL (stF n fs frame) n ins) k).map (Value.int .u8)) _ ((World.rangeAt_drew _ _ _ _).2 (by rw [Nat.mul_comm k 16]; exact hr1)) Tryz.underlying207 rfl (by rw [List.length_map, hpl1]; exact (zero_of_info Tryz.infoPg).2) ?_
        refine wpStill_nil ?_
        by_cases hd : pageL (stF n fs frame) k = pageL (frameL (stF n fs frame) n ins) k
        · have hnq : ∀ W : World, (binOp .neq 207 (.agg ((pageL (stF n fs frame) k).map (Value.int .u8)).toArray) (.agg ((pageL (frameL (stF n fs frame) n ins) k).map (Value.int .u8)).toArray)).run Tryz.prog W = .ok (.bool false) W := fun W => by rw [hneq W]; simp [hd]
          have hnone : diffL (stF n fs frame) (frameL (stF n fs frame) n ins) k = none := by unfold diffL; rw [if_neg (by simp [hd])]
          clear hneq hr0 hr1 hs6 hd
          go_wp2_with fail
          go_roundw
          case rel => exact ⟨k + 1, by omega, by go_num, hC6.trans (Chg.drew F V6) (fun _ _ h => h), hz6, hsame6, by rw [upto_skip hnone]; exact ⟨D, ho6.mono (by omega), hD⟩⟩
          case measure => simp [intOf]; omega
        · have hnq : ∀ W : World, (binOp .neq 207 (.agg ((pageL (stF n fs frame) k).map (Value.int .u8)).toArray) (.agg ((pageL (frameL (stF n fs frame) n ins) k).map (Value.int .u8)).toArray)).run Tryz.prog W = .ok (.bool true) W := fun W => by rw [hneq W]; simp [hd]
          have hsome : diffL (stF n fs frame) (frameL (stF n fs frame) n ins) k = some (pageL (stF n fs frame) k) := by unfold diffL; rw [if_pos ⟨hlt2, hd⟩]
          have hwf : (Lit.int .i64 (k : Int)).wf = true := WalkArith.wf_i64 (by omega)
          have ho6' : V6.drew.ownsMap Tryz.prog 3 pgElem B0 k D := ho6
          have hx6' : Blk V6.drew wr.heap.size (nums .u8 (pageL (stF n fs frame) k)) 207 := hx6
          clear hneq hr0 hr1 hs6 ho6
          go_wp2_with (first | (refine wpList_load_blk rfl 207 _ rfl wr.heap.size rfl 207 (nums .u8 (pageL (stF n fs frame) k)) _ hx6' Tryz.underlying207 rfl (Tryz.sizePg _ hpl0) ?_) | (at_mapUpdate; refine wpList_mapUpdate_own _ rfl _ _ _ 259 rfl 3 207 Tryz.keyedInt Tryz.underlying259 pgElem B0 k D rfl ho6' (by unfold maxLen; omega) _ _ (kI k) rfl rfl (keyOf_int_mk Tryz.underlying3 hwf) (.held (pageL (stF n fs frame) k)) [] (pgElem_mk _ hpl0) ?_; intro w8 ho8 hg8))
          try go_frame
          have hz8 := hg8.size
          refine ⟨⟨k + 1, by omega, by go_num, (hC6.trans (Chg.drew F V6) (fun _ _ h => h)).trans (Chg.ofGrown (F := F) hg8 hfar.2.2.2) (fun _ _ h => h), Nat.le_trans hz6 hz8, fun q hq hne => (hg8.block q (by simp; omega) (fun e => hne (by injection e))).trans (hsame6 q hq hne), ?_⟩, by simp [intOf]; omega⟩
          rw [upto_put hsome]
          exact ⟨_, ho8, hD.put ho6'.isMap k hlt2 _ hpl0⟩
      · have hk18 : k = 18 := by omega
        subst hk18
        rw [upto_all (diffL_out _ _)] at hmap
        have hs6 : StBlk wr sb 261 n (frame + 1) (frameL (stF n fs frame) n ins) pb win rb (win + 1) := (unhide HH5).same (hsame sb (unhide HH5).lt (Ne.symm hfar.1))
        obtain ⟨p5, hn5⟩ := unhide HP5
        have p6 := p5.same (hsame pb p5.lt (Ne.symm hfar.2.1))
        have hold : ∀ q, q < w.heap.size → q ≠ sb → q ≠ pb → q ≠ B0 → wr.heap[q]? = w.heap[q]? := fun q hq h1 h2 h3 => ((hsame q (by have := hBw.size; omega) h3).trans (hn5 q (by have := hBw.size; omega) h1 h2)).trans (hBw.block q hq)
        obtain ⟨tr, hr0⟩ := (unhide HB).ring
        have r6 : Blk wr rb ((List.range (win + 1)).map fun i => Value.map (some (mb i))).toArray tr := (hold rb hr0.lt (Ne.symm (unhide HB).ne2) (Ne.symm (unhide HB).ne3) (Ne.symm hfar.2.2.1)).trans hr0
        have hW1 : 0 < win + 1 := by omega
        have hf1 := Nat.mod_lt (frame + 1) hW1
        have hsl : wr.drew.cell? ⟨rb, (frame + 1) % (win + 1), none⟩ = some (.map (some (mb ((frame + 1) % (win + 1))))) := by
          rw [show wr.drew.cell? ⟨rb, (frame + 1) % (win + 1), none⟩ = wr.cell? ⟨rb, (frame + 1) % (win + 1), none⟩ from rfl, r6.cell]
          simp [hf1]
        have hne2 : frame % (win + 1) ≠ (frame + 1) % (win + 1) := mod_apart (by omega) (by omega)
        have hBne : mb ((frame + 1) % (win + 1)) ≠ B0 := fun e => hne2 ((unhide HB).inj _ _ (Nat.mod_lt frame hW1) hf1 (by rw [hB0, e]))
        have hfar1 := (unhide HB).far _ hf1
        obtain ⟨M0, hM0⟩ := (unhide HB).maps _ hf1
        have hM6 := hM0.same (hold _ hM0.lt hfar1.1 hfar1.2.1 hBne)
        have hml6 := hM6.lt
        obtain ⟨D0, ho0, _⟩ := hM6
        have k1 := hs6.c1
        have k291 := hs6.c291
        have hdk : decide (((18 : Nat) : Int) < 18) = false := by simp
        have H6 := hide (And.intro hs6 (And.intro p6 (And.intro r6 (And.intro hmap (And.intro hC hold)))))
        clear hs6 p6 r6 hmap hC hold hsame p5 hn5
        go_wp2_with fail
        refine wp_moves_reads_tail0 9 (by kernel_rfl) (by kernel_rfl) (by kernel_rfl) (by kernel_rfl) ?_
        simp only [List.take_succ_cons, List.take_zero, List.drop_succ_cons, List.drop_zero]
        repeat still_step
        refine wpStill_nil ?_
        go_wp2_with fail
        have cR := rat_pg rb (win + 1) (frame + 1) (mb ((frame + 1) % (win + 1))) wr.drew hW1 hsl
        rw [show ((frame + 1 : Nat) : Int) = (frame : Int) + 1 by omega] at cR
        refine cR.mono ?_
        rintro e w7 ⟨rfl, hb7⟩
        clear cR
        have hB7 : Below wr.heap.size wr w7 := ⟨hb7.os, hb7.tape, hb7.output, hb7.size, hb7.block⟩
        have ho7 : w7.ownsMap Tryz.prog 3 pgElem (mb ((frame + 1) % (win + 1))) 18 D0 := by
          obtain ⟨es, c', hbb, hr⟩ := ho0
          exact ⟨es, c', (hB7.block _ hml6).trans hbb, hr⟩
        go_wp2_with (first | (refine wpList_clear_own rfl _ 259 3 207 rfl Tryz.underlying259 pgElem (mb ((frame + 1) % (win + 1))) 18 D0 rfl ho7 ?_; intro w8 ho8 hg8 hs8))
        try go_frame
        go_end0
        obtain ⟨hs6, p6, r6, hmap, hC, hold⟩ := unhide H6
        have g0 := unhide HB
        have hk8 : ∀ q, q < wr.heap.size → q ≠ mb ((frame + 1) % (win + 1)) → w8.heap[q]? = wr.heap[q]? := fun q hq hne => (hg8.block q (by have := hB7.size; omega) (fun e => hne (by injection e))).trans (hB7.block q hq)
        have hmap8 : PgMap w8 B0 18 (diffL (stF n fs frame) (frameL (stF n fs frame) n ins)) := hmap.same (hk8 _ hmap.lt (Ne.symm hBne))
        have n8 : PgMap w8 (mb ((frame + 1) % (win + 1))) 0 (fun _ => none) := ⟨_, ho8, PgD.empty⟩
        have oth : ∀ i, i < win + 1 → i ≠ frame % (win + 1) → i ≠ (frame + 1) % (win + 1) → ∀ nn M, PgMap w (mb i) nn M → PgMap w8 (mb i) nn M := fun i hi h1 h2 nn M hM =>
          have hf := g0.far i hi
          have e0 : mb i ≠ B0 := fun e => h1 (g0.inj i _ hi (Nat.mod_lt frame hW1) (by rw [hB0, e]))
          (hM.same (hold _ hM.lt hf.1 hf.2.1 e0)).same (hk8 _ (by have := (hM.same (hold _ hM.lt hf.1 hf.2.1 e0)).lt; omega) (fun e => h2 (g0.inj i _ hi hf1 e)))
        refine ⟨rfl, ?_, ?_⟩
        · exact hC.trans (b := wr) (F := F) (G := F) ⟨hg8.os.trans hB7.os, hg8.tape.trans hB7.tape, hg8.output.trans hB7.output, by rw [hs8]; exact hB7.size, fun q hq hF => hk8 q hq (fun e => hF (by rw [e]; exact hfar1.2.2.2))⟩ (fun _ _ h => h)
        · refine ⟨?_, ?_, ⟨tr, (hk8 _ r6.lt (Ne.symm hfar1.2.2.1)).trans r6⟩, ?_, ?_, n8, g0.inj, g0.far, g0.ne1, g0.ne2, g0.ne3, g0.f1, g0.f2, g0.f3⟩
          · rw [stF_next]; exact hs6.same (hk8 _ hs6.lt (Ne.symm hfar1.1))
          · refine (p6.same (hk8 _ p6.lt (Ne.symm hfar1.2.1))).congr (fun f _ _ => ?_)
            unfold updF
            split <;> rfl
          · intro i hi
            by_cases e1 : i = frame % (win + 1)
            · subst e1; rw [hB0]; exact ⟨_, hmap8⟩
            · by_cases e2 : i = (frame + 1) % (win + 1)
              · subst e2; exact ⟨_, n8.mono (by omega)⟩
              · obtain ⟨M, hM⟩ := g0.maps i hi
                exact ⟨M, oth i hi e1 e2 18 M hM⟩
          · intro f h1 h2
            by_cases e : f = frame
            · subst e
              rw [hB0, stF_upd n fs f f ins (Nat.le_refl _), stF_next]; exact hmap8
            · have hM := g0.past f (by omega) (by omega)
              rw [stF_upd n fs frame f ins (by omega), stF_upd n fs frame (f + 1) ins (by omega)]
              exact oth _ (Nat.mod_lt f hW1) (mod_apart (f := f) (g := frame) (by omega) (by omega)) (mod_apart (f := f) (g := frame + 1) (by omega) (by omega)) 18 _ hM
end Go.Proofs.YtandblanpafjoaaGreatDoor

namespace Go.Proofs.YtandblanpafjoaaGreatDoor
open Go.RowKit Go.Extern.Stop Go.Stop Go.Extern
def StoreAt (w : World) (st : Value) (F : Nat → Prop) (n win lo frame : Nat) (fs : Nat → List Int) : Prop :=
  (∃ sb pb rb, st = .iface 227 (.pointer (some ⟨sb, 0, none⟩)) ∧ FullAt w sb F n win lo frame fs pb rb) ∨
  (∃ sb pb rb mb, st = .iface 225 (.pointer (some ⟨sb, 0, none⟩)) ∧ DeltaAt w sb F n win lo frame fs pb rb mb)
theorem StoreAt.same {w w' : World} {st : Value} {F : Nat → Prop} {n win lo frame : Nat} {fs : Nat → List Int} (h : StoreAt w st F n win lo frame fs) (hs : Same F w w') : StoreAt w' st F n win lo frame fs := by
  rcases h with ⟨sb, pb, rb, e, h⟩ | ⟨sb, pb, rb, mb, e, h⟩
  · exact .inl ⟨sb, pb, rb, e, h.same hs⟩
  · exact .inr ⟨sb, pb, rb, mb, e, h.same hs⟩
theorem StoreAt.congr {w : World} {st : Value} {F : Nat → Prop} {n win lo frame : Nat} {fs gs : Nat → List Int} (h : StoreAt w st F n win lo frame fs) (he : ∀ f, f < frame → gs f = fs f) : StoreAt w st F n win lo frame gs := by
  rcases h with ⟨sb, pb, rb, e, h⟩ | ⟨sb, pb, rb, mb, e, h⟩
  · exact .inl ⟨sb, pb, rb, e, h.congr he⟩
  · exact .inr ⟨sb, pb, rb, mb, e, h.congr he⟩
theorem mFrameF (a : Addr) (w : World) : (Go.method 429 227 (.pointer (some a)) "Frame").run Tryz.prog w = .ok (194, .pointer (some (a.add 0))) w := by kernel_rfl
theorem mFrameD (a : Addr) (w : World) : (Go.method 429 225 (.pointer (some a)) "Frame").run Tryz.prog w = .ok (194, .pointer (some (a.add 0))) w := by kernel_rfl
theorem mPlayF (a : Addr) (w : World) : (Go.method 429 227 (.pointer (some a)) "Play").run Tryz.prog w = .ok (209, .pointer (some a)) w := by kernel_rfl
theorem mPlayD (a : Addr) (w : World) : (Go.method 429 225 (.pointer (some a)) "Play").run Tryz.prog w = .ok (195, .pointer (some a)) w := by kernel_rfl
theorem mStateF (a : Addr) (w : World) : (Go.method 429 227 (.pointer (some a)) "State").run Tryz.prog w = .ok (210, .pointer (some a)) w := by kernel_rfl
theorem mStateD (a : Addr) (w : World) : (Go.method 429 225 (.pointer (some a)) "State").run Tryz.prog w = .ok (197, .pointer (some a)) w := by kernel_rfl
theorem mBackF (a : Addr) (w : World) : (Go.method 429 227 (.pointer (some a)) "Back").run Tryz.prog w = .ok (208, .pointer (some a)) w := by kernel_rfl
theorem mBackD (a : Addr) (w : World) : (Go.method 429 225 (.pointer (some a)) "Back").run Tryz.prog w = .ok (193, .pointer (some a)) w := by kernel_rfl
theorem mPlayedF (a : Addr) (w : World) : (Go.method 429 227 (.pointer (some a)) "Played").run Tryz.prog w = .ok (196, .pointer (some (a.add 0))) w := by kernel_rfl
theorem mPlayedD (a : Addr) (w : World) : (Go.method 429 225 (.pointer (some a)) "Played").run Tryz.prog w = .ok (196, .pointer (some (a.add 0))) w := by kernel_rfl
def pCells (num n win delay dropped : Nat) (v : Nat → Value) (ak : Nat → Nat) (st : Value) : List Value :=
  [.int .i64 (num : Int), .int .i64 (n : Int), .int .i64 (win : Int), .int .i64 (delay : Int), .int .i64 (dropped : Int), v 0, v 1, v 2, v 3, .int .i64 (ak 0 : Int), .int .i64 (ak 1 : Int), .int .i64 (ak 2 : Int), .int .i64 (ak 3 : Int), st]
/-- A peer but for its store. -/
structure PeerK (w : World) (b : Nat) (F FS : Nat → Prop) (num n win delay : Nat) (x : PeerM) (v : Nat → Value) (st : Value) : Prop where
  blk : Blk w b (pCells num n win delay x.dropped v (fun q => if q < n then x.acked q else 0) st).toArray 122
  known : ∀ q, q < n → w.ownsRow 0 5 1 (v q) (x.known q).length ((x.known q).map (Value.int .u8))
  nils : ∀ q, n ≤ q → v q = .slice none 0 0
  lens : ∀ q, q < n → (x.known q).length ≤ 203
  fb : F b
  fk : ∀ q k, q < n → (v q).ownBlock = some k → F k ∧ k ≠ b ∧ ¬ FS k
  fd : ∀ q q' k, q < n → q' < n → (v q).ownBlock = some k → (v q').ownBlock = some k → q = q'
  fs : ∀ k, FS k → F k ∧ k ≠ b
  hn2 : 2 ≤ n
  hn4 : n ≤ 4
  hw : 1 ≤ win ∧ win ≤ 8
  hnum : num < n
  drop : x.dropped ≤ 1000000000
structure PeerAt (w : World) (b : Nat) (F FS : Nat → Prop) (num n win delay : Nat) (x : PeerM) (v : Nat → Value) (st : Value) : Prop extends PeerK w b F FS num n win delay x v st where
  store : StoreAt w st FS n win (x.frame - win) x.frame (insM x n)
  ok : POk x num n win delay
theorem PeerK.same {w w' : World} {b : Nat} {F FS : Nat → Prop} {num n win delay : Nat} {x : PeerM} {v : Nat → Value} {st : Value} (h : PeerK w b F FS num n win delay x v st) (hs : Same F w w') : PeerK w' b F FS num n win delay x v st :=
  ⟨h.blk.same hs h.fb, fun q hq => owns_same (h.known q hq) (fun k hk => hs k (h.fk q k hq hk).1), h.nils, h.lens, h.fb, h.fk, h.fd, h.fs, h.hn2, h.hn4, h.hw, h.hnum, h.drop⟩
theorem PeerAt.same {w w' : World} {b : Nat} {F FS : Nat → Prop} {num n win delay : Nat} {x : PeerM} {v : Nat → Value} {st : Value} (h : PeerAt w b F FS num n win delay x v st) (hs : Same F w w') : PeerAt w' b F FS num n win delay x v st :=
  ⟨h.toPeerK.same hs, h.store.same (hs.mono (fun k hk => (h.fs k hk).1)), h.ok⟩
theorem PeerK.cell {w : World} {b : Nat} {F FS : Nat → Prop} {num n win delay : Nat} {x : PeerM} {v : Nat → Value} {st : Value} (h : PeerK w b F FS num n win delay x v st) (i : Nat) : w.cell? ⟨b, i, none⟩ = (pCells num n win delay x.dropped v (fun q => if q < n then x.acked q else 0) st)[i]? := by
  rw [h.blk.cell]; simp
theorem PeerAt.cell {w : World} {b : Nat} {F FS : Nat → Prop} {num n win delay : Nat} {x : PeerM} {v : Nat → Value} {st : Value} (h : PeerAt w b F FS num n win delay x v st) (i : Nat) : w.cell? ⟨b, i, none⟩ = (pCells num n win delay x.dropped v (fun q => if q < n then x.acked q else 0) st)[i]? := h.toPeerK.cell i
theorem PeerK.cK {w : World} {b : Nat} {F FS : Nat → Prop} {num n win delay : Nat} {x : PeerM} {v : Nat → Value} {st : Value} (h : PeerK w b F FS num n win delay x v st) (q : Nat) (hq : q < 4) : w.cell? ⟨b, 5 + q, none⟩ = some (v q) := by
  rw [h.cell]
  rcases q with _ | _ | _ | _ | q
  · rfl
  · rfl
  · rfl
  · rfl
  · omega
theorem PeerK.cA {w : World} {b : Nat} {F FS : Nat → Prop} {num n win delay : Nat} {x : PeerM} {v : Nat → Value} {st : Value} (h : PeerK w b F FS num n win delay x v st) (q : Nat) (hq : q < n) : w.cell? ⟨b, 9 + q, none⟩ = some (.int .i64 (x.acked q : Int)) := by
  rw [h.cell]
  have := h.hn4
  rcases q with _ | _ | _ | _ | q
  · simp [pCells, hq]
  · simp [pCells, hq]
  · simp [pCells, hq]
  · simp [pCells, hq]
  · omega
theorem PeerK.shape {w : World} {b : Nat} {F FS : Nat → Prop} {num n win delay : Nat} {x : PeerM} {v : Nat → Value} {st : Value} (h : PeerK w b F FS num n win delay x v st) (q : Nat) (hq : q < n) : ∃ ao c, v q = .slice ao (x.known q).length c ∧ (∀ a, ao = some a → ∃ g, a = ⟨g, 0, none⟩ ∧ g < w.heap.size ∧ (x.known q).length ≤ c ∧ ∀ j, j < (x.known q).length → w.cell? ⟨g, j, none⟩ = some (.int .u8 ((x.known q).getD j 0))) ∧ (ao = none → (x.known q).length = 0 ∧ c = 0) := by
  obtain ⟨h1, h2⟩ := h.known q hq
  rcases h2 with ⟨e, h0⟩ | ⟨g, cap, cur, e, _, hg, hc, _, hs, ht⟩
  · exact ⟨none, 0, by rw [e, h0], fun a ha => (by cases ha), fun _ => ⟨h0, rfl⟩⟩
  · refine ⟨some ⟨g, 0, none⟩, cap, e, fun a ha => ?_, fun ha => (by cases ha)⟩
    cases ha
    refine ⟨g, rfl, (Array.getElem?_eq_some_iff.1 hg).1, hc, fun j hj => ?_⟩
    rw [cell_of_row w g j cur 5 (0, 0) hg]
    have := congrArg (fun l => l[j]?) ht
    simp only [Nat.mul_one, List.getElem?_take, hj, if_true, Array.getElem?_toList, List.getElem?_map] at this
    rw [this]
    simp [hj]
end Go.Proofs.YtandblanpafjoaaGreatDoor

