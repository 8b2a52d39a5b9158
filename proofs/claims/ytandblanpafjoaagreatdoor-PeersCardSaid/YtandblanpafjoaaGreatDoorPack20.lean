import Derived.Test.YtandblanpafjoaaGreatDoorPack19
import Derived.Deep.QuietTactic
import Derived.BigQuiet
namespace Go.Proofs.YtandblanpafjoaaGreatDoor
open Go.RowKit Go.Extern.Stop Go.Stop Go.Extern
set_option maxRecDepth 10000 in
set_option maxHeartbeats 2000000 in
theorem padvance_yes (b num n win delay : Nat) (i : Int) (F FS : Nat → Prop) (x : PeerM) (v : Nat → Value) (st : Value) (w : World) (h : PeerAt w b F FS num n win delay x v st) (hi : 0 ≤ i ∧ i ≤ 255) (hF : ∀ k, F k → k < w.heap.size) (he : x.frame < 200) (hs : x.frame < confTo x n + win) :
    Calls Tryz.prog 83 #[.pointer (some ⟨b, 0, none⟩), .int .u8 i] w fun e w' => e = .returned .nilIface ∧ Chg F w w' ∧ ∃ F' FS' v', (∀ k, F' k → F k ∨ w.heap.size ≤ k) ∧ PeerAt w' b F' FS' num n win delay (stepM x num i) v' st := by
  obtain ⟨t, sb, est, hm, hc⟩ := h.store.frame_call
  have c13 : w.cell? ⟨b, 13, none⟩ = some (.iface t (.pointer (some ⟨sb, 0, none⟩))) := by rw [← est]; exact h.cell 13
  have c2 : w.cell? ⟨b, 2, none⟩ = some (.int .i64 (win : Int)) := h.cell 2
  have hfr := h.ok.frame
  have hcf := confTo_frame x n
  have hw8 := h.hw
  have HB := hide h
  have e1 : ((x.frame : Int) == 200) = false := by rw [beq_eq_false_iff_ne]; omega
  have hsub := i64_id ((x.frame : Int) - (confTo x n : Int)) (by omega) (by omega)
  have e2 : ((x.frame : Int) - (confTo x n : Int) == (win : Int)) = false := by rw [beq_eq_false_iff_ne]; omega
  clear h
  go_enter Tryz.func83, Tryz.ntmps83
  go_wp2_with fail
  refine (frame_cell sb x.frame w hc).mono ?_
  rintro e w1 ⟨rfl, rfl⟩
  go_wp2_with fail
  refine wp_moves_reads_tail0 9 (by kernel_rfl) (by kernel_rfl) (by kernel_rfl) (by kernel_rfl) ?_
  simp only [List.take_succ_cons, List.take_zero, List.drop_succ_cons, List.drop_zero]
  still_step
  still_step
  still_call (conf_any b num n win delay F FS x v _ w1.drew ((unhide HB).same (fun _ _ => rfl)))
  repeat still_step
  refine wpStill_nil ?_
  go_wp2_with fail
  have hn4 := (unhide HB).hn4
  have hnum := (unhide HB).hnum
  have q0 : (0 : Int) ≤ (num : Int) := by omega
  have q1 : (num : Int) < 4 := by omega
  have c0 : w1.cell? ⟨b, 0, none⟩ = some (.int .i64 (num : Int)) := (unhide HB).cell 0
  have ck := (unhide HB).cK num (by omega)
  have hbl := (unhide HB).blk.lt
  obtain ⟨i8, hi8, hz0, hz1, hz2⟩ := info_parts Tryz.infoU8
  have hown := (unhide HB).known num hnum
  have hlen := (unhide HB).ok.len num hnum
  refine wp_region_noPanic ?_
  refine wp_held_tail 15 19 (fun W' => W'.cell? ⟨b, 0, none⟩ = some (.int .i64 (num : Int)) ∧ W'.cell? ⟨b, 5 + num, none⟩ = some (v num)) (by kernel_rfl) (by decide) (by kernel_rfl) (by kernel_rfl) (by kernel_rfl) (fun _ _ _ _ _ h => h) ⟨c0, ck⟩ ?_
  simp only [List.take_succ_cons, List.take_zero, List.drop_succ_cons, List.drop_zero]
  refine wpHeld_op ?v0 rfl ?h0 ?_
  case h0 => intro w' hS; obtain ⟨hS1, hS2⟩ := hS; go_simp; rfl
  refine wpHeld_op ?v1 rfl ?h1 ?_
  case h1 => intro w' hS; obtain ⟨hS1, hS2⟩ := hS; go_simp; rfl
  refine wpHeld_op ?v2 rfl ?h2 ?_
  case h2 => intro w' hS; obtain ⟨hS1, hS2⟩ := hS; go_simp; rfl
  refine wpHeld_op ?v3 rfl ?h3 ?_
  case h3 => intro w' hS; obtain ⟨hS1, hS2⟩ := hS; go_simp; rfl
  refine wpHeld_op ?v4 rfl ?h4 ?_
  case h4 => intro w' hS; obtain ⟨hS1, hS2⟩ := hS; go_simp; rfl
  refine wpHeld_op ?v5 rfl ?h5 ?_
  case h5 => intro w' hS; obtain ⟨hS1, hS2⟩ := hS; go_simp; rfl
  refine wpHeld_op ?v6 rfl ?h6 ?_
  case h6 => intro w' hS; obtain ⟨hS1, hS2⟩ := hS; go_simp; rfl
  refine wpHeld_op ?v7 rfl ?h7 ?_
  case h7 => intro w' hS; obtain ⟨hS1, hS2⟩ := hS; go_simp; rfl
  refine wpHeld_op ?v8 rfl ?h8 ?_
  case h8 => intro w' hS; obtain ⟨hS1, hS2⟩ := hS; go_simp; rfl
  refine wpHeld_op ?v9 rfl ?h9 ?_
  case h9 => intro w' hS; obtain ⟨hS1, hS2⟩ := hS; go_simp; rfl
  refine wpHeld_op ?v10 rfl ?h10 ?_
  case h10 => intro w' hS; obtain ⟨hS1, hS2⟩ := hS; go_simp; rfl
  refine wpHeld_op ?v11 rfl ?h11 ?_
  case h11 => intro w' hS; obtain ⟨hS1, hS2⟩ := hS; go_simp; rfl
  refine wpHeld_op ?v12 rfl ?h12 ?_
  case h12 => intro w' hS; obtain ⟨hS1, hS2⟩ := hS; go_simp; rfl
  refine wpHeld_op ?v13 rfl ?h13 ?_
  case h13 => intro w' hS; obtain ⟨hS1, hS2⟩ := hS; go_simp; rfl
  refine wpHeld_op ?v14 rfl ?h14 ?_
  case h14 => intro w' hS; obtain ⟨hS1, hS2⟩ := hS; go_simp; rfl
  unfold wpHeld
  refine wpAnyH_take (i := 17) (v := ?w17) rfl (by kernel_rfl) (by kernel_rfl) (by kernel_rfl) (fun _ _ _ h => h) (Or.inl ⟨by rfl, ?g17⟩) ⟨c0, ck⟩ ?_
  case g17 => intro w' _; go_simp; rfl
  refine wpAnyH_take (i := 18) (v := ?w18) rfl (by kernel_rfl) (by kernel_rfl) (by kernel_rfl) (fun _ _ _ h => h) (Or.inl ⟨by rfl, ?g18⟩) ⟨c0, ck⟩ ?_
  case g18 => intro w' _; go_simp; rfl
  refine wpAnyH_all (rs := [15]) (by kernel_rfl) (by simp) ?_
  intro j hj
  obtain rfl : j = 15 := by simpa using hj
  refine wpOp_of_list _ rfl rfl ?_
  go_wp2_with fail
  have hBa : Below w1.heap.size w1 (w1.drew.drew.alloc (.cells #[.int .u8 i] 5)) := (Below.refl _ w1).drew.drew.alloc (Nat.le_refl _) _
  refine ⟨⟨(hBa.cell (p := ⟨b, 0, none⟩) hbl).trans c0, (hBa.cell (p := ⟨b, 5 + num, none⟩) hbl).trans ck⟩, ?_⟩
  refine wpAnyH_all (rs := [16]) (by kernel_rfl) (by simp) ?_
  intro j hj
  obtain rfl : j = 16 := by simpa using hj
  refine wpOp_of_list _ rfl rfl ?_
  have hownA : (w1.drew.drew.alloc (.cells #[.int .u8 i] 5)).ownsRow 0 5 1 (v num) (x.known num).length ((x.known num).map (Value.int .u8)) := owns_same hown (fun k hk => hBa.block k (by have := hown.lt k hk; omega))
  refine wpList_append_own_at (w1.drew.drew.alloc (.cells #[.int .u8 i] 5)) rfl (.tmp 41) (.tmp 43) 46 rfl 0 5 i8 (.int .u8 0) 1 1 Tryz.underlying46 hi8 hz0 hz1 hz2 rfl (by decide) (v num) _ _ rfl hownA ⟨w1.heap.size, 0, none⟩ 1 1 [.int .u8 i] rfl rfl (cell_one_new _ _ _) (by simp [Value.oneCell']) (by unfold maxLen; omega) (by omega) (Nat.zero_le _) ?_
  intro v' w3 hown3 hg3 hnil3 hloc3
  obtain ⟨g', cap', rfl, _, _, _⟩ := own_some hown3 (by omega)
  have hBw : ∀ k, k < w1.heap.size → (v num).ownBlock ≠ some k → w3.heap[k]? = w1.heap[k]? := fun k hk hne => (hg3.block k (by have := hBa.size; omega) (Ne.symm hne)).trans (hBa.block k hk)
  have hbne : (v num).ownBlock ≠ some b := fun e => ((unhide HB).fk num b hnum e).2.1 rfl
  have hb3 : Blk w3 b (pCells num n win delay x.dropped v (fun q => if q < n then x.acked q else 0) st).toArray 122 := (hBw b hbl hbne).trans (unhide HB).blk
  have ck3 : w3.cell? ⟨b, 5 + num, none⟩ = some (v num) := (World.cell?_of_block (a := ⟨b, 5 + num, none⟩) (hBw b hbl hbne)).trans ck
  have fr3 := hb3.frozen (5 + num)
  have c03 : w3.cell? ⟨b, 0, none⟩ = some (.int .i64 (num : Int)) := (World.cell?_of_block (a := ⟨b, 0, none⟩) (hBw b hbl hbne)).trans c0
  refine ⟨⟨c03, ck3⟩, ⟨by kernel_rfl, ?_⟩⟩
  have H3 := hide (And.intro hown3 (And.intro hg3 hloc3))
  clear hown3 hg3 hloc3 hnil3 hownA hown c03
  change wpList _ _ _ _ _ _
  go_wp2_with fail
  refine NoPanic.normal ?_
  go_wp2_with fail
  obtain ⟨hown3, hg3, hloc3⟩ := unhide H3
  have hdel := (unhide HB).ok.delay
  have hownN := (unhide HB).ok.own
  have K4 := PeerK.learn (w3 := w3) (unhide HB).toPeerK hnum (l := x.known num ++ [i]) (u := .slice (some ⟨g', 0, none⟩) ((x.known num).length + 1) cap') (m := (w1.drew.drew.alloc (.cells #[.int .u8 i] 5)).heap.size) (by simp; omega) hF (by simp) hBw (by simpa using hown3) hloc3
  have hSt4 : StoreAt (w3.setCell ⟨b, 5 + num, none⟩ (.slice (some ⟨g', 0, none⟩) ((x.known num).length + 1) cap')) st FS n win (x.frame - win) x.frame (insM x n) := (unhide HB).store.same (fun k hk => by
    have h1 := (unhide HB).fs k hk
    rw [heap_setCell_other _ _ _ _ (fun e => h1.2 e)]
    exact hBw k (hF k h1.1) (fun e => ((unhide HB).fk num k hnum e).2.2 hk))
  have C4 : Chg (fun k => k = b ∨ (v num).ownBlock = some k) w1 (w3.setCell ⟨b, 5 + num, none⟩ (.slice (some ⟨g', 0, none⟩) ((x.known num).length + 1) cap')) :=
    Chg.thenCell ⟨hg3.os.trans hBa.os, hg3.tape.trans hBa.tape, hg3.output.trans hBa.output, Nat.le_trans hBa.size hg3.size, fun k hk hF' => hBw k hk (fun e => hF' (.inr e))⟩ b (5 + num) _ (.inl rfl)
  have hfoot : ∀ k, (Value.slice (some ⟨g', 0, none⟩) ((x.known num).length + 1) cap').ownBlock = some k → F k ∨ w1.heap.size ≤ k := fun k hk => by
    rcases hloc3 with e | e
    · rw [e] at hk; exact .inl ((unhide HB).fk num k hnum hk).1
    · rw [e] at hk; injection hk with hk; right; rw [← hk]; simp
  have hF4 : ∀ k, (F k ∨ (Value.slice (some ⟨g', 0, none⟩) ((x.known num).length + 1) cap').ownBlock = some k) → k < w3.heap.size := fun k hk => by
    rcases hk with hk | hk
    · have := hF k hk; have := hg3.size; have := hBa.size; omega
    · exact (hown3.lt k hk).2
  rw [show w3.heap.size = (w3.setCell ⟨b, 5 + num, none⟩ (.slice (some ⟨g', 0, none⟩) ((x.known num).length + 1) cap')).heap.size by simp] at hF4
  clear hown3 hg3 hloc3 H3 hb3 fr3 ck3 hBa hBw c0 ck c13 c2 hc hm est
  generalize w3.setCell ⟨b, 5 + num, none⟩ (.slice (some ⟨g', 0, none⟩) ((x.known num).length + 1) cap') = w4 at *
  rcases hSt4 with ⟨sb2, pb, rb, est2, hS⟩ | ⟨sb2, pb, rb, mb, est2, hS⟩
  · skip
    subst est2
    have hmP := mPlayF ⟨sb2, 0, none⟩
    refine wp_region_noPanic ?_
    refine wp_held_tail 6 9 (fun W' => W'.cell? ⟨b, 13, none⟩ = some (.iface 227 (.pointer (some ⟨sb2, 0, none⟩)))) (by kernel_rfl) (by decide) (by kernel_rfl) (by kernel_rfl) (by kernel_rfl) (fun _ _ _ _ _ h => h) (K4.cell 13) ?_
    simp only [List.take_succ_cons, List.take_zero, List.drop_succ_cons, List.drop_zero]
    refine wpHeld_op ?yF0 rfl ?zF0 ?_
    case zF0 => intro w' hS; go_simp; rfl
    refine wpHeld_op ?yF1 rfl ?zF1 ?_
    case zF1 => intro w' hS; go_simp; rfl
    refine wpHeld_op ?yF2 rfl ?zF2 ?_
    case zF2 => intro w' hS; go_simp; rfl
    refine wpHeld_op ?yF3 rfl ?zF3 ?_
    case zF3 => intro w' hS; go_simp; rfl
    refine wpHeld_op ?yF4 rfl ?zF4 ?_
    case zF4 => intro w' hS; go_simp; rfl
    refine wpHeld_op ?yF5 rfl ?zF5 ?_
    case zF5 => intro w' hS; go_simp; rfl
    unfold wpHeld
    refine wpAnyH_take (i := 7) (v := .iface 227 (.pointer (some ⟨sb2, 0, none⟩))) rfl (by kernel_rfl) (by kernel_rfl) (by kernel_rfl) (fun _ _ _ h => h) (Or.inl ⟨by rfl, ?g7F⟩) (K4.cell 13) ?_
    case g7F => intro w' _; go_simp
    refine wpAnyH_take (i := 8) (v := .iface 227 (.pointer (some ⟨sb2, 0, none⟩))) rfl (by kernel_rfl) (by kernel_rfl) (by kernel_rfl) (fun _ _ _ h => h) (Or.inl ⟨by rfl, ?g8F⟩) (K4.cell 13) ?_
    case g8F => intro w' _; go_simp
    refine wpAnyH_all (rs := [6]) (by kernel_rfl) (by simp) ?_
    intro j hj
    obtain rfl : j = 6 := by simpa using hj
    refine wpOp_of_list _ rfl rfl ?_
    go_wp2_with fail
    refine (inputs_any b num n win delay x.frame _ FS _ _ _ w4.drew (K4.same (fun _ _ => rfl)) (by omega)).mono ?_
    rintro e w5 ⟨rfl, hb5⟩
    have hB5 : Below w4.heap.size w4 w5 := ⟨hb5.os, hb5.tape, hb5.output, hb5.size, hb5.block⟩
    go_wp2_with fail
    refine ⟨(hB5.cell (p := ⟨b, 13, none⟩) K4.blk.lt).trans (K4.cell 13), ⟨by kernel_rfl, ?_⟩⟩
    change wpList _ _ _ _ _ _
    go_wp2_with fail
    have hstep := (unhide HB).ok.step hnum i hi he hs
    refine (fplay_any sb2 n win (x.frame - win) (x.frame + 1 - win) x.frame pb rb FS (insM x n) (insM (stepM x num i) n x.frame) w5 (hS.same (fun k hk => hB5.block k (hF4 k (.inl ((unhide HB).fs k hk).1)))) (unhide HB).hn2 hn4 (insM_len _ _ _) (fun f _ => insM_len _ _ _) (insM_rng hstep x.frame) hw8.1 (by omega) (by omega) (by omega)).mono ?_
    rintro e w6 ⟨rfl, hC6, hS6⟩
    go_wp2_with fail
    refine NoPanic.normal ?_
    go_wp2
    go_ret
    have hk6 : ∀ k, k < w4.heap.size → ¬ FS k → w6.heap[k]? = w4.heap[k]? := fun k hk hFS => (hC6.block k (by have := hB5.size; omega) hFS).trans (hB5.block k hk)
    have K6 := K4.but (w' := w6) (fun k hk hFS => hk6 k (hF4 k hk) hFS)
    refine ⟨rfl, ?_, _, FS, _, fun k hk => hk.elim .inl (hfoot k), ⟨⟨K6.blk, K6.known, K6.nils, K6.lens, K6.fb, K6.fk, K6.fd, K6.fs, K6.hn2, K6.hn4, K6.hw, K6.hnum, K6.drop⟩, ?_, hstep⟩⟩
    · refine ((C4.mono (F := F) ?_).thenBelow (hB5.mono C4.size)).trans hC6 (fun k _ hk => ((unhide HB).fs k hk).1)
      rintro k _ (rfl | hk)
      · exact (unhide HB).fb
      · exact ((unhide HB).fk num k hnum hk).1
    · refine StoreAt.congr (fs := updF (insM x n) x.frame (insM (stepM x num i) n x.frame)) (.inl ⟨sb2, pb, rb, rfl, hS6⟩) (fun f hf => ?_)
      by_cases e : f = x.frame
      · subst e; rw [updF_same]
      · rw [updF_other _ _ _ _ e, stepM_ins (unhide HB).ok i f (by have : f < x.frame + 1 := hf; omega)]
  · skip
    subst est2
    have hmP := mPlayD ⟨sb2, 0, none⟩
    refine wp_region_noPanic ?_
    refine wp_held_tail 6 9 (fun W' => W'.cell? ⟨b, 13, none⟩ = some (.iface 225 (.pointer (some ⟨sb2, 0, none⟩)))) (by kernel_rfl) (by decide) (by kernel_rfl) (by kernel_rfl) (by kernel_rfl) (fun _ _ _ _ _ h => h) (K4.cell 13) ?_
    simp only [List.take_succ_cons, List.take_zero, List.drop_succ_cons, List.drop_zero]
    refine wpHeld_op ?yD0 rfl ?zD0 ?_
    case zD0 => intro w' hS; go_simp; rfl
    refine wpHeld_op ?yD1 rfl ?zD1 ?_
    case zD1 => intro w' hS; go_simp; rfl
    refine wpHeld_op ?yD2 rfl ?zD2 ?_
    case zD2 => intro w' hS; go_simp; rfl
    refine wpHeld_op ?yD3 rfl ?zD3 ?_
    case zD3 => intro w' hS; go_simp; rfl
    refine wpHeld_op ?yD4 rfl ?zD4 ?_
    case zD4 => intro w' hS; go_simp; rfl
    refine wpHeld_op ?yD5 rfl ?zD5 ?_
    case zD5 => intro w' hS; go_simp; rfl
    unfold wpHeld
    refine wpAnyH_take (i := 7) (v := .iface 225 (.pointer (some ⟨sb2, 0, none⟩))) rfl (by kernel_rfl) (by kernel_rfl) (by kernel_rfl) (fun _ _ _ h => h) (Or.inl ⟨by rfl, ?g7D⟩) (K4.cell 13) ?_
    case g7D => intro w' _; go_simp
    refine wpAnyH_take (i := 8) (v := .iface 225 (.pointer (some ⟨sb2, 0, none⟩))) rfl (by kernel_rfl) (by kernel_rfl) (by kernel_rfl) (fun _ _ _ h => h) (Or.inl ⟨by rfl, ?g8D⟩) (K4.cell 13) ?_
    case g8D => intro w' _; go_simp
    refine wpAnyH_all (rs := [6]) (by kernel_rfl) (by simp) ?_
    intro j hj
    obtain rfl : j = 6 := by simpa using hj
    refine wpOp_of_list _ rfl rfl ?_
    go_wp2_with fail
    refine (inputs_any b num n win delay x.frame _ FS _ _ _ w4.drew (K4.same (fun _ _ => rfl)) (by omega)).mono ?_
    rintro e w5 ⟨rfl, hb5⟩
    have hB5 : Below w4.heap.size w4 w5 := ⟨hb5.os, hb5.tape, hb5.output, hb5.size, hb5.block⟩
    go_wp2_with fail
    refine ⟨(hB5.cell (p := ⟨b, 13, none⟩) K4.blk.lt).trans (K4.cell 13), ⟨by kernel_rfl, ?_⟩⟩
    change wpList _ _ _ _ _ _
    go_wp2_with fail
    have hstep := (unhide HB).ok.step hnum i hi he hs
    refine (dplay_any sb2 n win (x.frame - win) (x.frame + 1 - win) x.frame pb rb mb FS (insM x n) (insM (stepM x num i) n x.frame) w5 (hS.same (fun k hk => hB5.block k (hF4 k (.inl ((unhide HB).fs k hk).1)))) (unhide HB).hn2 hn4 (insM_len _ _ _) (fun f _ => insM_len _ _ _) (insM_rng hstep x.frame) hw8.1 (by omega) (by omega) (by omega)).mono ?_
    rintro e w6 ⟨rfl, hC6, hS6⟩
    go_wp2_with fail
    refine NoPanic.normal ?_
    go_wp2
    go_ret
    have hk6 : ∀ k, k < w4.heap.size → ¬ FS k → w6.heap[k]? = w4.heap[k]? := fun k hk hFS => (hC6.block k (by have := hB5.size; omega) hFS).trans (hB5.block k hk)
    have K6 := K4.but (w' := w6) (fun k hk hFS => hk6 k (hF4 k hk) hFS)
    refine ⟨rfl, ?_, _, FS, _, fun k hk => hk.elim .inl (hfoot k), ⟨⟨K6.blk, K6.known, K6.nils, K6.lens, K6.fb, K6.fk, K6.fd, K6.fs, K6.hn2, K6.hn4, K6.hw, K6.hnum, K6.drop⟩, ?_, hstep⟩⟩
    · refine ((C4.mono (F := F) ?_).thenBelow (hB5.mono C4.size)).trans hC6 (fun k _ hk => ((unhide HB).fs k hk).1)
      rintro k _ (rfl | hk)
      · exact (unhide HB).fb
      · exact ((unhide HB).fk num k hnum hk).1
    · refine StoreAt.congr (fs := updF (insM x n) x.frame (insM (stepM x num i) n x.frame)) (.inr ⟨sb2, pb, rb, mb, rfl, hS6⟩) (fun f hf => ?_)
      by_cases e : f = x.frame
      · subst e; rw [updF_same]
      · rw [updF_other _ _ _ _ e, stepM_ins (unhide HB).ok i f (by have : f < x.frame + 1 := hf; omega)]
end Go.Proofs.YtandblanpafjoaaGreatDoor

namespace Go.Proofs.YtandblanpafjoaaGreatDoor
open Go.RowKit Go.Extern.Stop Go.Stop Go.Extern
/-- What a peer takes of a packet whose bytes are one. -/
def TakesM (x : PeerM) (num n delay fr start ack L : Nat) : Prop := fr ≠ num ∧ fr < n ∧ start ≤ (x.known fr).length ∧ start + L ≤ 200 + delay ∧ ack ≤ (x.known num).length
instance (x : PeerM) (num n delay fr start ack L : Nat) : Decidable (TakesM x num n delay fr start ack L) := by unfold TakesM; infer_instance
theorem below_drewN {B : Nat} {w w' : World} (h : Below B w w') (n : Nat) : Below B w (w'.drewN n) := ⟨h.os, h.tape, h.output, h.size, h.block⟩
set_option maxRecDepth 10000 in
set_option maxHeartbeats 2000000 in
theorem refuses_any (b num n win delay fr start ack L cap : Nat) (ao : Option Addr) (F FS : Nat → Prop) (x : PeerM) (v : Nat → Value) (st : Value) (w : World) (h : PeerK w b F FS num n win delay x v st) (hd : delay ≤ 3)
    (hfr : fr ≤ 255) (hs : start ≤ 65535) (hL : L ≤ 70000) :
    Calls Tryz.prog 86 #[.pointer (some ⟨b, 0, none⟩), .agg #[.int .i64 (fr : Int), .int .i64 (start : Int), .int .i64 (ack : Int), .slice ao L cap]] w fun e w' => e = .returned (.bool (!decide (TakesM x num n delay fr start ack L))) ∧ Below w.heap.size w w' := by
  have hn4 := h.hn4
  have hnum := h.hnum
  have hbl := h.blk.lt
  have bB : Below w.heap.size w (w.alloc (.cells #[.int .i64 (fr : Int), .int .i64 (start : Int), .int .i64 (ack : Int), .slice ao L cap] 130)) := (Below.refl _ w).alloc (Nat.le_refl _) _
  have xB : Blk (w.alloc (.cells #[.int .i64 (fr : Int), .int .i64 (start : Int), .int .i64 (ack : Int), .slice ao L cap] 130)) w.heap.size #[.int .i64 (fr : Int), .int .i64 (start : Int), .int .i64 (ack : Int), .slice ao L cap] 130 := Blk.new _ _ _
  have HB := hide h
  clear h
  go_enter Tryz.func86, Tryz.ntmps86
  go_wp2_with fail
  generalize w.alloc (.cells #[.int .i64 (fr : Int), .int .i64 (start : Int), .int .i64 (ack : Int), .slice ao L cap] 130) = W1 at *
  have m0 : W1.cell? ⟨w.heap.size, 0, none⟩ = some (.int .i64 (fr : Int)) := xB.cell 0
  have m1 : W1.cell? ⟨w.heap.size, 1, none⟩ = some (.int .i64 (start : Int)) := xB.cell 1
  have m2 : W1.cell? ⟨w.heap.size, 2, none⟩ = some (.int .i64 (ack : Int)) := xB.cell 2
  have m3 : W1.cell? ⟨w.heap.size, 3, none⟩ = some (.slice ao L cap) := xB.cell 3
  have c0 : W1.cell? ⟨b, 0, none⟩ = some (.int .i64 (num : Int)) := (bB.cell (p := ⟨b, 0, none⟩) hbl).trans ((unhide HB).cell 0)
  have c1 : W1.cell? ⟨b, 1, none⟩ = some (.int .i64 (n : Int)) := (bB.cell (p := ⟨b, 1, none⟩) hbl).trans ((unhide HB).cell 1)
  have c3 : W1.cell? ⟨b, 3, none⟩ = some (.int .i64 (delay : Int)) := (bB.cell (p := ⟨b, 3, none⟩) hbl).trans ((unhide HB).cell 3)
  obtain ⟨ao1, cp1, hv1, _, _⟩ := (unhide HB).shape num hnum
  have ck1 : W1.cell? ⟨b, 5 + num, none⟩ = some (.slice ao1 (x.known num).length cp1) := by rw [← hv1]; exact (bB.cell (p := ⟨b, 5 + num, none⟩) hbl).trans ((unhide HB).cK num (by omega))
  have hl1 := (unhide HB).lens num hnum
  have n0 : (0 : Int) ≤ (num : Int) := by omega
  have n1 : (num : Int) < 4 := by omega
  have hw1 : IntKind.i64.wrap ((start : Int) + (L : Int)) = (start : Int) + (L : Int) := i64_id _ (by omega) (by omega)
  have hw2 : IntKind.i64.wrap (200 + (delay : Int)) = 200 + (delay : Int) := i64_id _ (by omega) (by omega)
  have HX := hide bB
  clear xB bB
  by_cases h1 : fr = num
  · have e1 : ((fr : Int) == (num : Int)) = true := by simp [h1]
    have hR : decide (TakesM x num n delay fr start ack L) = false := by simp [TakesM, h1]
    clear h1
    go_quiet (fail)
    go_wp2
    go_ret
    exact ⟨by rw [hR]; rfl, below_drewN (unhide HX) _⟩
  · have e1 : ((fr : Int) == (num : Int)) = false := by simp; omega
    by_cases h2 : n ≤ fr
    · have e2 : decide (n ≤ fr) = true := by simp; omega
      have hR : decide (TakesM x num n delay fr start ack L) = false := decide_eq_false (fun h => by obtain ⟨_, _, _, _, _⟩ := h; omega)
      clear h1 h2
      go_quiet (fail)
      go_wp2
      go_ret
      exact ⟨by rw [hR]; rfl, below_drewN (unhide HX) _⟩
    · have e2 : decide (n ≤ fr) = false := by simp; omega
      have hfn : fr < n := by omega
      obtain ⟨ao2, cp2, hv2, _, _⟩ := (unhide HB).shape fr hfn
      have ck2 : W1.cell? ⟨b, 5 + fr, none⟩ = some (.slice ao2 (x.known fr).length cp2) := by rw [← hv2]; exact ((unhide HX).cell (p := ⟨b, 5 + fr, none⟩) hbl).trans ((unhide HB).cK fr (by omega))
      have hl2 := (unhide HB).lens fr hfn
      have f0 : (0 : Int) ≤ (fr : Int) := by omega
      have f1 : (fr : Int) < 4 := by omega
      by_cases h3 : (x.known fr).length < start
      · have e3 : decide ((x.known fr).length < start) = true := by simp; omega
        have hR : decide (TakesM x num n delay fr start ack L) = false := decide_eq_false (fun h => by obtain ⟨_, _, _, _, _⟩ := h; omega)
        clear h1 h2 h3
        go_quiet (fail)
        go_wp2
        go_ret
        exact ⟨by rw [hR]; rfl, below_drewN (unhide HX) _⟩
      · have e3 : decide ((x.known fr).length < start) = false := by simp; omega
        by_cases h4 : 200 + delay < start + L
        · have e4 : decide (200 + (delay : Int) < (start : Int) + (L : Int)) = true := by simp; omega
          have hR : decide (TakesM x num n delay fr start ack L) = false := decide_eq_false (fun h => by obtain ⟨_, _, _, _, _⟩ := h; omega)
          clear h1 h2 h3 h4
          go_quiet (fail)
          go_wp2
          go_ret
          exact ⟨by rw [hR]; rfl, below_drewN (unhide HX) _⟩
        · have e4 : decide (200 + (delay : Int) < (start : Int) + (L : Int)) = false := by simp; omega
          by_cases h5 : (x.known num).length < ack
          · have e5 : decide ((x.known num).length < ack) = true := by simp; omega
            have hR : decide (TakesM x num n delay fr start ack L) = false := decide_eq_false (fun h => by obtain ⟨_, _, _, _, _⟩ := h; omega)
            clear h1 h2 h3 h4 h5
            go_quiet (fail)
            go_wp2
            go_ret
            exact ⟨by rw [hR]; rfl, below_drewN (unhide HX) _⟩
          · have e5 : decide ((x.known num).length < ack) = false := by simp; omega
            have hR : decide (TakesM x num n delay fr start ack L) = true := decide_eq_true ⟨by omega, by omega, by omega, by omega, by omega⟩
            clear h1 h2 h3 h4 h5
            go_quiet (fail)
            go_wp2
            go_ret
            exact ⟨by rw [hR]; rfl, below_drewN (unhide HX) _⟩
end Go.Proofs.YtandblanpafjoaaGreatDoor

