import Derived.Test.YtandblanpafjoabGreatDoorPack27
import Derived.Maps.AppendAt
namespace Go.Proofs.YtandblanpafjoabGreatDoor
open Go.RowKit Go.Extern.Stop Go.Stop Go.Extern

set_option maxRecDepth 10000 in
set_option maxHeartbeats 2000000 in
theorem padvance_end (b num n win delay : Nat) (i : Int) (F FS : Nat → Prop) (x : PeerM) (v : Nat → Value) (st : Value) (w : World) (h : PeerAt w b F FS num n win delay x v st) (he : x.frame = 200) :
    Calls Tryz.prog 60 #[.pointer (some ⟨b, 0, none⟩), .int .u8 i] w fun e w' => ∃ g, e = .returned (.iface 96 (.pointer (some ⟨g, 0, none⟩))) ∧ w.heap.size ≤ g ∧ w'.cell? ⟨g, 0, none⟩ = some (.int .i64 (num : Int)) ∧ w'.cell? ⟨g, 1, none⟩ = some (.int .i64 3) ∧ Below w.heap.size w w' := by
  obtain ⟨t, sb, rfl, hm, hc⟩ := h.store.frame_call
  have c13 : w.cell? ⟨b, 13, none⟩ = some (.iface t (.pointer (some ⟨sb, 0, none⟩))) := h.cell 13
  have HB := hide h
  have HE := hide he
  have e1 : ((x.frame : Int) == 200) = true := by simp [he]
  clear h he
  go_enter Tryz.func60, Tryz.ntmps60
  go_wp2_with fail
  refine (frame_cell sb x.frame w hc).mono ?_
  rintro e w1 ⟨rfl, rfl⟩
  go_wp2_with fail
  refine (fault_any b num n win delay 3 F FS x v _ w1 (unhide HB)).mono ?_
  rintro e w2 ⟨g, rfl, hg1, hg2, hg3, hb2⟩
  go_wp2
  go_ret
  exact ⟨g, rfl, hg1, hg2, hg3, hb2⟩

set_option maxRecDepth 10000 in
set_option maxHeartbeats 2000000 in
theorem padvance_stall (b num n win delay : Nat) (i : Int) (F FS : Nat → Prop) (x : PeerM) (v : Nat → Value) (st : Value) (w : World) (h : PeerAt w b F FS num n win delay x v st) (he : x.frame ≠ 200) (hs : x.frame - confTo x n = win) :
    Calls Tryz.prog 60 #[.pointer (some ⟨b, 0, none⟩), .int .u8 i] w fun e w' => ∃ g, e = .returned (.iface 96 (.pointer (some ⟨g, 0, none⟩))) ∧ w.heap.size ≤ g ∧ w'.cell? ⟨g, 0, none⟩ = some (.int .i64 (num : Int)) ∧ w'.cell? ⟨g, 1, none⟩ = some (.int .i64 4) ∧ Below w.heap.size w w' := by
  obtain ⟨t, sb, rfl, hm, hc⟩ := h.store.frame_call
  have c13 : w.cell? ⟨b, 13, none⟩ = some (.iface t (.pointer (some ⟨sb, 0, none⟩))) := h.cell 13
  have c2 : w.cell? ⟨b, 2, none⟩ = some (.int .i64 (win : Int)) := h.cell 2
  have hfr := h.ok.frame
  have hcf := confTo_frame x n
  have hw8 := h.hw
  have HB := hide h
  have e1 : ((x.frame : Int) == 200) = false := by rw [beq_eq_false_iff_ne]; omega
  have hsub := i64_id ((x.frame : Int) - (confTo x n : Int)) (by omega) (by omega)
  have e2 : ((x.frame : Int) - (confTo x n : Int) == (win : Int)) = true := by rw [beq_iff_eq]; omega
  clear h
  go_enter Tryz.func60, Tryz.ntmps60
  go_wp2_with fail
  refine (frame_cell sb x.frame w hc).mono ?_
  rintro e w1 ⟨rfl, rfl⟩
  go_wp2_with fail
  refine wp_moves_reads_tail0 9 (by kernel_rfl) (by kernel_rfl) (by kernel_rfl) (by kernel_rfl) ?_
  simp only [List.take_succ_cons, List.take_zero, List.drop_succ_cons, List.drop_zero]
  still_step
  still_step
  still_call (conf_any b num n win delay F FS x v _ w1.drew ((unhide HB).same (fun _ _ => rfl)))
  repeat still_step
  refine wpStill_nil ?_
  go_wp2_with fail
  refine (fault_any b num n win delay 4 F FS x v _ w1.drew ((unhide HB).same (fun _ _ => rfl))).mono ?_
  rintro e w2 ⟨g, rfl, hg1, hg2, hg3, hb2⟩
  go_wp2
  go_ret
  exact ⟨g, rfl, hg1, hg2, hg3, ⟨hb2.os, hb2.tape, hb2.output, hb2.size, hb2.block⟩⟩
end Go.Proofs.YtandblanpafjoabGreatDoor

namespace Go.Proofs.YtandblanpafjoabGreatDoor
open Go.RowKit Go.Extern.Stop Go.Stop Go.Extern

/-! One more input of one's own, in memory. -/
def updV (v : Nat → Value) (q : Nat) (u : Value) : Nat → Value := fun k => if k = q then u else v k
theorem pCells_set (num n win delay dropped q : Nat) (v : Nat → Value) (ak : Nat → Nat) (st u : Value) (hq : q < 4) : (pCells num n win delay dropped v ak st).toArray.setIfInBounds (5 + q) u = (pCells num n win delay dropped (updV v q u) ak st).toArray := by
  rcases q with _ | _ | _ | _ | q
  · simp [pCells, updV]
  · simp [pCells, updV]
  · simp [pCells, updV]
  · simp [pCells, updV]
  · omega
/-- What is known of q has grown: its slice lies where it lay, or in a new block. -/
theorem PeerK.learn {w w3 : World} {b : Nat} {F FS : Nat → Prop} {num n win delay : Nat} {x : PeerM} {v : Nat → Value} {st : Value} (h : PeerK w b F FS num n win delay x v st) {q m : Nat} (hq : q < n) {l : List Int} {u : Value} (hl : l.length ≤ 203)
    (hlt : ∀ k, F k → k < w.heap.size) (hm : w.heap.size ≤ m) (hs : ∀ k, k < w.heap.size → (v q).ownBlock ≠ some k → w3.heap[k]? = w.heap[k]?) (hown : w3.ownsRow 0 5 1 u l.length (l.map (Value.int .u8))) (hloc : u.ownBlock = (v q).ownBlock ∨ u.ownBlock = some m) :
    PeerK (w3.setCell ⟨b, 5 + q, none⟩ u) b (fun k => F k ∨ u.ownBlock = some k) FS num n win delay (x.learn q l) (updV v q u) st := by
  have hn4 := h.hn4
  have hub : u.ownBlock ≠ some b := by
    rcases hloc with e | e
    · rw [e]; exact fun e' => (h.fk q b hq e').2.1 rfl
    · rw [e]; intro e'; injection e' with e'; have := hlt b h.fb; omega
  have hun : ∀ k, u.ownBlock = some k → ¬ FS k ∧ k ≠ b ∧ ∀ q', q' < n → q' ≠ q → (v q').ownBlock ≠ some k := by
    intro k hk
    rcases hloc with e | e
    · rw [e] at hk
      exact ⟨(h.fk q k hq hk).2.2, (h.fk q k hq hk).2.1, fun q' hq' hne e' => hne (h.fd q' q k hq' hq e' hk)⟩
    · rw [e] at hk
      injection hk with hk
      subst hk
      exact ⟨fun hF => by have := hlt _ (h.fs _ hF).1; omega, fun e' => by have := hlt b h.fb; omega, fun q' hq' _ e' => by have := hlt _ (h.fk q' _ hq' e').1; omega⟩
  refine ⟨?_, ?_, ?_, ?_, .inl h.fb, ?_, ?_, fun k hk => ⟨.inl (h.fs k hk).1, (h.fs k hk).2⟩, h.hn2, h.hn4, h.hw, h.hnum, h.drop⟩
  · have hb3 : Blk w3 b (pCells num n win delay x.dropped v (fun q => if q < n then x.acked q else 0) st).toArray 122 := (hs b (hlt b h.fb) (fun e => (h.fk q b hq e).2.1 rfl)).trans h.blk
    have := hb3.set (5 + q) u
    rw [pCells_set num n win delay x.dropped q v _ st u (by omega)] at this
    exact this
  · intro q' hq'
    by_cases e : q' = q
    · subst e
      simp only [PeerM.learn, updV, if_true]
      exact owns_same hown (fun k hk => heap_setCell_other _ _ _ _ (fun e => (hun k hk).2.1 e))
    · simp only [PeerM.learn, updV, e, if_false]
      refine owns_same (h.known q' hq') (fun k hk => ?_)
      rw [heap_setCell_other _ _ _ _ (fun e => (h.fk q' k hq' hk).2.1 e)]
      exact hs k (hlt k (h.fk q' k hq' hk).1) (fun e' => e (h.fd q' q k hq' hq hk e'))
  · intro q' hq'
    simp only [updV]
    rw [if_neg (by omega)]; exact h.nils q' hq'
  · intro q' hq'
    simp only [PeerM.learn]
    split
    · exact hl
    · exact h.lens q' hq'
  · intro q' k hq' hk
    by_cases e : q' = q
    · subst e
      simp only [updV, if_true] at hk
      exact ⟨.inr hk, (hun k hk).2.1, (hun k hk).1⟩
    · simp only [updV, e, if_false] at hk
      exact ⟨.inl (h.fk q' k hq' hk).1, (h.fk q' k hq' hk).2⟩
  · intro q1 q2 k h1 h2 e1 e2
    by_cases a1 : q1 = q
    · by_cases a2 : q2 = q
      · rw [a1, a2]
      · simp only [updV, a1, a2, if_true, if_false] at e1 e2
        exact absurd e2 ((hun k e1).2.2 q2 h2 a2)
    · by_cases a2 : q2 = q
      · simp only [updV, a1, a2, if_true, if_false] at e1 e2
        exact absurd e1 ((hun k e2).2.2 q1 h1 a1)
      · simp only [updV, a1, a2, if_false] at e1 e2
        exact h.fd q1 q2 k h1 h2 e1 e2
theorem PeerK.but {w w' : World} {b : Nat} {F FS : Nat → Prop} {num n win delay : Nat} {x : PeerM} {v : Nat → Value} {st : Value} (h : PeerK w b F FS num n win delay x v st) (hs : ∀ k, F k → ¬ FS k → w'.heap[k]? = w.heap[k]?) : PeerK w' b F FS num n win delay x v st :=
  ⟨(hs b h.fb (fun e => (h.fs b e).2 rfl)).trans h.blk, fun q hq => owns_same (h.known q hq) (fun k hk => hs k (h.fk q k hq hk).1 (h.fk q k hq hk).2.2), h.nils, h.lens, h.fb, h.fk, h.fd, h.fs, h.hn2, h.hn4, h.hw, h.hnum, h.drop⟩
end Go.Proofs.YtandblanpafjoabGreatDoor

namespace Go.Proofs.YtandblanpafjoabGreatDoor
open Go.RowKit Go.Extern.Stop Go.Stop Go.Extern

set_option maxRecDepth 10000 in
set_option maxHeartbeats 2000000 in
theorem padvance_yes (b num n win delay : Nat) (i : Int) (F FS : Nat → Prop) (x : PeerM) (v : Nat → Value) (st : Value) (w : World) (h : PeerAt w b F FS num n win delay x v st) (hi : 0 ≤ i ∧ i ≤ 255) (hF : ∀ k, F k → k < w.heap.size) (he : x.frame < 200) (hs : x.frame < confTo x n + win) :
    Calls Tryz.prog 60 #[.pointer (some ⟨b, 0, none⟩), .int .u8 i] w fun e w' => e = .returned .nilIface ∧ Chg F w w' ∧ ∃ F' FS' v', (∀ k, F' k → F k ∨ w.heap.size ≤ k) ∧ PeerAt w' b F' FS' num n win delay (stepM x num i) v' st := by
  obtain ⟨t, sb, est, hm, hc⟩ := h.store.frame_call
  have c13 : w.cell? ⟨b, 13, none⟩ = some (.iface t (.pointer (some ⟨sb, 0, none⟩))) := by rw [← est]; exact h.cell 13
  have c2 : w.cell? ⟨b, 2, none⟩ = some (.int .i64 (win : Int)) := h.cell 2
  have hfr := h.ok.frame
  have hcf := confTo_frame x n
  have hw8 := h.hw
  have HB := hide h
  have e1 : ((x.frame : Int) == 200) = false := by rw [beq_eq_false_iff_ne]; omega
  have hsub := i64_id ((x.frame : Int) - (confTo x n : Int)) (by omega) (by omega)
  have e2 : ((x.frame : Int) - (confTo x n : Int) == (win : Int)) = false := by rw [beq_eq_false_iff_ne]; omega
  clear h
  go_enter Tryz.func60, Tryz.ntmps60
  go_wp2_with fail
  refine (frame_cell sb x.frame w hc).mono ?_
  rintro e w1 ⟨rfl, rfl⟩
  go_wp2_with fail
  refine wp_moves_reads_tail0 9 (by kernel_rfl) (by kernel_rfl) (by kernel_rfl) (by kernel_rfl) ?_
  simp only [List.take_succ_cons, List.take_zero, List.drop_succ_cons, List.drop_zero]
  still_step
  still_step
  still_call (conf_any b num n win delay F FS x v _ w1.drew ((unhide HB).same (fun _ _ => rfl)))
  repeat still_step
  refine wpStill_nil ?_
  go_wp2_with fail
  have hn4 := (unhide HB).hn4
  have hnum := (unhide HB).hnum
  have q0 : (0 : Int) ≤ (num : Int) := by omega
  have q1 : (num : Int) < 4 := by omega
  have c0 : w1.cell? ⟨b, 0, none⟩ = some (.int .i64 (num : Int)) := (unhide HB).cell 0
  have ck := (unhide HB).cK num (by omega)
  have hbl := (unhide HB).blk.lt
  obtain ⟨i8, hi8, hz0, hz1, hz2⟩ := info_parts Tryz.infoU8
  have hown := (unhide HB).known num hnum
  have hlen := (unhide HB).ok.len num hnum
  refine wp_region_noPanic ?_
  refine wp_held_tail 15 19 (fun W' => W'.cell? ⟨b, 0, none⟩ = some (.int .i64 (num : Int)) ∧ W'.cell? ⟨b, 5 + num, none⟩ = some (v num)) (by kernel_rfl) (by decide) (by kernel_rfl) (by kernel_rfl) (by kernel_rfl) (fun _ _ _ _ _ h => h) ⟨c0, ck⟩ ?_
  simp only [List.take_succ_cons, List.take_zero, List.drop_succ_cons, List.drop_zero]
  refine wpHeld_op ?v0 rfl ?h0 ?_
  case h0 => intro w' hS; obtain ⟨hS1, hS2⟩ := hS; go_simp; rfl
  refine wpHeld_op ?v1 rfl ?h1 ?_
  case h1 => intro w' hS; obtain ⟨hS1, hS2⟩ := hS; go_simp; rfl
  refine wpHeld_op ?v2 rfl ?h2 ?_
  case h2 => intro w' hS; obtain ⟨hS1, hS2⟩ := hS; go_simp; rfl
  refine wpHeld_op ?v3 rfl ?h3 ?_
  case h3 => intro w' hS; obtain ⟨hS1, hS2⟩ := hS; go_simp; rfl
  refine wpHeld_op ?v4 rfl ?h4 ?_
  case h4 => intro w' hS; obtain ⟨hS1, hS2⟩ := hS; go_simp; rfl
  refine wpHeld_op ?v5 rfl ?h5 ?_
  case h5 => intro w' hS; obtain ⟨hS1, hS2⟩ := hS; go_simp; rfl
  refine wpHeld_op ?v6 rfl ?h6 ?_
  case h6 => intro w' hS; obtain ⟨hS1, hS2⟩ := hS; go_simp; rfl
  refine wpHeld_op ?v7 rfl ?h7 ?_
  case h7 => intro w' hS; obtain ⟨hS1, hS2⟩ := hS; go_simp; rfl
  refine wpHeld_op ?v8 rfl ?h8 ?_
  case h8 => intro w' hS; obtain ⟨hS1, hS2⟩ := hS; go_simp; rfl
  refine wpHeld_op ?v9 rfl ?h9 ?_
  case h9 => intro w' hS; obtain ⟨hS1, hS2⟩ := hS; go_simp; rfl
  refine wpHeld_op ?v10 rfl ?h10 ?_
  case h10 => intro w' hS; obtain ⟨hS1, hS2⟩ := hS; go_simp; rfl
  refine wpHeld_op ?v11 rfl ?h11 ?_
  case h11 => intro w' hS; obtain ⟨hS1, hS2⟩ := hS; go_simp; rfl
  refine wpHeld_op ?v12 rfl ?h12 ?_
  case h12 => intro w' hS; obtain ⟨hS1, hS2⟩ := hS; go_simp; rfl
  refine wpHeld_op ?v13 rfl ?h13 ?_
  case h13 => intro w' hS; obtain ⟨hS1, hS2⟩ := hS; go_simp; rfl
  refine wpHeld_op ?v14 rfl ?h14 ?_
  case h14 => intro w' hS; obtain ⟨hS1, hS2⟩ := hS; go_simp; rfl
  unfold wpHeld
  refine wpAnyH_take (i := 17) (v := ?w17) rfl (by kernel_rfl) (by kernel_rfl) (by kernel_rfl) (fun _ _ _ h => h) (Or.inl ⟨by rfl, ?g17⟩) ⟨c0, ck⟩ ?_
  case g17 => intro w' _; go_simp; rfl
  refine wpAnyH_take (i := 18) (v := ?w18) rfl (by kernel_rfl) (by kernel_rfl) (by kernel_rfl) (fun _ _ _ h => h) (Or.inl ⟨by rfl, ?g18⟩) ⟨c0, ck⟩ ?_
  case g18 => intro w' _; go_simp; rfl
  refine wpAnyH_all (rs := [15]) (by kernel_rfl) (by simp) ?_
  intro j hj
  obtain rfl : j = 15 := by simpa using hj
  refine wpOp_of_list _ rfl rfl ?_
  go_wp2_with fail
  have hBa : Below w1.heap.size w1 (w1.drew.drew.alloc (.cells #[.int .u8 i] 5)) := (Below.refl _ w1).drew.drew.alloc (Nat.le_refl _) _
  refine ⟨⟨(hBa.cell (p := ⟨b, 0, none⟩) hbl).trans c0, (hBa.cell (p := ⟨b, 5 + num, none⟩) hbl).trans ck⟩, ?_⟩
  refine wpAnyH_all (rs := [16]) (by kernel_rfl) (by simp) ?_
  intro j hj
  obtain rfl : j = 16 := by simpa using hj
  refine wpOp_of_list _ rfl rfl ?_
  have hownA : (w1.drew.drew.alloc (.cells #[.int .u8 i] 5)).ownsRow 0 5 1 (v num) (x.known num).length ((x.known num).map (Value.int .u8)) := owns_same hown (fun k hk => hBa.block k (by have := hown.lt k hk; omega))
  refine wpList_append_own_at (w1.drew.drew.alloc (.cells #[.int .u8 i] 5)) rfl (.tmp 41) (.tmp 43) 35 rfl 0 5 i8 (.int .u8 0) 1 1 Tryz.underlying35 hi8 hz0 hz1 hz2 rfl (by decide) (v num) _ _ rfl hownA ⟨w1.heap.size, 0, none⟩ 1 1 [.int .u8 i] rfl rfl (cell_one_new _ _ _) (by simp [Value.oneCell']) (by unfold maxLen; omega) (by omega) (Nat.zero_le _) ?_
  intro v' w3 hown3 hg3 hnil3 hloc3
  obtain ⟨g', cap', rfl, _, _, _⟩ := own_some hown3 (by omega)
  have hBw : ∀ k, k < w1.heap.size → (v num).ownBlock ≠ some k → w3.heap[k]? = w1.heap[k]? := fun k hk hne => (hg3.block k (by have := hBa.size; omega) (Ne.symm hne)).trans (hBa.block k hk)
  have hbne : (v num).ownBlock ≠ some b := fun e => ((unhide HB).fk num b hnum e).2.1 rfl
  have hb3 : Blk w3 b (pCells num n win delay x.dropped v (fun q => if q < n then x.acked q else 0) st).toArray 122 := (hBw b hbl hbne).trans (unhide HB).blk
  have ck3 : w3.cell? ⟨b, 5 + num, none⟩ = some (v num) := (World.cell?_of_block (a := ⟨b, 5 + num, none⟩) (hBw b hbl hbne)).trans ck
  have fr3 := hb3.frozen (5 + num)
  have c03 : w3.cell? ⟨b, 0, none⟩ = some (.int .i64 (num : Int)) := (World.cell?_of_block (a := ⟨b, 0, none⟩) (hBw b hbl hbne)).trans c0
  refine ⟨⟨c03, ck3⟩, ⟨by kernel_rfl, ?_⟩⟩
  have H3 := hide (And.intro hown3 (And.intro hg3 hloc3))
  clear hown3 hg3 hloc3 hnil3 hownA hown c03
  change wpList _ _ _ _ _ _
  go_wp2_with fail
  refine NoPanic.normal ?_
  go_wp2_with fail
  obtain ⟨hown3, hg3, hloc3⟩ := unhide H3
  have hdel := (unhide HB).ok.delay
  have hownN := (unhide HB).ok.own
  have K4 := PeerK.learn (w3 := w3) (unhide HB).toPeerK hnum (l := x.known num ++ [i]) (u := .slice (some ⟨g', 0, none⟩) ((x.known num).length + 1) cap') (m := (w1.drew.drew.alloc (.cells #[.int .u8 i] 5)).heap.size) (by simp; omega) hF (by simp) hBw (by simpa using hown3) hloc3
  have hSt4 : StoreAt (w3.setCell ⟨b, 5 + num, none⟩ (.slice (some ⟨g', 0, none⟩) ((x.known num).length + 1) cap')) st FS n win (x.frame - win) x.frame (insM x n) := (unhide HB).store.same (fun k hk => by
    have h1 := (unhide HB).fs k hk
    rw [heap_setCell_other _ _ _ _ (fun e => h1.2 e)]
    exact hBw k (hF k h1.1) (fun e => ((unhide HB).fk num k hnum e).2.2 hk))
  have C4 : Chg (fun k => k = b ∨ (v num).ownBlock = some k) w1 (w3.setCell ⟨b, 5 + num, none⟩ (.slice (some ⟨g', 0, none⟩) ((x.known num).length + 1) cap')) :=
    Chg.thenCell ⟨hg3.os.trans hBa.os, hg3.tape.trans hBa.tape, hg3.output.trans hBa.output, Nat.le_trans hBa.size hg3.size, fun k hk hF' => hBw k hk (fun e => hF' (.inr e))⟩ b (5 + num) _ (.inl rfl)
  have hfoot : ∀ k, (Value.slice (some ⟨g', 0, none⟩) ((x.known num).length + 1) cap').ownBlock = some k → F k ∨ w1.heap.size ≤ k := fun k hk => by
    rcases hloc3 with e | e
    · rw [e] at hk; exact .inl ((unhide HB).fk num k hnum hk).1
    · rw [e] at hk; injection hk with hk; right; rw [← hk]; simp
  have hF4 : ∀ k, (F k ∨ (Value.slice (some ⟨g', 0, none⟩) ((x.known num).length + 1) cap').ownBlock = some k) → k < w3.heap.size := fun k hk => by
    rcases hk with hk | hk
    · have := hF k hk; have := hg3.size; have := hBa.size; omega
    · exact (hown3.lt k hk).2
  rw [show w3.heap.size = (w3.setCell ⟨b, 5 + num, none⟩ (.slice (some ⟨g', 0, none⟩) ((x.known num).length + 1) cap')).heap.size by simp] at hF4
  clear hown3 hg3 hloc3 H3 hb3 fr3 ck3 hBa hBw c0 ck c13 c2 hc hm est
  generalize w3.setCell ⟨b, 5 + num, none⟩ (.slice (some ⟨g', 0, none⟩) ((x.known num).length + 1) cap') = w4 at *
  rcases hSt4 with ⟨sb2, pb, rb, est2, hS⟩ | ⟨sb2, pb, rb, mb, est2, hS⟩
  · skip
    subst est2
    have hmP := mPlayF ⟨sb2, 0, none⟩
    refine wp_region_noPanic ?_
    refine wp_held_tail 6 9 (fun W' => W'.cell? ⟨b, 13, none⟩ = some (.iface 231 (.pointer (some ⟨sb2, 0, none⟩)))) (by kernel_rfl) (by decide) (by kernel_rfl) (by kernel_rfl) (by kernel_rfl) (fun _ _ _ _ _ h => h) (K4.cell 13) ?_
    simp only [List.take_succ_cons, List.take_zero, List.drop_succ_cons, List.drop_zero]
    refine wpHeld_op ?yF0 rfl ?zF0 ?_
    case zF0 => intro w' hS; go_simp; rfl
    refine wpHeld_op ?yF1 rfl ?zF1 ?_
    case zF1 => intro w' hS; go_simp; rfl
    refine wpHeld_op ?yF2 rfl ?zF2 ?_
    case zF2 => intro w' hS; go_simp; rfl
    refine wpHeld_op ?yF3 rfl ?zF3 ?_
    case zF3 => intro w' hS; go_simp; rfl
    refine wpHeld_op ?yF4 rfl ?zF4 ?_
    case zF4 => intro w' hS; go_simp; rfl
    refine wpHeld_op ?yF5 rfl ?zF5 ?_
    case zF5 => intro w' hS; go_simp; rfl
    unfold wpHeld
    refine wpAnyH_take (i := 7) (v := .iface 231 (.pointer (some ⟨sb2, 0, none⟩))) rfl (by kernel_rfl) (by kernel_rfl) (by kernel_rfl) (fun _ _ _ h => h) (Or.inl ⟨by rfl, ?g7F⟩) (K4.cell 13) ?_
    case g7F => intro w' _; go_simp
    refine wpAnyH_take (i := 8) (v := .iface 231 (.pointer (some ⟨sb2, 0, none⟩))) rfl (by kernel_rfl) (by kernel_rfl) (by kernel_rfl) (fun _ _ _ h => h) (Or.inl ⟨by rfl, ?g8F⟩) (K4.cell 13) ?_
    case g8F => intro w' _; go_simp
    refine wpAnyH_all (rs := [6]) (by kernel_rfl) (by simp) ?_
    intro j hj
    obtain rfl : j = 6 := by simpa using hj
    refine wpOp_of_list _ rfl rfl ?_
    go_wp2_with fail
    refine (inputs_any b num n win delay x.frame _ FS _ _ _ w4.drew (K4.same (fun _ _ => rfl)) (by omega)).mono ?_
    rintro e w5 ⟨rfl, hb5⟩
    have hB5 : Below w4.heap.size w4 w5 := ⟨hb5.os, hb5.tape, hb5.output, hb5.size, hb5.block⟩
    go_wp2_with fail
    refine ⟨(hB5.cell (p := ⟨b, 13, none⟩) K4.blk.lt).trans (K4.cell 13), ⟨by kernel_rfl, ?_⟩⟩
    change wpList _ _ _ _ _ _
    go_wp2_with fail
    have hstep := (unhide HB).ok.step hnum i hi he hs
    refine (fplay_any sb2 n win (x.frame - win) (x.frame + 1 - win) x.frame pb rb FS (insM x n) (insM (stepM x num i) n x.frame) w5 (hS.same (fun k hk => hB5.block k (hF4 k (.inl ((unhide HB).fs k hk).1)))) (unhide HB).hn2 hn4 (insM_len _ _ _) (fun f _ => insM_len _ _ _) (insM_rng hstep x.frame) hw8.1 (by omega) (by omega) (by omega)).mono ?_
    rintro e w6 ⟨rfl, hC6, hS6⟩
    go_wp2_with fail
    refine NoPanic.normal ?_
    go_wp2
    go_ret
    have hk6 : ∀ k, k < w4.heap.size → ¬ FS k → w6.heap[k]? = w4.heap[k]? := fun k hk hFS => (hC6.block k (by have := hB5.size; omega) hFS).trans (hB5.block k hk)
    have K6 := K4.but (w' := w6) (fun k hk hFS => hk6 k (hF4 k hk) hFS)
    refine ⟨rfl, ?_, _, FS, _, fun k hk => hk.elim .inl (hfoot k), ⟨⟨K6.blk, K6.known, K6.nils, K6.lens, K6.fb, K6.fk, K6.fd, K6.fs, K6.hn2, K6.hn4, K6.hw, K6.hnum, K6.drop⟩, ?_, hstep⟩⟩
    · refine ((C4.mono (F := F) ?_).thenBelow (hB5.mono C4.size)).trans hC6 (fun k _ hk => ((unhide HB).fs k hk).1)
      rintro k _ (rfl | hk)
      · exact (unhide HB).fb
      · exact ((unhide HB).fk num k hnum hk).1
    · refine StoreAt.congr (fs := updF (insM x n) x.frame (insM (stepM x num i) n x.frame)) (.inl ⟨sb2, pb, rb, rfl, hS6⟩) (fun f hf => ?_)
      by_cases e : f = x.frame
      · subst e; rw [updF_same]
      · rw [updF_other _ _ _ _ e, stepM_ins (unhide HB).ok i f (by have : f < x.frame + 1 := hf; omega)]
  · skip
    subst est2
    have hmP := mPlayD ⟨sb2, 0, none⟩
    refine wp_region_noPanic ?_
    refine wp_held_tail 6 9 (fun W' => W'.cell? ⟨b, 13, none⟩ = some (.iface 229 (.pointer (some ⟨sb2, 0, none⟩)))) (by kernel_rfl) (by decide) (by kernel_rfl) (by kernel_rfl) (by kernel_rfl) (fun _ _ _ _ _ h => h) (K4.cell 13) ?_
    simp only [List.take_succ_cons, List.take_zero, List.drop_succ_cons, List.drop_zero]
    refine wpHeld_op ?yD0 rfl ?zD0 ?_
    case zD0 => intro w' hS; go_simp; rfl
    refine wpHeld_op ?yD1 rfl ?zD1 ?_
    case zD1 => intro w' hS; go_simp; rfl
    refine wpHeld_op ?yD2 rfl ?zD2 ?_
    case zD2 => intro w' hS; go_simp; rfl
    refine wpHeld_op ?yD3 rfl ?zD3 ?_
    case zD3 => intro w' hS; go_simp; rfl
    refine wpHeld_op ?yD4 rfl ?zD4 ?_
    case zD4 => intro w' hS; go_simp; rfl
    refine wpHeld_op ?yD5 rfl ?zD5 ?_
    case zD5 => intro w' hS; go_simp; rfl
    unfold wpHeld
    refine wpAnyH_take (i := 7) (v := .iface 229 (.pointer (some ⟨sb2, 0, none⟩))) rfl (by kernel_rfl) (by kernel_rfl) (by kernel_rfl) (fun _ _ _ h => h) (Or.inl ⟨by rfl, ?g7D⟩) (K4.cell 13) ?_
    case g7D => intro w' _; go_simp
    refine wpAnyH_take (i := 8) (v := .iface 229 (.pointer (some ⟨sb2, 0, none⟩))) rfl (by kernel_rfl) (by kernel_rfl) (by kernel_rfl) (fun _ _ _ h => h) (Or.inl ⟨by rfl, ?g8D⟩) (K4.cell 13) ?_
    case g8D => intro w' _; go_simp
    refine wpAnyH_all (rs := [6]) (by kernel_rfl) (by simp) ?_
    intro j hj
    obtain rfl : j = 6 := by simpa using hj
    refine wpOp_of_list _ rfl rfl ?_
    go_wp2_with fail
    refine (inputs_any b num n win delay x.frame _ FS _ _ _ w4.drew (K4.same (fun _ _ => rfl)) (by omega)).mono ?_
    rintro e w5 ⟨rfl, hb5⟩
    have hB5 : Below w4.heap.size w4 w5 := ⟨hb5.os, hb5.tape, hb5.output, hb5.size, hb5.block⟩
    go_wp2_with fail
    refine ⟨(hB5.cell (p := ⟨b, 13, none⟩) K4.blk.lt).trans (K4.cell 13), ⟨by kernel_rfl, ?_⟩⟩
    change wpList _ _ _ _ _ _
    go_wp2_with fail
    have hstep := (unhide HB).ok.step hnum i hi he hs
    refine (dplay_any sb2 n win (x.frame - win) (x.frame + 1 - win) x.frame pb rb mb FS (insM x n) (insM (stepM x num i) n x.frame) w5 (hS.same (fun k hk => hB5.block k (hF4 k (.inl ((unhide HB).fs k hk).1)))) (unhide HB).hn2 hn4 (insM_len _ _ _) (fun f _ => insM_len _ _ _) (insM_rng hstep x.frame) hw8.1 (by omega) (by omega) (by omega)).mono ?_
    rintro e w6 ⟨rfl, hC6, hS6⟩
    go_wp2_with fail
    refine NoPanic.normal ?_
    go_wp2
    go_ret
    have hk6 : ∀ k, k < w4.heap.size → ¬ FS k → w6.heap[k]? = w4.heap[k]? := fun k hk hFS => (hC6.block k (by have := hB5.size; omega) hFS).trans (hB5.block k hk)
    have K6 := K4.but (w' := w6) (fun k hk hFS => hk6 k (hF4 k hk) hFS)
    refine ⟨rfl, ?_, _, FS, _, fun k hk => hk.elim .inl (hfoot k), ⟨⟨K6.blk, K6.known, K6.nils, K6.lens, K6.fb, K6.fk, K6.fd, K6.fs, K6.hn2, K6.hn4, K6.hw, K6.hnum, K6.drop⟩, ?_, hstep⟩⟩
    · refine ((C4.mono (F := F) ?_).thenBelow (hB5.mono C4.size)).trans hC6 (fun k _ hk => ((unhide HB).fs k hk).1)
      rintro k _ (rfl | hk)
      · exact (unhide HB).fb
      · exact ((unhide HB).fk num k hnum hk).1
    · refine StoreAt.congr (fs := updF (insM x n) x.frame (insM (stepM x num i) n x.frame)) (.inr ⟨sb2, pb, rb, mb, rfl, hS6⟩) (fun f hf => ?_)
      by_cases e : f = x.frame
      · subst e; rw [updF_same]
      · rw [updF_other _ _ _ _ e, stepM_ins (unhide HB).ok i f (by have : f < x.frame + 1 := hf; omega)]
end Go.Proofs.YtandblanpafjoabGreatDoor

