import Derived.Test.YtandblanpafjoabGreatDoorPeerG
namespace Go.Proofs.YtandblanpafjoabGreatDoor
open Go.RowKit Go.Extern.Stop Go.Stop Go.Extern

theorem getD_dropN (l : List Int) (k j : Nat) : (l.drop k).getD j 0 = l.getD (k + j) 0 := by simp [List.getD_eq_getElem?_getD, List.getElem?_drop]
theorem pCells_ack (num n win delay dropped q m : Nat) (v : Nat → Value) (ak : Nat → Nat) (st : Value) (hq : q < n) (hn : n ≤ 4) : (pCells num n win delay dropped v (fun k => if k < n then ak k else 0) st).toArray.setIfInBounds (9 + q) (.int .i64 (m : Int)) = (pCells num n win delay dropped v (fun k => if k < n then (if k = q then m else ak k) else 0) st).toArray := by
  rcases q with _ | _ | _ | _ | q
  · simp [pCells, hq]
  · simp [pCells, hq]
  · simp [pCells, hq]
  · simp [pCells, hq]
  · omega
theorem PeerK.ack {w : World} {b : Nat} {F FS : Nat → Prop} {num n win delay : Nat} {x : PeerM} {v : Nat → Value} {st : Value} (h : PeerK w b F FS num n win delay x v st) {q : Nat} (hq : q < n) (m : Nat) :
    PeerK (w.setCell ⟨b, 9 + q, none⟩ (.int .i64 (m : Int))) b F FS num n win delay { x with acked := fun k => if k = q then m else x.acked k } v st := by
  refine ⟨?_, fun q' hq' => owns_same (h.known q' hq') (fun k hk => heap_setCell_other _ _ _ _ (fun e => (h.fk q' k hq' hk).2.1 e)), h.nils, h.lens, h.fb, h.fk, h.fd, h.fs, h.hn2, h.hn4, h.hw, h.hnum, h.drop⟩
  have := h.blk.set (9 + q) (.int .i64 (m : Int))
  rw [pCells_ack num n win delay x.dropped q m v x.acked st hq h.hn4] at this
  exact this

theorem learn_self (x : PeerM) (q : Nat) : x.learn q (x.known q) = x := by
  cases x
  simp only [PeerM.learn, PeerM.mk.injEq, and_true]
  funext i
  split
  · rename_i e; rw [e]
  · rfl
theorem learnt_none (l : List Int) (start : Nat) (ins : List Int) (h : ins.length ≤ l.length - start) : learnt l start ins = l := by
  unfold learnt; rw [List.drop_eq_nil_of_le h]; simp
def pkCells (q start ack gi L cap : Nat) : Array Value := #[.int .i64 (q : Int), .int .i64 (start : Int), .int .i64 (ack : Int), .slice (some ⟨gi, 0, none⟩) L cap]

set_option maxRecDepth 10000 in
set_option maxHeartbeats 8000000 in
theorem learn_any (b num n win delay q start ack gi cap : Nat) (ins : List Int) (F FS : Nat → Prop) (x : PeerM) (v : Nat → Value) (st : Value) (w : World) (h : PeerK w b F FS num n win delay x v st) (hF : ∀ k, F k → k < w.heap.size) (hq : q < n)
    (hs : start ≤ (x.known q).length) (ht : start + ins.length ≤ 203) (ha : ack ≤ 1000) (hak : x.acked q ≤ 1000) (hcap : ins.length ≤ cap) (hgi : gi < w.heap.size) (hc : ∀ j, j < ins.length → w.cell? ⟨gi, j, none⟩ = some (.int .u8 (ins.getD j 0))) :
    Calls Tryz.prog 81 #[.pointer (some ⟨b, 0, none⟩), .agg #[.int .i64 (q : Int), .int .i64 (start : Int), .int .i64 (ack : Int), .slice (some ⟨gi, 0, none⟩) ins.length cap]] w fun e w' => e = .returned (.tuple #[]) ∧ Chg (fun k => F k ∧ ¬ FS k) w w' ∧ ∃ F' v', (∀ k, F k → F' k) ∧ (∀ k, F' k → F k ∨ w.heap.size ≤ k) ∧ (∀ k, F' k → k < w'.heap.size) ∧ PeerK w' b F' FS num n win delay (taken x q start ack ins) v' st := by
  have HB := hide h
  have hn4 := h.hn4
  have hbl := h.blk.lt
  have hlen := h.lens q hq
  obtain ⟨ao, cp, hv, _, _⟩ := h.shape q hq
  have q0 : (0 : Int) ≤ (q : Int) := by omega
  have q1 : (q : Int) < 4 := by omega
  have bB : Below w.heap.size w (w.alloc (.cells #[.int .i64 (q : Int), .int .i64 (start : Int), .int .i64 (ack : Int), .slice (some ⟨gi, 0, none⟩) ins.length cap] 130)) := (Below.refl _ w).alloc (Nat.le_refl _) _
  have xB : Blk (w.alloc (.cells #[.int .i64 (q : Int), .int .i64 (start : Int), .int .i64 (ack : Int), .slice (some ⟨gi, 0, none⟩) ins.length cap] 130)) w.heap.size (pkCells q start ack gi ins.length cap) 130 := Blk.new _ _ _
  have zB : (w.alloc (.cells #[.int .i64 (q : Int), .int .i64 (start : Int), .int .i64 (ack : Int), .slice (some ⟨gi, 0, none⟩) ins.length cap] 130)).heap.size = w.heap.size + 1 := by simp
  have ck0 := h.cK q (by omega)
  clear h
  go_enter Tryz.func81, Tryz.ntmps81
  go_wp2_with fail
  generalize w.alloc (.cells #[.int .i64 (q : Int), .int .i64 (start : Int), .int .i64 (ack : Int), .slice (some ⟨gi, 0, none⟩) ins.length cap] 130) = W1 at *
  have HZ := hide zB
  have m0 : W1.cell? ⟨w.heap.size, 0, none⟩ = some (.int .i64 (q : Int)) := xB.cell 0
  have m1 : W1.cell? ⟨w.heap.size, 1, none⟩ = some (.int .i64 (start : Int)) := xB.cell 1
  have m3 : W1.cell? ⟨w.heap.size, 3, none⟩ = some (.slice (some ⟨gi, 0, none⟩) ins.length cap) := xB.cell 3
  have ck : W1.cell? ⟨b, 5 + q, none⟩ = some (.slice ao (x.known q).length cp) := by rw [← hv]; exact (bB.cell (p := ⟨b, 5 + q, none⟩) hbl).trans ck0
  obtain ⟨d, hd⟩ : ∃ d, (x.known q).length - start = d := ⟨_, rfl⟩
  have hdi : IntKind.i64.wrap (((x.known q).length : Int) - (start : Int)) = (d : Int) := by rw [i64_id _ (by omega) (by omega)]; omega
  have hwd : IntKind.i64.wrap (d : Int) = (d : Int) := i64_id _ (by omega) (by omega)
  have HA := hide (And.intro hak ha)
  have HC := hide hc
  have HF := hide hF
  have HV := hide hv
  clear zB ck0 hak ha hc hF hv
  refine wp_moves_reads_tail0 11 (by kernel_rfl) (by kernel_rfl) (by kernel_rfl) (by kernel_rfl) ?_
  simp only [List.take_succ_cons, List.take_zero, List.drop_succ_cons, List.drop_zero]
  repeat still_step
  refine wpStill_nil ?_
  go_upto_if 20 with fail
  go_cut [] from 16 (fun wx => ∃ F' v', (∀ k, F k → F' k) ∧ (∀ k, F' k → F k ∨ w.heap.size ≤ k) ∧ (∀ k, F' k → k ≠ w.heap.size ∧ k < wx.heap.size) ∧ PeerK wx b F' FS num n win delay (x.learn q (learnt (x.known q) start ins)) v' st ∧ Chg (fun k => F k ∧ ¬ FS k) w wx ∧ Blk wx w.heap.size (pkCells q start ack gi ins.length cap) 130)
  case first =>
    clear m1
    by_cases hlt : d < ins.length
    · have hdec : decide ((d : Int) < (ins.length : Int)) = true := by simp; omega
      have d0 : (0 : Int) ≤ (d : Int) := by omega
      have d1 : (d : Int) ≤ (ins.length : Int) := by omega
      have d2 : (d : Int) ≤ (cap : Int) := by omega
      have d3 : ¬ cap = d := by omega
      obtain ⟨i8, hi8, hz0, hz1, hz2⟩ := info_parts Tryz.infoU8
      have hown := (unhide HB).known q hq
      have HO := hide (And.intro hown (And.intro bB xB))
      clear hown bB xB
      go_wp2_with fail
      refine wp_region_noPanic ?_
      refine wp_held_tail 14 17 (fun W' => W'.cell? ⟨w.heap.size, 0, none⟩ = some (.int .i64 (q : Int)) ∧ W'.cell? ⟨w.heap.size, 3, none⟩ = some (.slice (some ⟨gi, 0, none⟩) ins.length cap) ∧ W'.cell? ⟨b, 5 + q, none⟩ = some (.slice ao (x.known q).length cp)) (by kernel_rfl) (by decide) (by kernel_rfl) (by kernel_rfl) (by kernel_rfl) (fun _ _ _ _ _ h => h) ⟨m0, m3, ck⟩ ?_
      simp only [List.take_succ_cons, List.take_zero, List.drop_succ_cons, List.drop_zero]
      refine wpHeld_op ?y0 rfl ?z0 ?_
      case z0 => intro w' hS; obtain ⟨hS1, hS2, hS3⟩ := hS; go_simp; rfl
      refine wpHeld_op ?y1 rfl ?z1 ?_
      case z1 => intro w' hS; obtain ⟨hS1, hS2, hS3⟩ := hS; go_simp; rfl
      refine wpHeld_op ?y2 rfl ?z2 ?_
      case z2 => intro w' hS; obtain ⟨hS1, hS2, hS3⟩ := hS; go_simp; rfl
      refine wpHeld_op ?y3 rfl ?z3 ?_
      case z3 => intro w' hS; obtain ⟨hS1, hS2, hS3⟩ := hS; go_simp; rfl
      refine wpHeld_op ?y4 rfl ?z4 ?_
      case z4 => intro w' hS; obtain ⟨hS1, hS2, hS3⟩ := hS; go_simp; rfl
      refine wpHeld_op ?y5 rfl ?z5 ?_
      case z5 => intro w' hS; obtain ⟨hS1, hS2, hS3⟩ := hS; go_simp; rfl
      refine wpHeld_op ?y6 rfl ?z6 ?_
      case z6 => intro w' hS; obtain ⟨hS1, hS2, hS3⟩ := hS; go_simp; rfl
      refine wpHeld_op ?y7 rfl ?z7 ?_
      case z7 => intro w' hS; obtain ⟨hS1, hS2, hS3⟩ := hS; go_simp; rfl
      refine wpHeld_op ?y8 rfl ?z8 ?_
      case z8 => intro w' hS; obtain ⟨hS1, hS2, hS3⟩ := hS; go_simp; rfl
      refine wpHeld_op ?y9 rfl ?z9 ?_
      case z9 => intro w' hS; obtain ⟨hS1, hS2, hS3⟩ := hS; go_simp; rfl
      refine wpHeld_op ?y10 rfl ?z10 ?_
      case z10 => intro w' hS; obtain ⟨hS1, hS2, hS3⟩ := hS; go_simp; rfl
      refine wpHeld_op ?y11 rfl ?z11 ?_
      case z11 => intro w' hS; obtain ⟨hS1, hS2, hS3⟩ := hS; go_simp; rfl
      refine wpHeld_op ?y12 rfl ?z12 ?_
      case z12 => intro w' hS; obtain ⟨hS1, hS2, hS3⟩ := hS; go_simp; rfl
      refine wpHeld_op (.slice (some ⟨gi, d, none⟩) (ins.length - d) (cap - d)) rfl ?z13 ?_
      case z13 => intro w' hS; obtain ⟨hS1, hS2, hS3⟩ := hS; go_simp
      unfold wpHeld
      refine wpAnyH_take (i := 15) (v := .pointer (some ⟨b, 0, none⟩)) rfl (by kernel_rfl) (by kernel_rfl) (by kernel_rfl) (fun _ _ _ h => h) (Or.inl ⟨by rfl, ?g15⟩) ⟨m0, m3, ck⟩ ?_
      case g15 => intro w' _; go_simp
      refine wpAnyH_take (i := 16) (v := .pointer (some ⟨b, 5, none⟩)) rfl (by kernel_rfl) (by kernel_rfl) (by kernel_rfl) (fun _ _ _ h => h) (Or.inl ⟨by rfl, ?g16⟩) ⟨m0, m3, ck⟩ ?_
      case g16 => intro w' _; go_simp
      refine wpAnyH_all (rs := [14]) (by kernel_rfl) (by simp) ?_
      intro j hj
      obtain rfl : j = 14 := by simpa using hj
      refine wpOp_of_list _ rfl rfl ?_
      go_simp
      have hv := unhide HV
      have hF := unhide HF
      obtain ⟨hown, bB, xB⟩ := unhide HO
      have hownA : W1.drew.drew.ownsRow 0 5 1 (.slice ao (x.known q).length cp) (x.known q).length ((x.known q).map (Value.int .u8)) := by
        rw [← hv]; exact owns_same hown (fun k hk => bB.block k (hown.lt k hk).2)
      have hnews : ∀ j u, ((ins.drop d).map (Value.int .u8))[j]? = some u → W1.drew.drew.cell? ((⟨gi, d, none⟩ : Addr).add j) = some u := fun j u hj => by
        have hjl : j < (ins.drop d).length := by have := (List.getElem?_eq_some_iff.1 hj).1; simpa using this
        have hjl' : j < ins.length - d := by simpa using hjl
        rw [Addr.add_mid, show W1.drew.drew.cell? ⟨gi, d + j, none⟩ = W1.cell? ⟨gi, d + j, none⟩ from rfl, bB.cell (p := ⟨gi, d + j, none⟩) hgi, unhide HC (d + j) (by omega), ← getD_dropN]
        rw [List.getElem?_map, List.getElem?_eq_getElem hjl] at hj
        simp only [Option.map_some] at hj
        rw [List.getD_eq_getElem?_getD, List.getElem?_eq_getElem hjl]
        exact hj
      refine wpList_append_own_at W1.drew.drew rfl (.tmp 30) (.tmp 34) 35 rfl 0 5 i8 (.int .u8 0) 1 1 Tryz.underlying35 hi8 hz0 hz1 hz2 rfl (by decide) (.slice ao (x.known q).length cp) _ _ rfl hownA ⟨gi, d, none⟩ (ins.length - d) (cap - d) ((ins.drop d).map (Value.int .u8)) rfl (by simp) hnews (nums_ones .u8 _) (by unfold maxLen; omega) (by omega) (Nat.zero_le _) ?_
      intro v' w3 hown3 hg3 hnil3 hloc3
      obtain ⟨g', cap', rfl, _, _, _⟩ := own_some hown3 (by omega)
      have hBw : ∀ k, k < W1.heap.size → (v q).ownBlock ≠ some k → w3.heap[k]? = W1.heap[k]? := fun k hk hne => hg3.block k hk (fun e => hne (by rw [hv]; exact e.symm))
      have hzW := unhide HZ
      have hbne : (v q).ownBlock ≠ some b := fun e => ((unhide HB).fk q b hq e).2.1 rfl
      have hxne : (v q).ownBlock ≠ some w.heap.size := fun e => by have := hF _ ((unhide HB).fk q _ hq e).1; omega
      have hb3 : w3.heap[b]? = W1.heap[b]? := hBw b (by omega) hbne
      have hx3 : Blk w3 w.heap.size (pkCells q start ack gi ins.length cap) 130 := (hBw _ (by omega) hxne).trans xB
      have ck3 : w3.cell? ⟨b, 5 + q, none⟩ = some (.slice ao (x.known q).length cp) := (World.cell?_of_block (a := ⟨b, 5 + q, none⟩) hb3).trans ck
      have fr3 : w3.frozen? ⟨b, 5 + q, none⟩ = false := (World.frozen?_of_block (a := ⟨b, 5 + q, none⟩) hb3).trans ((bB.frozen (p := ⟨b, 5 + q, none⟩) hbl).trans ((unhide HB).blk.frozen (5 + q)))
      refine ⟨⟨hx3.cell 0, hx3.cell 3, ck3⟩, ⟨by kernel_rfl, ?_⟩⟩
      have H3 := hide (And.intro hown3 (And.intro hg3 (And.intro hloc3 (And.intro hBw (And.intro hx3 (And.intro bB hzW))))))
      clear hown3 hg3 hloc3 hnil3 hnews hownA hown hb3 hx3 m0 m3 ck hBw bB xB hzW hbne hxne hv hF
      change wpList _ _ _ _ _ _
      go_wp2_with fail
      refine NoPanic.normal ?_
      go_wp2_with fail
      go_meet
      case rel =>
        obtain ⟨hown3, hg3, hloc3, hBw, hx3, bB, hzW⟩ := unhide H3
        have hv := unhide HV
        have hF := unhide HF
        have hln : learnt (x.known q) start ins = x.known q ++ ins.drop d := by unfold learnt; rw [hd]
        have hfoot : ∀ k, (Value.slice (some ⟨g', 0, none⟩) ((x.known q).length + (ins.length - d)) cap').ownBlock = some k → F k ∨ w.heap.size + 1 ≤ k := fun k hk => by
          rcases hloc3 with e | e
          · rw [e, ← hv] at hk; exact .inl ((unhide HB).fk q k hq hk).1
          · rw [e] at hk; injection hk with hk; right; rw [← hk]; simp; omega
        have hsz := hg3.size
        have hdz : W1.drew.drew.heap.size = W1.heap.size := rfl
        refine ⟨_, _, fun k hk => .inl hk, fun k hk => hk.elim .inl (fun e => (hfoot k e).elim .inl (fun h => .inr (by omega))), fun k hk => ?_, PeerK.learn (w3 := w3) (unhide HB) hq (l := learnt (x.known q) start ins) (u := .slice (some ⟨g', 0, none⟩) ((x.known q).length + (ins.length - d)) cap') (m := W1.heap.size) (by rw [hln]; simp; omega) hF (by omega)
          (fun k hk hne => (hBw k (by omega) hne).trans (bB.block k hk)) (by rw [hln]; simpa using hown3) (by rw [hv]; exact hloc3), ?_, ?_⟩
        · have h2 : k < w3.heap.size := by
            rcases hk with hk | hk
            · have := hF k hk; omega
            · exact (hown3.lt k hk).2
          refine ⟨?_, by simpa using h2⟩
          rcases hk with hk | hk
          · have := hF k hk; omega
          · rcases hfoot k hk with e | e
            · have := hF k e; omega
            · omega
        · exact Chg.thenCell ⟨hg3.os.trans bB.os, hg3.tape.trans bB.tape, hg3.output.trans bB.output, Nat.le_trans bB.size hg3.size, fun k hk hF' => (hBw k (by omega) (fun e => hF' ⟨((unhide HB).fk q k hq e).1, ((unhide HB).fk q k hq e).2.2⟩)).trans (bB.block k hk)⟩ b (5 + q) _ ⟨(unhide HB).fb, fun e => ((unhide HB).fs b e).2 rfl⟩
        · exact hx3.setOther ⟨b, 5 + q, none⟩ (.slice (some ⟨g', 0, none⟩) ((x.known q).length + (ins.length - d)) cap') (by simp; omega)
    · have hdec : decide ((d : Int) < (ins.length : Int)) = false := by simp; omega
      go_wp2_with fail
      go_meet
      case rel =>
        have hzW := unhide HZ
        have hF := unhide HF
        refine ⟨F, v, fun k hk => hk, fun k hk => .inl hk, fun k hk => ?_, ?_, Chg.ofBelow bB.drew, xB⟩
        · have := hF k hk
          have hz2 : W1.drew.heap.size = W1.heap.size := rfl
          exact ⟨by omega, by omega⟩
        · rw [learnt_none _ _ _ (by omega), learn_self]
          exact (unhide HB).same (fun k hk => bB.block k (hF k hk))
  case rest =>
    obtain ⟨F', v', h1, h2, h3, K4, C4, x4⟩ := hcut
    have hak := (unhide HA).1
    have ha := (unhide HA).2
    clear m0 m1 m3 ck bB xB
    have n9 : wc.frozen? ⟨b, 9 + q, none⟩ = false := K4.blk.frozen (9 + q)
    have e0 : wc.cell? ⟨w.heap.size, 0, none⟩ = some (.int .i64 (q : Int)) := x4.cell 0
    have e2 : wc.cell? ⟨w.heap.size, 2, none⟩ = some (.int .i64 (ack : Int)) := x4.cell 2
    have n0 : wc.cell? ⟨b, 9 + q, none⟩ = some (.int .i64 (x.acked q : Int)) := K4.cA q hq
    obtain ⟨mx, hmx⟩ : ∃ mx, max (x.acked q) ack = mx := ⟨_, rfl⟩
    have hmi : (if x.acked q < ack then (ack : Int) else (x.acked q : Int)) = (mx : Int) := by split <;> omega
    have H4 := hide (And.intro K4 (And.intro C4 (And.intro h2 h3)))
    clear K4 C4 x4 h2 h3
    go_wp2_with fail
    refine wp_moves_reads_tail0 15 (by kernel_rfl) (by kernel_rfl) (by kernel_rfl) (by kernel_rfl) ?_
    simp only [List.take_succ_cons, List.take_zero, List.drop_succ_cons, List.drop_zero]
    repeat still_step
    refine wpStill_nil ?_
    go_wp2
    go_end0
    obtain ⟨K4, C4, h2, h3⟩ := unhide H4
    have Kd : PeerK wc.drew b F' FS num n win delay (x.learn q (learnt (x.known q) start ins)) v' st := K4.same (fun _ _ => rfl)
    have C5 : Chg (fun k => F k ∧ ¬ FS k) w wc.drew := C4.trans (Chg.drew _ _) (fun _ _ h => h)
    refine ⟨rfl, C5.thenCell b (9 + q) _ ⟨(unhide HB).fb, fun e => ((unhide HB).fs b e).2 rfl⟩, F', v', h1, h2, fun k hk => ?_, ?_⟩
    · have := (h3 k hk).2
      simpa using this
    · have := Kd.ack hq mx
      subst hmx
      exact this
end Go.Proofs.YtandblanpafjoabGreatDoor
