import Derived.Test.YtandblanpafjoaaGreatDoorPack20
import Derived.Test.YtandblanpafjoaaGreatDoorPack14
import Derived.Test.YtandblanpafjoaaGreatDoorPack04
import Derived.Deep.RegionHeld3
import Derived.Deep.DeepCutAuto
namespace Go.Proofs.YtandblanpafjoaaGreatDoor
open Go.RowKit Go.Extern.Stop Go.Stop Go.Extern
theorem getD_dropN (l : List Int) (k j : Nat) : (l.drop k).getD j 0 = l.getD (k + j) 0 := by simp [List.getD_eq_getElem?_getD, List.getElem?_drop]
theorem pCells_ack (num n win delay dropped q m : Nat) (v : Nat → Value) (ak : Nat → Nat) (st : Value) (hq : q < n) (hn : n ≤ 4) : (pCells num n win delay dropped v (fun k => if k < n then ak k else 0) st).toArray.setIfInBounds (9 + q) (.int .i64 (m : Int)) = (pCells num n win delay dropped v (fun k => if k < n then (if k = q then m else ak k) else 0) st).toArray := by
  rcases q with _ | _ | _ | _ | q
  · simp [pCells, hq]
  · simp [pCells, hq]
  · simp [pCells, hq]
  · simp [pCells, hq]
  · omega
theorem PeerK.ack {w : World} {b : Nat} {F FS : Nat → Prop} {num n win delay : Nat} {x : PeerM} {v : Nat → Value} {st : Value} (h : PeerK w b F FS num n win delay x v st) {q : Nat} (hq : q < n) (m : Nat) :
    PeerK (w.setCell ⟨b, 9 + q, none⟩ (.int .i64 (m : Int))) b F FS num n win delay { x with acked := fun k => if k = q then m else x.acked k } v st := by
  refine ⟨?_, fun q' hq' => owns_same (h.known q' hq') (fun k hk => heap_setCell_other _ _ _ _ (fun e => (h.fk q' k hq' hk).2.1 e)), h.nils, h.lens, h.fb, h.fk, h.fd, h.fs, h.hn2, h.hn4, h.hw, h.hnum, h.drop⟩
  have := h.blk.set (9 + q) (.int .i64 (m : Int))
  rw [pCells_ack num n win delay x.dropped q m v x.acked st hq h.hn4] at this
  exact this
theorem learn_self (x : PeerM) (q : Nat) : x.learn q (x.known q) = x := by
  cases x
  simp only [PeerM.learn, PeerM.mk.injEq, and_true]
  funext i
  split
  · rename_i e; rw [e]
  · rfl
theorem learnt_none (l : List Int) (start : Nat) (ins : List Int) (h : ins.length ≤ l.length - start) : learnt l start ins = l := by
  unfold learnt; rw [List.drop_eq_nil_of_le h]; simp
def pkCells (q start ack gi L cap : Nat) : Array Value := #[.int .i64 (q : Int), .int .i64 (start : Int), .int .i64 (ack : Int), .slice (some ⟨gi, 0, none⟩) L cap]
set_option maxRecDepth 10000 in
set_option maxHeartbeats 8000000 in
theorem learn_any (b num n win delay q start ack gi cap : Nat) (ins : List Int) (F FS : Nat → Prop) (x : PeerM) (v : Nat → Value) (st : Value) (w : World) (h : PeerK w b F FS num n win delay x v st) (hF : ∀ k, F k → k < w.heap.size) (hq : q < n)
    (hs : start ≤ (x.known q).length) (ht : start + ins.length ≤ 203) (ha : ack ≤ 1000) (hak : x.acked q ≤ 1000) (hcap : ins.length ≤ cap) (hgi : gi < w.heap.size) (hc : ∀ j, j < ins.length → w.cell? ⟨gi, j, none⟩ = some (.int .u8 (ins.getD j 0))) :
    Calls Tryz.prog 89 #[.pointer (some ⟨b, 0, none⟩), .agg #[.int .i64 (q : Int), .int .i64 (start : Int), .int .i64 (ack : Int), .slice (some ⟨gi, 0, none⟩) ins.length cap]] w fun e w' => e = .returned (.tuple #[]) ∧ Chg (fun k => F k ∧ ¬ FS k) w w' ∧ ∃ F' v', (∀ k, F k → F' k) ∧ (∀ k, F' k → F k ∨ w.heap.size ≤ k) ∧ (∀ k, F' k → k < w'.heap.size) ∧ PeerK w' b F' FS num n win delay (taken x q start ack ins) v' st := by
  have HB := hide h
  have hn4 := h.hn4
  have hbl := h.blk.lt
  have hlen := h.lens q hq
  obtain ⟨ao, cp, hv, _, _⟩ := h.shape q hq
  have q0 : (0 : Int) ≤ (q : Int) := by omega
  have q1 : (q : Int) < 4 := by omega
  have bB : Below w.heap.size w (w.alloc (.cells #[.int .i64 (q : Int), .int .i64 (start : Int), .int .i64 (ack : Int), .slice (some ⟨gi, 0, none⟩) ins.length cap] 130)) := (Below.refl _ w).alloc (Nat.le_refl _) _
  have xB : Blk (w.alloc (.cells #[.int .i64 (q : Int), .int .i64 (start : Int), .int .i64 (ack : Int), .slice (some ⟨gi, 0, none⟩) ins.length cap] 130)) w.heap.size (pkCells q start ack gi ins.length cap) 130 := Blk.new _ _ _
  have zB : (w.alloc (.cells #[.int .i64 (q : Int), .int .i64 (start : Int), .int .i64 (ack : Int), .slice (some ⟨gi, 0, none⟩) ins.length cap] 130)).heap.size = w.heap.size + 1 := by simp
  have ck0 := h.cK q (by omega)
  clear h
  go_enter Tryz.func89, Tryz.ntmps89
  go_wp2_with fail
  generalize w.alloc (.cells #[.int .i64 (q : Int), .int .i64 (start : Int), .int .i64 (ack : Int), .slice (some ⟨gi, 0, none⟩) ins.length cap] 130) = W1 at *
  have HZ := hide zB
  have m0 : W1.cell? ⟨w.heap.size, 0, none⟩ = some (.int .i64 (q : Int)) := xB.cell 0
  have m1 : W1.cell? ⟨w.heap.size, 1, none⟩ = some (.int .i64 (start : Int)) := xB.cell 1
  have m3 : W1.cell? ⟨w.heap.size, 3, none⟩ = some (.slice (some ⟨gi, 0, none⟩) ins.length cap) := xB.cell 3
  have ck : W1.cell? ⟨b, 5 + q, none⟩ = some (.slice ao (x.known q).length cp) := by rw [← hv]; exact (bB.cell (p := ⟨b, 5 + q, none⟩) hbl).trans ck0
  obtain ⟨d, hd⟩ : ∃ d, (x.known q).length - start = d := ⟨_, rfl⟩
  have hdi : IntKind.i64.wrap (((x.known q).length : Int) - (start : Int)) = (d : Int) := by rw [i64_id _ (by omega) (by omega)]; omega
  have hwd : IntKind.i64.wrap (d : Int) = (d : Int) := i64_id _ (by omega) (by omega)
  have HA := hide (And.intro hak ha)
  have HC := hide hc
  have HF := hide hF
  have HV := hide hv
  clear zB ck0 hak ha hc hF hv
  refine wp_moves_reads_tail0 11 (by kernel_rfl) (by kernel_rfl) (by kernel_rfl) (by kernel_rfl) ?_
  simp only [List.take_succ_cons, List.take_zero, List.drop_succ_cons, List.drop_zero]
  repeat still_step
  refine wpStill_nil ?_
  go_upto_if 20 with fail
  go_cut [] from 16 (fun wx => ∃ F' v', (∀ k, F k → F' k) ∧ (∀ k, F' k → F k ∨ w.heap.size ≤ k) ∧ (∀ k, F' k → k ≠ w.heap.size ∧ k < wx.heap.size) ∧ PeerK wx b F' FS num n win delay (x.learn q (learnt (x.known q) start ins)) v' st ∧ Chg (fun k => F k ∧ ¬ FS k) w wx ∧ Blk wx w.heap.size (pkCells q start ack gi ins.length cap) 130)
  case first =>
    clear m1
    by_cases hlt : d < ins.length
    · have hdec : decide ((d : Int) < (ins.length : Int)) = true := by simp; omega
      have d0 : (0 : Int) ≤ (d : Int) := by omega
      have d1 : (d : Int) ≤ (ins.length : Int) := by omega
      have d2 : (d : Int) ≤ (cap : Int) := by omega
      have d3 : ¬ cap = d := by omega
      obtain ⟨i8, hi8, hz0, hz1, hz2⟩ := info_parts Tryz.infoU8
      have hown := (unhide HB).known q hq
      have HO := hide (And.intro hown (And.intro bB xB))
      clear hown bB xB
      go_wp2_with fail
      refine wp_region_noPanic ?_
      refine wp_held_tail 14 17 (fun W' => W'.cell? ⟨w.heap.size, 0, none⟩ = some (.int .i64 (q : Int)) ∧ W'.cell? ⟨w.heap.size, 3, none⟩ = some (.slice (some ⟨gi, 0, none⟩) ins.length cap) ∧ W'.cell? ⟨b, 5 + q, none⟩ = some (.slice ao (x.known q).length cp)) (by kernel_rfl) (by decide) (by kernel_rfl) (by kernel_rfl) (by kernel_rfl) (fun _ _ _ _ _ h => h) ⟨m0, m3, ck⟩ ?_
      simp only [List.take_succ_cons, List.take_zero, List.drop_succ_cons, List.drop_zero]
      refine wpHeld_op ?y0 rfl ?z0 ?_
      case z0 => intro w' hS; obtain ⟨hS1, hS2, hS3⟩ := hS; go_simp; rfl
      refine wpHeld_op ?y1 rfl ?z1 ?_
      case z1 => intro w' hS; obtain ⟨hS1, hS2, hS3⟩ := hS; go_simp; rfl
      refine wpHeld_op ?y2 rfl ?z2 ?_
      case z2 => intro w' hS; obtain ⟨hS1, hS2, hS3⟩ := hS; go_simp; rfl
      refine wpHeld_op ?y3 rfl ?z3 ?_
      case z3 => intro w' hS; obtain ⟨hS1, hS2, hS3⟩ := hS; go_simp; rfl
      refine wpHeld_op ?y4 rfl ?z4 ?_
      case z4 => intro w' hS; obtain ⟨hS1, hS2, hS3⟩ := hS; go_simp; rfl
      refine wpHeld_op ?y5 rfl ?z5 ?_
      case z5 => intro w' hS; obtain ⟨hS1, hS2, hS3⟩ := hS; go_simp; rfl
      refine wpHeld_op ?y6 rfl ?z6 ?_
      case z6 => intro w' hS; obtain ⟨hS1, hS2, hS3⟩ := hS; go_simp; rfl
      refine wpHeld_op ?y7 rfl ?z7 ?_
      case z7 => intro w' hS; obtain ⟨hS1, hS2, hS3⟩ := hS; go_simp; rfl
      refine wpHeld_op ?y8 rfl ?z8 ?_
      case z8 => intro w' hS; obtain ⟨hS1, hS2, hS3⟩ := hS; go_simp; rfl
      refine wpHeld_op ?y9 rfl ?z9 ?_
      case z9 => intro w' hS; obtain ⟨hS1, hS2, hS3⟩ := hS; go_simp; rfl
      refine wpHeld_op ?y10 rfl ?z10 ?_
      case z10 => intro w' hS; obtain ⟨hS1, hS2, hS3⟩ := hS; go_simp; rfl
      refine wpHeld_op ?y11 rfl ?z11 ?_
      case z11 => intro w' hS; obtain ⟨hS1, hS2, hS3⟩ := hS; go_simp; rfl
      refine wpHeld_op ?y12 rfl ?z12 ?_
      case z12 => intro w' hS; obtain ⟨hS1, hS2, hS3⟩ := hS; go_simp; rfl
      refine wpHeld_op (.slice (some ⟨gi, d, none⟩) (ins.length - d) (cap - d)) rfl ?z13 ?_
      case z13 => intro w' hS; obtain ⟨hS1, hS2, hS3⟩ := hS; go_simp
      unfold wpHeld
      refine wpAnyH_take (i := 15) (v := .pointer (some ⟨b, 0, none⟩)) rfl (by kernel_rfl) (by kernel_rfl) (by kernel_rfl) (fun _ _ _ h => h) (Or.inl ⟨by rfl, ?g15⟩) ⟨m0, m3, ck⟩ ?_
      case g15 => intro w' _; go_simp
      refine wpAnyH_take (i := 16) (v := .pointer (some ⟨b, 5, none⟩)) rfl (by kernel_rfl) (by kernel_rfl) (by kernel_rfl) (fun _ _ _ h => h) (Or.inl ⟨by rfl, ?g16⟩) ⟨m0, m3, ck⟩ ?_
      case g16 => intro w' _; go_simp
      refine wpAnyH_all (rs := [14]) (by kernel_rfl) (by simp) ?_
      intro j hj
      obtain rfl : j = 14 := by simpa using hj
      refine wpOp_of_list _ rfl rfl ?_
      go_simp
      have hv := unhide HV
      have hF := unhide HF
      obtain ⟨hown, bB, xB⟩ := unhide HO
      have hownA : W1.drew.drew.ownsRow 0 5 1 (.slice ao (x.known q).length cp) (x.known q).length ((x.known q).map (Value.int .u8)) := by
        rw [← hv]; exact owns_same hown (fun k hk => bB.block k (hown.lt k hk).2)
      have hnews : ∀ j u, ((ins.drop d).map (Value.int .u8))[j]? = some u → W1.drew.drew.cell? ((⟨gi, d, none⟩ : Addr).add j) = some u := fun j u hj => by
        have hjl : j < (ins.drop d).length := by have := (List.getElem?_eq_some_iff.1 hj).1; simpa using this
        have hjl' : j < ins.length - d := by simpa using hjl
        rw [Addr.add_mid, show W1.drew.drew.cell? ⟨gi, d + j, none⟩ = W1.cell? ⟨gi, d + j, none⟩ from rfl, bB.cell (p := ⟨gi, d + j, none⟩) hgi, unhide HC (d + j) (by omega), ← getD_dropN]
        rw [List.getElem?_map, List.getElem?_eq_getElem hjl] at hj
        simp only [Option.map_some] at hj
        rw [List.getD_eq_getElem?_getD, List.getElem?_eq_getElem hjl]
        exact hj
      refine wpList_append_own_at W1.drew.drew rfl (.tmp 30) (.tmp 34) 46 rfl 0 5 i8 (.int .u8 0) 1 1 Tryz.underlying46 hi8 hz0 hz1 hz2 rfl (by decide) (.slice ao (x.known q).length cp) _ _ rfl hownA ⟨gi, d, none⟩ (ins.length - d) (cap - d) ((ins.drop d).map (Value.int .u8)) rfl (by simp) hnews (nums_ones .u8 _) (by unfold maxLen; omega) (by omega) (Nat.zero_le _) ?_
      intro v' w3 hown3 hg3 hnil3 hloc3
      obtain ⟨g', cap', rfl, _, _, _⟩ := own_some hown3 (by omega)
      have hBw : ∀ k, k < W1.heap.size → (v q).ownBlock ≠ some k → w3.heap[k]? = W1.heap[k]? := fun k hk hne => hg3.block k hk (fun e => hne (by rw [hv]; exact e.symm))
      have hzW := unhide HZ
      have hbne : (v q).ownBlock ≠ some b := fun e => ((unhide HB).fk q b hq e).2.1 rfl
      have hxne : (v q).ownBlock ≠ some w.heap.size := fun e => by have := hF _ ((unhide HB).fk q _ hq e).1; omega
      have hb3 : w3.heap[b]? = W1.heap[b]? := hBw b (by omega) hbne
      have hx3 : Blk w3 w.heap.size (pkCells q start ack gi ins.length cap) 130 := (hBw _ (by omega) hxne).trans xB
      have ck3 : w3.cell? ⟨b, 5 + q, none⟩ = some (.slice ao (x.known q).length cp) := (World.cell?_of_block (a := ⟨b, 5 + q, none⟩) hb3).trans ck
      have fr3 : w3.frozen? ⟨b, 5 + q, none⟩ = false := (World.frozen?_of_block (a := ⟨b, 5 + q, none⟩) hb3).trans ((bB.frozen (p := ⟨b, 5 + q, none⟩) hbl).trans ((unhide HB).blk.frozen (5 + q)))
      refine ⟨⟨hx3.cell 0, hx3.cell 3, ck3⟩, ⟨by kernel_rfl, ?_⟩⟩
      have H3 := hide (And.intro hown3 (And.intro hg3 (And.intro hloc3 (And.intro hBw (And.intro hx3 (And.intro bB hzW))))))
      clear hown3 hg3 hloc3 hnil3 hnews hownA hown hb3 hx3 m0 m3 ck hBw bB xB hzW hbne hxne hv hF
      change wpList _ _ _ _ _ _
      go_wp2_with fail
      refine NoPanic.normal ?_
      go_wp2_with fail
      go_meet
      case rel =>
        obtain ⟨hown3, hg3, hloc3, hBw, hx3, bB, hzW⟩ := unhide H3
        have hv := unhide HV
        have hF := unhide HF
        have hln : learnt (x.known q) start ins = x.known q ++ ins.drop d := by unfold learnt; rw [hd]
        have hfoot : ∀ k, (Value.slice (some ⟨g', 0, none⟩) ((x.known q).length + (ins.length - d)) cap').ownBlock = some k → F k ∨ w.heap.size + 1 ≤ k := fun k hk => by
          rcases hloc3 with e | e
          · rw [e, ← hv] at hk; exact .inl ((unhide HB).fk q k hq hk).1
          · rw [e] at hk; injection hk with hk; right; rw [← hk]; simp; omega
        have hsz := hg3.size
        have hdz : W1.drew.drew.heap.size = W1.heap.size := rfl
        refine ⟨_, _, fun k hk => .inl hk, fun k hk => hk.elim .inl (fun e => (hfoot k e).elim .inl (fun h => .inr (by omega))), fun k hk => ?_, PeerK.learn (w3 := w3) (unhide HB) hq (l := learnt (x.known q) start ins) (u := .slice (some ⟨g', 0, none⟩) ((x.known q).length + (ins.length - d)) cap') (m := W1.heap.size) (by rw [hln]; simp; omega) hF (by omega)
          (fun k hk hne => (hBw k (by omega) hne).trans (bB.block k hk)) (by rw [hln]; simpa using hown3) (by rw [hv]; exact hloc3), ?_, ?_⟩
        · have h2 : k < w3.heap.size := by
            rcases hk with hk | hk
            · have := hF k hk; omega
            · exact (hown3.lt k hk).2
          refine ⟨?_, by simpa using h2⟩
          rcases hk with hk | hk
          · have := hF k hk; omega
          · rcases hfoot k hk with e | e
            · have := hF k e; omega
            · omega
        · exact Chg.thenCell ⟨hg3.os.trans bB.os, hg3.tape.trans bB.tape, hg3.output.trans bB.output, Nat.le_trans bB.size hg3.size, fun k hk hF' => (hBw k (by omega) (fun e => hF' ⟨((unhide HB).fk q k hq e).1, ((unhide HB).fk q k hq e).2.2⟩)).trans (bB.block k hk)⟩ b (5 + q) _ ⟨(unhide HB).fb, fun e => ((unhide HB).fs b e).2 rfl⟩
        · exact hx3.setOther ⟨b, 5 + q, none⟩ (.slice (some ⟨g', 0, none⟩) ((x.known q).length + (ins.length - d)) cap') (by simp; omega)
    · have hdec : decide ((d : Int) < (ins.length : Int)) = false := by simp; omega
      go_wp2_with fail
      go_meet
      case rel =>
        have hzW := unhide HZ
        have hF := unhide HF
        refine ⟨F, v, fun k hk => hk, fun k hk => .inl hk, fun k hk => ?_, ?_, Chg.ofBelow bB.drew, xB⟩
        · have := hF k hk
          have hz2 : W1.drew.heap.size = W1.heap.size := rfl
          exact ⟨by omega, by omega⟩
        · rw [learnt_none _ _ _ (by omega), learn_self]
          exact (unhide HB).same (fun k hk => bB.block k (hF k hk))
  case rest =>
    obtain ⟨F', v', h1, h2, h3, K4, C4, x4⟩ := hcut
    have hak := (unhide HA).1
    have ha := (unhide HA).2
    clear m0 m1 m3 ck bB xB
    have n9 : wc.frozen? ⟨b, 9 + q, none⟩ = false := K4.blk.frozen (9 + q)
    have e0 : wc.cell? ⟨w.heap.size, 0, none⟩ = some (.int .i64 (q : Int)) := x4.cell 0
    have e2 : wc.cell? ⟨w.heap.size, 2, none⟩ = some (.int .i64 (ack : Int)) := x4.cell 2
    have n0 : wc.cell? ⟨b, 9 + q, none⟩ = some (.int .i64 (x.acked q : Int)) := K4.cA q hq
    obtain ⟨mx, hmx⟩ : ∃ mx, max (x.acked q) ack = mx := ⟨_, rfl⟩
    have hmi : (if x.acked q < ack then (ack : Int) else (x.acked q : Int)) = (mx : Int) := by split <;> omega
    have H4 := hide (And.intro K4 (And.intro C4 (And.intro h2 h3)))
    clear K4 C4 x4 h2 h3
    go_wp2_with fail
    refine wp_moves_reads_tail0 15 (by kernel_rfl) (by kernel_rfl) (by kernel_rfl) (by kernel_rfl) ?_
    simp only [List.take_succ_cons, List.take_zero, List.drop_succ_cons, List.drop_zero]
    repeat still_step
    refine wpStill_nil ?_
    go_wp2
    go_end0
    obtain ⟨K4, C4, h2, h3⟩ := unhide H4
    have Kd : PeerK wc.drew b F' FS num n win delay (x.learn q (learnt (x.known q) start ins)) v' st := K4.same (fun _ _ => rfl)
    have C5 : Chg (fun k => F k ∧ ¬ FS k) w wc.drew := C4.trans (Chg.drew _ _) (fun _ _ h => h)
    refine ⟨rfl, C5.thenCell b (9 + q) _ ⟨(unhide HB).fb, fun e => ((unhide HB).fs b e).2 rfl⟩, F', v', h1, h2, fun k hk => ?_, ?_⟩
    · have := (h3 k hk).2
      simpa using this
    · have := Kd.ack hq mx
      subst hmx
      exact this
end Go.Proofs.YtandblanpafjoaaGreatDoor

namespace Go.Proofs.YtandblanpafjoaaGreatDoor
open Go.RowKit Go.Extern.Stop Go.Stop Go.Extern
set_option maxRecDepth 10000 in
set_option maxHeartbeats 2000000 in
theorem pkread_frame (b o n c : Nat) (l : List Int) (w : World) (hl : l.length = n) (hn : n ≤ 70000) (hcap : n ≤ c) (hr : ∀ j : Nat, 0 ≤ l.getD j 0 ∧ l.getD j 0 ≤ 255)
    (hc : ∀ j, j < n → w.cell? ⟨b, o + j, none⟩ = some (.int .u8 (l.getD j 0))) (hbl : b < w.heap.size) (hf : ¬ Framed l) :
    Calls Tryz.prog 85 #[.slice (some ⟨b, o, none⟩) n c] w fun e w' => (∃ s, e = .returned (.tuple #[.agg Z4, .iface 205 (.agg #[.string s])])) ∧ Below w.heap.size w w' := by
  have HC := hide hc
  have HR := hide hr
  clear hc hr
  go_enter Tryz.func85, Tryz.ntmps85
  go_wp2_with fail
  refine (pkbytes_no b o n c l _ hl hn hcap (unhide HR) (fun j hj => by rw [World.cell?_alloc_lt _ _ ⟨b, o + j, none⟩ hbl]; exact unhide HC j hj) hf).mono ?_
  rintro e w1 ⟨⟨s, rfl⟩, hb1⟩
  have hz1 := hb1.size
  have hk1 : Blk w1 w.heap.size Z4 130 := (Blk.new w Z4 130).below (by simp) hb1
  go_wp2_with (refine wpList_store_blk rfl 130 _ _ rfl w.heap.size 130 Z4 Z4 rfl rfl hk1 Tryz.sizePk rfl (by kernel_rfl) ?_)
  refine bodyPost_ret (v := .tuple #[.agg Z4, .iface 205 (.agg #[.string s])]) ?_ rfl ⟨⟨s, rfl⟩, ?_⟩
  · rw [results_cell_tmp Tryz.results85]
    exact ret_cell_tmp (hk1.setRow _) Tryz.underlying130 rfl Tryz.sizePk
  · exact below_setRow (((Below.refl _ _).alloc (Nat.le_refl _) _).trans (hb1.mono (by simp))) (Nat.le_refl _) _
set_option maxRecDepth 10000 in
set_option maxHeartbeats 8000000 in
theorem pkread_framed (b o k c : Nat) (l : List Int) (w : World) (hl : l.length = k + 8) (hk : k ≤ 70000) (hcap : k + 8 ≤ c) (hr : ∀ j : Nat, 0 ≤ l.getD j 0 ∧ l.getD j 0 ≤ 255)
    (hc : ∀ j, j < k + 8 → w.cell? ⟨b, o + j, none⟩ = some (.int .u8 (l.getD j 0))) (hbl : b < w.heap.size) (hf : Framed l) :
    Calls Tryz.prog 85 #[.slice (some ⟨b, o, none⟩) (k + 8) c] w fun e w' => Below w.heap.size w w' ∧
      ((¬ GoodP (fromL l) (startL l) (ackL l) k ∧ ∃ s, e = .returned (.tuple #[.agg Z4, .iface 205 (.agg #[.string s])])) ∨
       (GoodP (fromL l) (startL l) (ackL l) k ∧ ∃ g cap, e = .returned (.tuple #[.agg #[.int .i64 (fromL l), .int .i64 (startL l), .int .i64 (ackL l), .slice (some ⟨g, 0, none⟩) k cap], .nilIface]) ∧ w'.ownsRow w.heap.size 5 1 (.slice (some ⟨g, 0, none⟩) k cap) k (((l.drop 7).take k).map (Value.int .u8)))) := by
  have HC := hide hc
  have HR := hide hr
  have HF := hide hf
  clear hc hr hf
  go_enter Tryz.func85, Tryz.ntmps85
  go_wp2_with fail
  refine (pkbytes_yes b o k c l _ hl hk hcap (fun j hj => by rw [World.cell?_alloc_lt _ _ ⟨b, o + j, none⟩ hbl]; exact unhide HC j hj) (unhide HF)).mono ?_
  rintro e w1 ⟨rfl, hb1⟩
  have hk1 : Hid (Blk w1 w.heap.size Z4 130) := hide ((Blk.new w Z4 130).below (by simp) hb1)
  have HB1 : Hid (Below w.heap.size w w1) := hide (((Below.refl _ _).alloc (Nat.le_refl _) _).trans (hb1.mono (by simp)))
  have hz1 := hb1.size
  have HC1 : Hid (∀ j, j < k + 8 → w1.cell? ⟨b, o + j, none⟩ = some (.int .u8 (l.getD j 0))) := hide fun j hj => by
    rw [hb1.cell (p := ⟨b, o + j, none⟩) (by simp; omega), World.cell?_alloc_lt _ _ ⟨b, o + j, none⟩ hbl]; exact unhide HC j hj
  simp only [World.size_alloc] at hz1
  clear hb1
  have hbl1 : b < w1.heap.size := by omega
  obtain ⟨x1, hx1⟩ : ∃ x : Nat, l.getD 1 0 = (x : Int) := ⟨(l.getD 1 0).toNat, by have := unhide HR 1; omega⟩
  have c1 : w1.cell? ⟨b, o + 1, none⟩ = some (.int .u8 (x1 : Int)) := by rw [← hx1]; exact unhide HC1 1 (by omega)
  have q1 : x1 < 256 := by have := unhide HR 1; omega
  have HX := hide hx1
  have HC11 := hide c1
  have HS1 := hide (SrcAt.mid (a := 7) (n := k) (fun j hj => unhide HC1 j (by omega)) hbl1 (by omega))
  clear hx1 c1
  have hw1 : (k : Int) + 8 - 1 = (k : Int) + 7 := by omega
  have ht : ((k : Int) + 7).toNat = k + 7 := by omega
  have HN : Hid (∀ (j : Nat) (W : World), j + 1 < k + 8 → HeldP w1 W → ∀ n c : Nat, 2 ≤ n → Calls Tryz.prog 113 #[.slice (some ⟨b, o + j, none⟩) n c] W fun e w' => e = .returned (.int .i64 (numL l j)) ∧ ∃ nq, w' = W.drewN nq) := hide fun j W hj h n c hn2 => by
    have r0 := unhide HR j
    have r1 := unhide HR (j + 1)
    have := pknumber_any b (o + j) n c (l.getD j 0).toNat (l.getD (j + 1) 0).toNat W hn2 (by omega) (by omega)
      (by rw [h.below.cell (p := ⟨b, o + j, none⟩) hbl1, unhide HC1 j (by omega), Int.toNat_of_nonneg r0.1]) (by rw [h.below.cell (p := ⟨b, o + j + 1, none⟩) hbl1, Nat.add_assoc, unhide HC1 (j + 1) (by omega), Int.toNat_of_nonneg r1.1])
    rw [Int.toNat_of_nonneg r0.1, Int.toNat_of_nonneg r1.1] at this
    exact this
  have HKS : Hid (∀ W, HeldP w1 W → SrcAt W (some ⟨b, o + 7, none⟩) ((l.drop 7).take k)) := hide fun W h => (unhide HS1).below (Nat.le_refl _) h.below
  have hlt : ((l.drop 7).take k).length = k := by simp [hl]
  have i1 : (1 : Int) < (k : Int) + 8 := by omega
  have i2 : (2 : Int) ≤ (k : Int) + 8 := by omega
  have i4 : (4 : Int) ≤ (k : Int) + 8 := by omega
  have i7 : (7 : Int) ≤ (k : Int) + 7 := by omega
  have i8' : (k : Int) + 8 ≤ (c : Int) := by omega
  have i9 : (k : Int) + 7 ≤ (c : Int) := by omega
  have i10 : ¬ c = 7 := by omega
  have hwk := i64_id ((k : Int) + 7) (by omega) (by omega)
  have hwx := i64_id (x1 : Int) (by omega) (by omega)
  have i13 : (0 : Int) ≤ (k : Int) + 7 := by omega
  have i11 : ¬ c = 2 := by omega
  have i12 : ¬ c = 4 := by omega
  clear HC1 HS1 HC
  go_wp2_with fail
  go_cut [5] from 13 to 29 (fun s5 wx => ∃ g6 g5 cap5, s5 = .pointer (some ⟨g6, 0, none⟩) ∧ Blk wx g6 #[.int .i64 (x1 : Int), .int .i64 (numL l 2), .int .i64 (numL l 4), .slice (some ⟨g5, 0, none⟩) k cap5] 130 ∧ w1.heap.size ≤ g6 ∧ wx.ownsRow w1.heap.size 5 1 (.slice (some ⟨g5, 0, none⟩) k cap5) k (((l.drop 7).take k).map (Value.int .u8)) ∧ Below w1.heap.size w1 wx)
  case first =>
    go_region_held3 (fun w' => w'.cell? ⟨b, o + 1, none⟩ = some (.int .u8 (x1 : Int)) ∧ HeldP w1 w')
      (first | assumption | (refine held_mk (unhide HC11) hbl1 ?_; repeat (first | assumption | exact Below.refl _ _ | refine Go.below_drewN ?_ _ | refine Below.drew ?_ | refine below_set4 ?_ _ _ _ _ (Nat.le_refl _) | refine Below.alloc ?_ (by first | omega | (simp; done) | (simp; omega)) _)))
      (first
        | (go_at_call 113; refine Calls.mono (unhide HN _ _ (by omega) ?_ _ _ (by omega)) ?_; (exact And.right (by assumption)); rintro e w' ⟨rfl, nq2, rfl⟩)
        | (go_at_call 114; refine Calls.mono (clone_any _ _ _ _ _ _ hlt (by omega) ?_) ?_; (exact unhide HKS _ (And.right (by assumption))); rintro e w5 ⟨g5, cap5, rfl, hbg5, hgl5, hown5, hb5⟩; (have hz5 := hb5.size); (have hB5 : Below w1.heap.size w1 w5 := (HeldP.below (And.right (by assumption))).trans (hb5.mono (by first | omega | (simp; done) | (simp; omega)))); (have hz15 := hB5.size); (try simp at hbg5); (try simp at hz5);
            (have HO5 := hide hown5); clear hown5;
            (try ((have hk5 : Blk w5 w1.heap.size Z4 130 := Blk.below (by first | exact Blk.new _ Z4 _ | exact Blk.drewN (Blk.new _ Z4 _) _ | exact Blk.drewN (Blk.drewN (Blk.new _ Z4 _) _) _) (by simp) hb5); (have f0 : w5.cell? ⟨w1.heap.size, 0, none⟩ = some (.int .i64 0) := hk5.cell 0); (have f1 : w5.cell? ⟨w1.heap.size, 1, none⟩ = some (.int .i64 0) := hk5.cell 1); (have f2 : w5.cell? ⟨w1.heap.size, 2, none⟩ = some (.int .i64 0) := hk5.cell 2); (have f3 : w5.cell? ⟨w1.heap.size, 3, none⟩ = some (.slice none 0 0) := hk5.cell 3); (have z0 := hk5.frozen 0); (have z1 := hk5.frozen 1); (have z2 := hk5.frozen 2); (have z3 := hk5.frozen 3); (have HK5 := hide hk5); clear hk5)); (have HB5 := hide hb5); clear hb5))
    all_goals (go_wp2_with fail; go_meet)
    all_goals (case rel => first
      | (have hkk := unhide HK5; exact ⟨w1.heap.size, g5, cap5, rfl, set4 hkk _ _ _ _, Nat.le_refl _, own_set4 (owns_mono (unhide HO5) (by simp)) _ _ _ _ (by simp [Value.ownBlock]; omega), below_set4 hB5 _ _ _ _ (Nat.le_refl _)⟩)
      | (exact ⟨w5.heap.size, g5, cap5, rfl, Blk.new _ _ _, hz15, (owns_mono (unhide HO5) (by simp)).alloc _, hB5.alloc hz15 _⟩))
  case rest =>
    obtain ⟨g6, g5, cap5, rfl, hk6, hg6, hown6, hb6⟩ := hcut
    obtain ⟨W2, hW2⟩ : ∃ x, x = wc := ⟨_, rfl⟩
    subst hW2
    have HO6 := hide hown6
    have HB6 := hide hb6
    have hfr : fromL l = (x1 : Int) := unhide HX
    have HK2 : Hid (Blk W2 w.heap.size Z4 130) := hide ((unhide hk1).below (by omega) hb6)
    have hz6 := hb6.size
    have b0 : W2.cell? ⟨g6, 0, none⟩ = some (.int .i64 (x1 : Int)) := hk6.cell 0
    have b1 : W2.cell? ⟨g6, 1, none⟩ = some (.int .i64 (numL l 2)) := hk6.cell 1
    have b2 : W2.cell? ⟨g6, 2, none⟩ = some (.int .i64 (numL l 4)) := hk6.cell 2
    have b3 : W2.cell? ⟨g6, 3, none⟩ = some (.slice (some ⟨g5, 0, none⟩) k cap5) := hk6.cell 3
    have hg6l := hk6.lt
    have HK6 := hide hk6
    clear hown6 hb6 hk6
    by_cases hg : GoodP (x1 : Int) (numL l 2) (numL l 4) k
    · go_wp2_with fail
      refine (parts_yes _ _ _ _ _ _ _ hg).mono ?_
      rintro e w3 ⟨rfl, rfl⟩
      have hk3 := (unhide HK2).alloc (.cells #[.int .i64 (x1 : Int), .int .i64 (numL l 2), .int .i64 (numL l 4), .slice (some ⟨g5, 0, none⟩) k cap5] 130)
      have hk3' := (unhide HK6).alloc (.cells #[.int .i64 (x1 : Int), .int .i64 (numL l 2), .int .i64 (numL l 4), .slice (some ⟨g5, 0, none⟩) k cap5] 130)
      go_wp2_with (first
        | (refine wpList_load_blk rfl 130 _ rfl g6 rfl 130 _ _ hk3' Tryz.underlying130 rfl Tryz.sizePk ?_)
        | (refine wpList_store_blk rfl 130 _ _ rfl w.heap.size 130 Z4 #[.int .i64 (x1 : Int), .int .i64 (numL l 2), .int .i64 (numL l 4), .slice (some ⟨g5, 0, none⟩) k cap5] rfl rfl hk3 Tryz.sizePk rfl (by kernel_rfl) ?_))
      refine bodyPost_ret (v := .tuple #[.agg #[.int .i64 (x1 : Int), .int .i64 (numL l 2), .int .i64 (numL l 4), .slice (some ⟨g5, 0, none⟩) k cap5], .nilIface]) ?_ rfl ⟨?_, .inr ⟨?_, g5, cap5, ?_, ?_⟩⟩
      · rw [results_cell_tmp Tryz.results85]
        exact ret_cell_tmp (hk3.setRow _) Tryz.underlying130 rfl Tryz.sizePk
      · exact below_setRow (((unhide HB1).trans ((unhide HB6).mono (by omega))).alloc (by omega) _) (Nat.le_refl _) _
      · rw [hfr]; exact hg
      · rw [hfr]; rfl
      · have hlt5 := ((unhide HO6).lt g5 rfl).1
        exact (owns_mono ((unhide HO6).alloc _) (by omega)).kept (grown_setRow _ w.heap.size _) (.inr (by simp [Value.ownBlock]; omega))
    · go_wp2_with fail
      refine (parts_no _ _ _ _ _ _ _ hg).mono ?_
      rintro e w3 ⟨⟨s, rfl⟩, rfl⟩
      have hk3 := (unhide HK2).alloc (.cells #[.int .i64 (x1 : Int), .int .i64 (numL l 2), .int .i64 (numL l 4), .slice (some ⟨g5, 0, none⟩) k cap5] 130)
      go_wp2_with (refine wpList_store_blk rfl 130 _ _ rfl w.heap.size 130 Z4 Z4 rfl rfl hk3 Tryz.sizePk rfl (by kernel_rfl) ?_)
      refine bodyPost_ret (v := .tuple #[.agg Z4, .iface 205 (.agg #[.string s])]) ?_ rfl ⟨?_, .inl ⟨?_, s, rfl⟩⟩
      · rw [results_cell_tmp Tryz.results85]
        exact ret_cell_tmp (hk3.setRow _) Tryz.underlying130 rfl Tryz.sizePk
      · exact below_setRow (((unhide HB1).trans ((unhide HB6).mono (by omega))).alloc (by omega) _) (Nat.le_refl _) _
      · rw [hfr]; exact hg
end Go.Proofs.YtandblanpafjoaaGreatDoor

namespace Go.Proofs.YtandblanpafjoaaGreatDoor
open Go.RowKit Go.Extern.Stop Go.Stop Go.Extern
theorem pkread_any (b o n c : Nat) (l : List Int) (w : World) (hl : l.length = n) (hn : n ≤ 70000) (hcap : n ≤ c) (hr : ∀ j : Nat, 0 ≤ l.getD j 0 ∧ l.getD j 0 ≤ 255)
    (hc : ∀ j, j < n → w.cell? ⟨b, o + j, none⟩ = some (.int .u8 (l.getD j 0))) (hbl : b < w.heap.size) :
    Calls Tryz.prog 85 #[.slice (some ⟨b, o, none⟩) n c] w fun e w' => Below w.heap.size w w' ∧
      ((¬ OkP l ∧ ∃ s, e = .returned (.tuple #[.agg Z4, .iface 205 (.agg #[.string s])])) ∨
       (OkP l ∧ ∃ g cap, e = .returned (.tuple #[.agg #[.int .i64 (fromL l), .int .i64 (startL l), .int .i64 (ackL l), .slice (some ⟨g, 0, none⟩) (n - 8) cap], .nilIface]) ∧ w'.ownsRow w.heap.size 5 1 (.slice (some ⟨g, 0, none⟩) (n - 8) cap) (n - 8) ((inputsL l).map (Value.int .u8)))) := by
  by_cases hf : Framed l
  · obtain ⟨k, rfl⟩ : ∃ k, n = k + 8 := ⟨n - 8, by have := hf.1; omega⟩
    refine (pkread_framed b o k c l w hl (by omega) hcap hr hc hbl hf).mono fun e w' ⟨hb, h⟩ => ⟨hb, ?_⟩
    have e8 : l.length - 8 = k := by omega
    rcases h with ⟨h1, h2⟩ | ⟨h1, h2⟩
    · exact .inl ⟨fun h => h1 (by have := h.2; rwa [e8] at this), h2⟩
    · refine .inr ⟨⟨hf, by rw [e8]; exact h1⟩, ?_⟩
      unfold inputsL
      rw [e8, show k + 8 - 8 = k by omega]
      exact h2
  · refine (pkread_frame b o n c l w hl hn hcap hr hc hbl hf).mono fun e w' ⟨h, hb⟩ => ⟨hb, .inl ⟨fun h' => hf h'.1, h⟩⟩
end Go.Proofs.YtandblanpafjoaaGreatDoor

