import Derived.Test.YtandblanpafjoaaGreatDoorPack13
import Derived.Test.YtandblanpafjoaaGreatDoorPack06
import Derived.Test.YtandblanpafjoaaGreatDoorPack04
import Derived.Test.YtandblanpafjoaaGreatDoorPack03
import Derived.Test.YtandblanpafjoaaGreatDoorPack01
import Derived.Laws.StructEq
import Derived.Test.YtandblanpafjoaaGreatDoorPack11
import Derived.Deep.QuietTactic
import Derived.BigQuiet
namespace Go.Proofs.YtandblanpafjoaaGreatDoor
open Go.RowKit Go.Extern.Stop Go.Stop Go.Extern Go.Maps
def cellN (w : World) (b i : Nat) : Nat := match w.cell? ⟨b, i, none⟩ with
  | some (.int _ v) => v.toNat
  | _ => 0
theorem cellN_is {w : World} {b i : Nat} {k : IntKind} {v : Nat} (h : w.cell? ⟨b, i, none⟩ = some (.int k (v : Int))) : cellN w b i = v := by simp [cellN, h]
theorem PgMap.grown {w w' : World} {b n g : Nat} {M : Nat → Option (List Int)} (h : PgMap w b n M) (hg : w.grownBy w' (some g)) (hne : b ≠ g) : PgMap w' b n M := h.same (hg.block b h.lt (fun e => hne (by injection e)))
set_option maxRecDepth 10000 in
set_option maxHeartbeats 2000000 in
theorem dback_any (sb n win lo frame pb rb f : Nat) (mb : Nat → Nat) (F : Nat → Prop) (fs : Nat → List Int) (w : World) (h : DeltaAt w sb F n win lo frame fs pb rb mb) (hn : n ≤ 4) (hl : lo ≤ f) (hf : f ≤ frame) (hfr : frame ≤ 1000) (hwin : frame ≤ lo + win) :
    Calls Tryz.prog 193 #[.pointer (some ⟨sb, 0, none⟩), .int .i64 (f : Int)] w fun e w' => e = .returned (.tuple #[]) ∧ Chg F w w' ∧ DeltaAt w' sb F n win lo f fs pb rb mb := by
  have hlen := stF_len hn fs f
  have hlt := h.blk.lt
  have HB := hide h
  clear h
  go_enter Tryz.func193, Tryz.ntmps193
  go_wp2_with fail
  refine (dstate_any sb n win lo frame pb rb f mb F fs w (unhide HB) hn hl hf hfr).mono ?_
  rintro e w2 ⟨rfl, hb2⟩
  have g2 : DeltaAt w2 sb F n win lo frame fs pb rb mb := by
    have g := unhide HB
    refine ⟨g.blk.same (hb2.block _ hlt), g.pl.same (hb2.block _ g.pl.lt), by obtain ⟨t, ht⟩ := g.ring; exact ⟨t, (hb2.block _ ht.lt).trans ht⟩, fun i hi => by obtain ⟨M, hM⟩ := g.maps i hi; exact ⟨M, hM.same (hb2.block _ hM.lt)⟩, fun j h1 h2 => (g.past j h1 h2).same (hb2.block _ (g.past j h1 h2).lt), g.next.same (hb2.block _ g.next.lt), g.inj, g.far, g.ne1, g.ne2, g.ne3, g.f1, g.f2, g.f3⟩
  have h5 : StBlk (w2.setCells sb 2 (nums .u8 (stF n fs f)).toList) sb 261 n frame (stF n fs f) pb win rb (win + 1) := g2.blk.putNow (stF n fs f) hlen
  have hG := grown_setCells sb (nums .u8 (stF n fs f)).toList 2 w2
  have c5 : Chg F w (w2.setCells sb 2 (nums .u8 (stF n fs f)).toList) := (Chg.ofBelow hb2).thenCells sb _ _ (unhide HB).f1
  have HTH := hide g2.blk.there
  have p5 : RingAt (w2.setCells sb 2 (nums .u8 (stF n fs f)).toList) pb 199 win 4 lo frame (fun f => insV n (fs f)) := g2.pl.same (hG.block _ g2.pl.lt (fun e => g2.ne1 (by injection e with e; exact e.symm)))
  have r5 : ∃ t, Blk (w2.setCells sb 2 (nums .u8 (stF n fs f)).toList) rb ((List.range (win + 1)).map fun i => Value.map (some (mb i))).toArray t := by
    obtain ⟨t, ht⟩ := g2.ring; exact ⟨t, ht.grown hG (Ne.symm g2.ne2)⟩
  have m5 : ∀ i, i < win + 1 → ∃ M, PgMap (w2.setCells sb 2 (nums .u8 (stF n fs f)).toList) (mb i) 18 M := fun i hi => by obtain ⟨M, hM⟩ := g2.maps i hi; exact ⟨M, hM.grown hG (g2.far i hi).1⟩
  have q5 : ∀ j, lo ≤ j → j < frame → PgMap (w2.setCells sb 2 (nums .u8 (stF n fs f)).toList) (mb (j % (win + 1))) 18 (diffL (stF n fs j) (stF n fs (j + 1))) := fun j h1 h2 => (g2.past j h1 h2).grown hG (g2.far _ (Nat.mod_lt j (by omega))).1
  have n5 : PgMap (w2.setCells sb 2 (nums .u8 (stF n fs f)).toList) (mb (frame % (win + 1))) 0 (fun _ => none) := g2.next.grown hG (g2.far _ (Nat.mod_lt frame (by omega))).1
  clear g2 hb2 hG
  go_wp2_with (first | (refine wpList_store_mid rfl 209 _ _ rfl sb 2 (nums .u8 (stF n fs f)) rfl rfl (by rw [nums_size, hlen]; exact unhide HTH) (Tryz.sizeMem _ hlen) (nums_one _ _) ?_))
  go_frame
  clear HTH
  generalize w2.setCells sb 2 (nums .u8 (stF n fs f)).toList = V at *
  go_loopw [15] (fun _ wr => ∃ k : Nat, f ≤ k ∧ k ≤ frame ∧ StBlk wr sb 261 n k (stF n fs f) pb win rb (win + 1) ∧ Chg F w wr ∧ RingAt wr pb 199 win 4 lo frame (fun f => insV n (fs f)) ∧ (∃ t, Blk wr rb ((List.range (win + 1)).map fun i => Value.map (some (mb i))).toArray t) ∧ (∀ i, i < win + 1 → ∃ M, PgMap wr (mb i) 18 M) ∧ (∀ j, lo ≤ j → j < k → PgMap wr (mb (j % (win + 1))) 18 (diffL (stF n fs j) (stF n fs (j + 1)))) ∧ PgMap wr (mb (k % (win + 1))) 0 (fun _ => none)) (fun _ wr => cellN wr sb 1)
  case atStart => exact ⟨frame, hf, Nat.le_refl _, h5, c5, p5, r5, m5, q5, n5⟩
  case round =>
    clear h5 c5 p5 r5 m5 q5 n5
    obtain ⟨k, hk1, hk2, h5, c5, p5, r5, m5, q5, n5⟩ := hrel
    have k1 := h5.c1
    have f1 := h5.frozen 1
    have k291 := h5.c291
    by_cases hgt : f < k
    · obtain ⟨q, rfl⟩ : ∃ q, k = q + 1 := ⟨k - 1, by omega⟩
      have hq : (((q + 1 : Nat) : Int)) = (q : Int) + 1 := by omega
      rw [hq] at k1
      have hgI : decide ((f : Int) < (q : Int) + 1) = true := by simp; omega
      have hw1 : IntKind.i64.wrap ((q : Int) + 1 - 1) = (q : Int) := by rw [show (q : Int) + 1 - 1 = (q : Int) by omega]; exact i64_id _ (by omega) (by omega)
      go_wp2_with fail
      have hW : 0 < win + 1 := by omega
      have hG := grown_set wr sb 1 (.int .i64 (q : Int))
      have h6 : StBlk (wr.setCell ⟨sb, 1, none⟩ (.int .i64 (q : Int))) sb 261 n q (stF n fs f) pb win rb (win + 1) := h5.putFrame q
      have c6 : Chg F w (wr.setCell ⟨sb, 1, none⟩ (.int .i64 (q : Int))) := c5.thenCell sb 1 _ (unhide HB).f1
      have p6 := p5.same (w' := wr.setCell ⟨sb, 1, none⟩ (.int .i64 (q : Int))) (hG.block _ p5.lt (fun e => (unhide HB).ne1 (by injection e with e; exact e.symm)))
      obtain ⟨tr, hr5⟩ := r5
      have r6 := hr5.grown hG (Ne.symm (unhide HB).ne2)
      have m6 : ∀ i, i < win + 1 → ∃ M, PgMap (wr.setCell ⟨sb, 1, none⟩ (.int .i64 (q : Int))) (mb i) 18 M := fun i hi => by obtain ⟨M, hM⟩ := m5 i hi; exact ⟨M, hM.grown hG ((unhide HB).far i hi).1⟩
      have q6 : ∀ j, lo ≤ j → j < q + 1 → PgMap (wr.setCell ⟨sb, 1, none⟩ (.int .i64 (q : Int))) (mb (j % (win + 1))) 18 (diffL (stF n fs j) (stF n fs (j + 1))) := fun j h1 h2 => (q5 j h1 h2).grown hG ((unhide HB).far _ (Nat.mod_lt j hW)).1
      have HM := hide (cellN_is (w := wr) (v := q + 1) (by rw [hq]; exact k1))
      clear h5 c5 p5 hr5 m5 q5 n5 k1 f1 k291 hG
      generalize wr.setCell ⟨sb, 1, none⟩ (.int .i64 (q : Int)) = V2 at *
      have k1 := h6.c1
      have k291 := h6.c291
      refine wp_moves_reads_tail0 9 (by kernel_rfl) (by kernel_rfl) (by kernel_rfl) (by kernel_rfl) ?_
      simp only [List.take_succ_cons, List.take_zero, List.drop_succ_cons, List.drop_zero]
      repeat still_step
      refine wpStill_nil ?_
      have hsl : V2.drew.cell? ⟨rb, q % (win + 1), none⟩ = some (.map (some (mb (q % (win + 1))))) := by
        rw [show V2.drew.cell? ⟨rb, q % (win + 1), none⟩ = V2.cell? ⟨rb, q % (win + 1), none⟩ from rfl, r6.cell]
        simp [Nat.mod_lt q hW]
      have H6 := hide (And.intro h6 (And.intro c6 (And.intro p6 (And.intro r6 (And.intro m6 q6)))))
      clear h6 c6 p6 r6 m6 q6
      go_wp2_with fail
      refine (rat_pg rb (win + 1) q (mb (q % (win + 1))) V2.drew hW hsl).mono ?_
      rintro e w7 ⟨rfl, hb7⟩
      obtain ⟨h6, c6, p6, r6, m6, q6⟩ := unhide H6
      have hB7 : Below V2.heap.size V2 w7 := ⟨hb7.os, hb7.tape, hb7.output, hb7.size, hb7.block⟩
      obtain ⟨M0, D0, ho0, hD0⟩ := m6 (q % (win + 1)) (Nat.mod_lt q hW)
      have hml : mb (q % (win + 1)) < V2.heap.size := by obtain ⟨es, c, hbb, _⟩ := ho0; exact (Array.getElem?_eq_some_iff.1 hbb).1
      have ho7 : w7.ownsMap Tryz.prog 3 pgElem (mb (q % (win + 1))) 18 D0 := by
        obtain ⟨es, c, hbb, hr⟩ := ho0
        exact ⟨es, c, (hB7.block _ hml).trans hbb, hr⟩
      clear h6 c6 p6 r6 m6 q6 ho0 hD0
      go_wp2_with (first | (refine wpList_clear_own rfl _ 259 3 207 rfl Tryz.underlying259 pgElem (mb (q % (win + 1))) 18 D0 rfl ho7 ?_; intro w8 ho8 hg8 hs8))
      try go_frame
      go_roundw
      case rel =>
        obtain ⟨h6, c6, p6, r6, m6, q6⟩ := unhide H6
        have hfar := (unhide HB).far (q % (win + 1)) (Nat.mod_lt q hW)
        have hk : ∀ b, b < V2.heap.size → b ≠ mb (q % (win + 1)) → w8.heap[b]? = V2.heap[b]? := fun b hb hne => (hg8.block b (by have := hB7.size; omega) (fun e => hne (by injection e))).trans (hB7.block b hb)
        have hz : V2.heap.size ≤ w8.heap.size := by rw [hs8]; exact hB7.size
        have n8 : PgMap w8 (mb (q % (win + 1))) 0 (fun _ => none) := ⟨_, ho8, PgD.empty⟩
        refine ⟨q, by omega, by omega, h6.same (hk _ h6.lt (Ne.symm hfar.1)), ?_, p6.same (hk _ p6.lt (Ne.symm hfar.2.1)), ⟨tr, (hk _ r6.lt (Ne.symm hfar.2.2.1)).trans r6⟩, ?_, ?_, n8⟩
        · exact ⟨(hg8.os.trans hB7.os).trans c6.os, (hg8.tape.trans hB7.tape).trans c6.tape, (hg8.output.trans hB7.output).trans c6.output, Nat.le_trans c6.size hz, fun b hb hF => (hk b (by have := c6.size; omega) (fun e => hF (by rw [e]; exact hfar.2.2.2))).trans (c6.block b hb hF)⟩
        · intro i hi
          by_cases e : i = q % (win + 1)
          · subst e; exact ⟨_, n8.mono (by omega)⟩
          · obtain ⟨M, hM⟩ := m6 i hi
            exact ⟨M, hM.same (hk _ hM.lt (fun e' => e ((unhide HB).inj i _ hi (Nat.mod_lt q hW) e')))⟩
        · intro j h1 h2
          have hM := q6 j h1 (by omega)
          refine hM.same (hk _ hM.lt (fun e' => ?_))
          exact mod_apart (f := j) (g := q) (W := win + 1) h2 (by omega) ((unhide HB).inj _ _ (Nat.mod_lt j hW) (Nat.mod_lt q hW) e')
      case measure =>
        obtain ⟨h6, _⟩ := unhide H6
        have hfar := (unhide HB).far (q % (win + 1)) (Nat.mod_lt q hW)
        have h8 : StBlk w8 sb 261 n q (stF n fs f) pb win rb (win + 1) := h6.same ((hg8.block sb (by have := hB7.size; have := h6.lt; omega) (fun e => hfar.1 (by injection e with e; exact e.symm))).trans (hB7.block sb h6.lt))
        have e8 := cellN_is h8.c1
        rw [e8, unhide HM]; omega
    · have hkf : k = f := by omega
      subst hkf
      have hgI : decide ((k : Int) < (k : Int)) = false := by simp
      have H6 := hide (And.intro h5 (And.intro c5 (And.intro p5 (And.intro r5 (And.intro m5 (And.intro q5 n5))))))
      clear h5 c5 p5 r5 m5 q5 n5
      go_wp2
      go_end0
      obtain ⟨h5, c5, p5, r5, m5, q5, n5⟩ := unhide H6
      have g := unhide HB
      exact ⟨rfl, c5, h5, p5.less (Nat.le_refl _) hf, r5, m5, q5, n5, g.inj, g.far, g.ne1, g.ne2, g.ne3, g.f1, g.f2, g.f3⟩
end Go.Proofs.YtandblanpafjoaaGreatDoor

namespace Go.Proofs.YtandblanpafjoaaGreatDoor
open Go.RowKit
structure POk (x : PeerM) (num n win delay : Nat) : Prop where
  own : (x.known num).length = delay + x.frame
  len : ∀ q, q < n → (x.known q).length ≤ 203
  rng : ∀ q, q < n → ∀ j : Nat, 0 ≤ (x.known q).getD j 0 ∧ (x.known q).getD j 0 ≤ 255
  frame : x.frame ≤ 200
  ack : ∀ q, q < n → x.acked q ≤ (x.known num).length
  win : x.frame ≤ confTo x n + win
  delay : delay ≤ 3
theorem getD_out (l : List Int) (j : Nat) (h : l.length ≤ j) : l.getD j 0 = 0 := by
  rw [List.getD_eq_getElem?_getD, List.getElem?_eq_none h]; rfl
theorem insM_len (x : PeerM) (n f : Nat) : (insM x n f).length = n := by simp [insM]
theorem insM_get (x : PeerM) (n f q : Nat) (hq : q < n) : (insM x n f).getD q 0 = inputM x q f := by
  simp [insM, List.getD_eq_getElem?_getD, hq]
theorem getD_append_left (l m : List Int) (j : Nat) (h : j < l.length) : (l ++ m).getD j 0 = l.getD j 0 := by
  simp [List.getD_eq_getElem?_getD, List.getElem?_append_left h]
theorem inputM_rng {x : PeerM} {num n win delay q : Nat} (h : POk x num n win delay) (hq : q < n) (f : Nat) : 0 ≤ inputM x q f ∧ inputM x q f ≤ 255 := by
  unfold inputM; split <;> exact h.rng q hq _
theorem insM_rng {x : PeerM} {num n win delay : Nat} (h : POk x num n win delay) (f j : Nat) : 0 ≤ (insM x n f).getD j 0 ∧ (insM x n f).getD j 0 ≤ 255 := by
  by_cases hj : j < n
  · rw [insM_get x n f j hj]; exact inputM_rng h hj f
  · rw [getD_out _ _ (by rw [insM_len]; omega)]; omega
theorem insM_congr {x y : PeerM} {n f : Nat} (h : ∀ q, q < n → inputM x q f = inputM y q f) : insM x n f = insM y n f := by
  unfold insM
  apply List.map_congr_left
  intro q hq
  exact h q (by simpa using hq)
/-- One frame more, with an input of one's own. -/
def stepM (x : PeerM) (num : Nat) (v : Int) : PeerM := { x.learn num (x.known num ++ [v]) with frame := x.frame + 1 }
theorem stepM_known (x : PeerM) (num q : Nat) (v : Int) : (stepM x num v).known q = if q = num then x.known num ++ [v] else x.known q := by
  simp [stepM, PeerM.learn]
theorem stepM_ins {x : PeerM} {num n win delay : Nat} (h : POk x num n win delay) (v : Int) (f : Nat) (hf : f < x.frame) : insM (stepM x num v) n f = insM x n f := by
  apply insM_congr
  intro q hq
  unfold inputM
  rw [stepM_known]
  by_cases e : q = num
  · subst e
    have := h.own
    rw [if_pos rfl, if_pos (by simp; omega), if_pos (by omega), getD_append_left _ _ _ (by omega)]
  · rw [if_neg e]
theorem POk.step {x : PeerM} {num n win delay : Nat} (h : POk x num n win delay) (hn : num < n) (v : Int) (hv : 0 ≤ v ∧ v ≤ 255) (hf : x.frame < 200) (hw : x.frame < confTo x n + win) : POk (stepM x num v) num n win delay where
  own := by rw [stepM_known, if_pos rfl]; simp [stepM, h.own]; omega
  len := fun q hq => by
    rw [stepM_known]; split
    · have := h.own; have := h.delay; simp; omega
    · exact h.len q hq
  rng := fun q hq j => by
    rw [stepM_known]; split
    · by_cases e : j < (x.known num).length
      · rw [getD_append_left _ _ _ e]; exact h.rng num hn j
      · by_cases e2 : j = (x.known num).length
        · subst e2; simp [List.getD_eq_getElem?_getD]; exact hv
        · rw [getD_out _ _ (by simp; omega)]; omega
    · exact h.rng q hq j
  frame := by simp [stepM]; omega
  ack := fun q hq => by
    have := h.ack q hq
    rw [stepM_known, if_pos rfl]; simp [stepM, PeerM.learn]; omega
  win := by
    have : confTo x n ≤ confTo (stepM x num v) n := confTo_mono (by simp [stepM]) n (fun q _ => by rw [stepM_known]; split <;> simp_all)
    simp only [stepM] at this ⊢; omega
  delay := h.delay
theorem learnt_get (l : List Int) (start : Nat) (ins : List Int) (j : Nat) (h : j < l.length) : (learnt l start ins).getD j 0 = l.getD j 0 := getD_append_left _ _ _ h
theorem taken_kn (x : PeerM) (q start ack j : Nat) (ins : List Int) : (taken x q start ack ins).known j = if j = q then learnt (x.known q) start ins else x.known j := by
  simp [taken, PeerM.learn]
theorem taken_fr (x : PeerM) (q start ack : Nat) (ins : List Int) : (taken x q start ack ins).frame = x.frame := rfl
theorem taken_ins (x : PeerM) (n q start ack : Nat) (ins : List Int) (f : Nat) (hf : f < confTo x n) : insM (taken x q start ack ins) n f = insM x n f := by
  apply insM_congr
  intro j hj
  have := confTo_known x n j hj
  unfold inputM
  rw [taken_kn]
  by_cases e : j = q
  · subst e
    have hl := learnt_len (x.known j) start ins
    rw [if_pos rfl, if_pos (by omega), if_pos (by omega), learnt_get _ _ _ _ (by omega)]
  · rw [if_neg e]
theorem taken_conf (x : PeerM) (n q start ack : Nat) (ins : List Int) : confTo x n ≤ confTo (taken x q start ack ins) n :=
  confTo_mono (x := x) (y := taken x q start ack ins) (Nat.le_refl _) n (fun j _ => by
    rw [taken_kn]; split
    · rename_i e; subst e; exact learnt_len _ _ _
    · exact Nat.le_refl _)
theorem learnt_tot (l : List Int) (start : Nat) (ins : List Int) (h : start ≤ l.length) : (learnt l start ins).length = max l.length (start + ins.length) := by
  simp [learnt]; omega
theorem POk.taken {x : PeerM} {num n win delay : Nat} (h : POk x num n win delay) {q start ack : Nat} {ins : List Int} (hq : q ≠ num) (hqn : q < n) (hs : start ≤ (x.known q).length) (ht : start + ins.length ≤ 200 + delay) (ha : ack ≤ (x.known num).length)
    (hr : ∀ j : Nat, 0 ≤ ins.getD j 0 ∧ ins.getD j 0 ≤ 255) : POk (taken x q start ack ins) num n win delay where
  own := by rw [taken_kn, if_neg (Ne.symm hq), taken_fr]; exact h.own
  len := fun j hj => by
    rw [taken_kn]; split
    · rw [learnt_tot _ _ _ hs]; have := h.len q hqn; have := h.delay; omega
    · exact h.len j hj
  rng := fun j hj i => by
    rw [taken_kn]; split
    · unfold learnt
      by_cases e : i < (x.known q).length
      · rw [getD_append_left _ _ _ e]; exact h.rng q hqn i
      · rw [List.getD_eq_getElem?_getD, List.getElem?_append_right (by omega), List.getElem?_drop, ← List.getD_eq_getElem?_getD]; exact hr _
    · exact h.rng j hj i
  frame := h.frame
  ack := fun j hj => by
    rw [taken_kn, if_neg (Ne.symm hq)]
    have := h.ack j hj
    have := h.ack q hqn
    simp only [Proofs.YtandblanpafjoaaGreatDoor.taken]; split <;> omega
  win := by
    have := taken_conf x n q start ack ins
    have := h.win
    rw [taken_fr]; omega
  delay := h.delay
theorem POk.drop {x : PeerM} {num n win delay : Nat} (h : POk x num n win delay) (d : Nat) : POk { x with dropped := d } num n win delay where
  own := h.own
  len := h.len
  rng := h.rng
  frame := h.frame
  ack := h.ack
  win := by
    have e : ∀ k, confTo { x with dropped := d } k = confTo x k := fun k => by
      induction k with
      | zero => rfl
      | succ k ih => simp [confTo, ih]
    rw [e]; exact h.win
  delay := h.delay
end Go.Proofs.YtandblanpafjoaaGreatDoor

namespace Go.Proofs.YtandblanpafjoaaGreatDoor
open Go.RowKit Go.Extern.Stop Go.Stop Go.Extern
theorem or_two (a b : Nat) (ha : a < 256) (hb : b < 256) : bits .or .i64 ((a : Int) * 256) (b : Int) = (a : Int) * 256 + (b : Int) := by
  have hn : a * 256 ||| b = a * 256 + b := by
    have := Nat.two_pow_add_eq_or_of_lt (i := 8) (b := b) (by omega) a
    rw [Nat.mul_comm a 256]; exact this.symm
  show IntKind.i64.wrap ((BitVec.ofInt 64 ((a : Int) * 256) ||| BitVec.ofInt 64 (b : Int)).toNat : Int) = _
  rw [show ((a : Int) * 256) = ((a * 256 : Nat) : Int) by omega, BitVec.toNat_or, ofInt_u64 (a * 256) (by omega), ofInt_u64 b (by omega), hn, i64_id _ (by omega) (by omega)]
  omega
set_option maxHeartbeats 400000 in
theorem pknumber_any (b o n c : Nat) (x y : Nat) (w : World) (hn : 2 ≤ n) (hx : x < 256) (hy : y < 256) (h0 : w.cell? ⟨b, o, none⟩ = some (.int .u8 (x : Int))) (h1 : w.cell? ⟨b, o + 1, none⟩ = some (.int .u8 (y : Int))) :
    Calls Tryz.prog 113 #[.slice (some ⟨b, o, none⟩) n c] w fun e w' => e = .returned (.int .i64 ((x : Int) * 256 + (y : Int))) ∧ ∃ nq, w' = w.drewN nq := by
  have hor := or_two x y hx hy
  have hi0 : (0 : Int) < (n : Int) := by omega
  have hi1 : (1 : Int) < (n : Int) := by omega
  have hw : IntKind.i64.wrap ((x : Int) * 256) = (x : Int) * 256 := i64_id _ (by omega) (by omega)
  go_enter Tryz.func113, Tryz.ntmps113
  go_wp2
  go_quiet (fail)
  go_wp2
  go_ret
  exact ⟨rfl, _, rfl⟩
theorem take_getD (l : List Int) (m j : Nat) (h : j < m) : (l.take m).getD j 0 = l.getD j 0 := by
  rw [List.getD_eq_getElem?_getD, List.getD_eq_getElem?_getD, List.getElem?_take, if_pos h]
set_option maxRecDepth 10000 in
set_option maxHeartbeats 2000000 in
theorem pkbytes_yes (b o k c : Nat) (l : List Int) (w : World) (hl : l.length = k + 8) (hk : k ≤ 70000) (hcap : k + 8 ≤ c)
    (hc : ∀ j, j < k + 8 → w.cell? ⟨b, o + j, none⟩ = some (.int .u8 (l.getD j 0))) (hf : Framed l) :
    Calls Tryz.prog 112 #[.slice (some ⟨b, o, none⟩) (k + 8) c] w fun e w' => e = .returned .nilIface ∧ Below w.heap.size w w' := by
  obtain ⟨_, f2, f3, f4⟩ := hf
  rw [hl] at f2 f4
  have e1 : k + 8 - 1 = k + 7 := by omega
  rw [e1] at f4
  have c0 := hc 0 (by omega)
  have c6 := hc 6 (by omega)
  have c7 := hc (k + 7) (by omega)
  rw [f3] at c0
  rw [f4] at c7
  rw [show l.getD 6 0 = (k : Int) by omega] at c6
  rw [Nat.add_zero] at c0
  clear f2 f3 f4
  have hd : decide ((k : Int) + 8 < 8) = false := by simp; omega
  have hne : ((k : Int) + 8 != 8 + (k : Int)) = false := by rw [Int.add_comm]; simp
  have hw1 : (k : Int) + 8 - 1 = (k : Int) + 7 := by omega
  have ht : ((k : Int) + 7).toNat = k + 7 := by omega
  have HC := hide hc
  have hsum : ∀ W : World, W.heap = w.heap → Calls Tryz.prog 94 #[.slice (some ⟨b, o, none⟩) (k + 7) c] W fun e w' => e = .returned (.int .u8 (xorL (l.take (k + 7)))) ∧ w' = W := fun W hW =>
    pksum_any b o (k + 7) c (l.take (k + 7)) W (by simp [hl]) (by omega) (fun j hj => by rw [take_getD l _ _ hj, World.cell?_of_block (w := w) (by rw [hW])]; exact unhide HC j (by omega))
  have HSUM := hide hsum
  clear hsum hc
  go_enter Tryz.func112, Tryz.ntmps112
  go_wp2
  go_quiet ((go_at_call 94; exact Calls.quiet_of_same (unhide HSUM _ rfl)))
  go_wp2
  go_ret
  exact ⟨rfl, Go.below_drewN (Below.refl _ _) _⟩
set_option maxRecDepth 10000 in
set_option maxHeartbeats 2000000 in
theorem pkbytes_no (b o n c : Nat) (l : List Int) (w : World) (hl : l.length = n) (hn : n ≤ 70000) (hcap : n ≤ c) (hr : ∀ j : Nat, 0 ≤ l.getD j 0 ∧ l.getD j 0 ≤ 255)
    (hc : ∀ j, j < n → w.cell? ⟨b, o + j, none⟩ = some (.int .u8 (l.getD j 0))) (hf : ¬ Framed l) :
    Calls Tryz.prog 112 #[.slice (some ⟨b, o, none⟩) n c] w fun e w' => (∃ s, e = .returned (.iface 205 (.agg #[.string s]))) ∧ Below w.heap.size w w' := by
  by_cases h8 : n < 8
  · have h8' : (n : Int) < 8 := by omega
    clear hr hc hf
    go_enter Tryz.func112, Tryz.ntmps112
    go_wp2
    go_ret
    exact ⟨⟨_, rfl⟩, Below.refl _ _⟩
  obtain ⟨k, rfl⟩ : ∃ k, n = k + 8 := ⟨n - 8, by omega⟩
  have hd : decide ((k : Int) + 8 < 8) = false := by simp; omega
  have c0 := hc 0 (by omega)
  have c6 := hc 6 (by omega)
  have c7 := hc (k + 7) (by omega)
  have r6 := hr 6
  have HC := hide hc
  have HF := hide hf
  have HL := hide hl
  clear hc hf hr h8 hl
  rw [Nat.add_zero] at c0
  obtain ⟨x0, hx0⟩ : ∃ x, x = l.getD 0 0 := ⟨_, rfl⟩
  obtain ⟨x6, hx6⟩ : ∃ x, x = l.getD 6 0 := ⟨_, rfl⟩
  obtain ⟨x7, hx7⟩ : ∃ x, x = l.getD (k + 7) 0 := ⟨_, rfl⟩
  rw [← hx0] at c0
  rw [← hx6] at c6 r6
  rw [← hx7] at c7
  have H0 := hide hx0
  have H6 := hide hx6
  have H7 := hide hx7
  clear hx0 hx6 hx7
  obtain ⟨r60, r61⟩ := r6
  by_cases h6 : x6 = (k : Int)
  · subst h6
    have hne : ((k : Int) + 8 != 8 + (k : Int)) = false := by rw [Int.add_comm]; simp
    by_cases h0 : x0 = 82
    · subst h0
      have hw1 : (k : Int) + 8 - 1 = (k : Int) + 7 := by omega
      have ht : ((k : Int) + 7).toNat = k + 7 := by omega
      have hsum : ∀ W : World, W.heap = w.heap → Calls Tryz.prog 94 #[.slice (some ⟨b, o, none⟩) (k + 7) c] W fun e w' => e = .returned (.int .u8 (xorL (l.take (k + 7)))) ∧ w' = W := fun W hW =>
        pksum_any b o (k + 7) c (l.take (k + 7)) W (by have := unhide HL; simp [this]) (by omega) (fun j hj => by rw [take_getD l _ _ hj, World.cell?_of_block (w := w) (by rw [hW])]; exact unhide HC j (by omega))
      have HSUM := hide hsum
      have hx : x7 ≠ xorL (l.take (k + 7)) := by
        intro e
        have hl := unhide HL
        refine unhide HF ⟨by omega, ?_, (unhide H0).symm, ?_⟩
        · rw [← unhide H6, hl]; omega
        · rw [hl, show k + 8 - 1 = k + 7 by omega, ← unhide H7, e]
      have hxb : (x7 != xorL (l.take (k + 7))) = true := by rw [bne_iff_ne]; exact hx
      clear hsum hx
      go_enter Tryz.func112, Tryz.ntmps112
      go_wp2
      go_quiet ((go_at_call 94; exact Calls.quiet_of_same (unhide HSUM _ rfl)))
      go_wp2
      go_ret
      exact ⟨⟨_, rfl⟩, Go.below_drewN (Below.refl _ _) _⟩
    · have h0b : (x0 != 82) = true := by rw [bne_iff_ne]; exact h0
      go_enter Tryz.func112, Tryz.ntmps112
      go_wp2
      go_ret
      exact ⟨⟨_, rfl⟩, Below.refl _ _⟩
  · have hne : ((k : Int) + 8 != 8 + x6) = true := by rw [bne_iff_ne]; omega
    go_enter Tryz.func112, Tryz.ntmps112
    go_wp2
    go_ret
    exact ⟨⟨_, rfl⟩, Below.refl _ _⟩
set_option maxRecDepth 100000 in
set_option maxHeartbeats 1000000 in
theorem clone_any (b o n c : Nat) (l : List Int) (w : World) (hl : l.length = n) (hn : n ≤ 100000) (hsrc : SrcAt w (some ⟨b, o, none⟩) l) :
    Calls Tryz.prog 114 #[.slice (some ⟨b, o, none⟩) n c] w fun e w' => ∃ g cap, e = .returned (.slice (some ⟨g, 0, none⟩) n cap) ∧ w.heap.size ≤ g ∧ g < w'.heap.size ∧ w'.ownsRow w.heap.size 5 1 (.slice (some ⟨g, 0, none⟩) n cap) n (l.map (Value.int .u8)) ∧ Below w.heap.size w w' := by
  obtain ⟨i8, hi8, hz8, hs8, hy8⟩ := info_parts Tryz.infoU8
  have HT := hide (And.intro hi8 (And.intro hz8 (And.intro hs8 hy8)))
  have HS := hide hsrc
  have HL := hide hl
  have hnn := not_nil
  clear hi8 hz8 hs8 hy8 hsrc hl
  go_enter Tryz.func114, Tryz.ntmps114
  go_wp2_with (at_builtin; refine wpList_append_src rfl _ _ 46 rfl w.heap.size 5 i8 (.int .u8 0) Tryz.underlying46 (unhide HT).1 (unhide HT).2.1 (unhide HT).2.2.1 (unhide HT).2.2.2 rfl _ 0 _ rfl (own_lit w _ 0 _ rfl (Nat.le_refl _) (by unfold maxLen; omega) rfl) _ n c l rfl (fun h => by cases h) (unhide HL) ((unhide HS).alloc _) (by omega) (by simp only [World.size_alloc]; omega) ?_; intro v4 w4 hown4 hgr4 hnil4)
  go_ret
  have hB : Below w.heap.size w w4 := ((Below.refl _ _).alloc (Nat.le_refl _) _).trans (below_grown hgr4 (by simp) (by simp))
  have hown : w4.ownsRow w.heap.size 5 1 v4 n (l.map (Value.int .u8)) := by simpa using hown4
  rcases hown.2 with ⟨h', _⟩ | ⟨g, cap, cur, h', hbg, hg, _⟩
  · have := (hnil4.1 h').1
    cases this
  · subst h'
    exact ⟨g, cap, rfl, hbg, (Array.getElem?_eq_some_iff.1 hg).1, hown, hB⟩
end Go.Proofs.YtandblanpafjoaaGreatDoor

namespace Go.Proofs.YtandblanpafjoaaGreatDoor
open Go.RowKit
def psA (a b c d0 d1 d2 d3 : Int) : Array Value := #[.int .i64 a, .int .i64 b, .int .i64 c, .int .i64 d0, .int .i64 d1, .int .i64 d2, .int .i64 d3]
theorem ps_int (w : World) (xs : Array Value) (i : Nat) (x : Int) (h : xs[i]? = some (.int .i64 x)) : (part 3 xs i).run Tryz.prog w = .ok (.int .i64 x) w := by
  have hagg := Tryz.isAgg3 w
  simp [part, hagg, h]
theorem ps_arr (w : World) (xs : Array Value) (i : Nat) : (part 96 xs i).run Tryz.prog w = .ok (.agg (xs.extract i (i + 4))) w := by
  have hagg := Tryz.isAgg96 w
  have hsz := Tryz.sizeOf96 w
  simp only [part, Sem.run_bind, hagg, Result.andThen_ok, if_true, hsz]
  rfl
theorem ps_arr_eq (w : World) (d0 d1 d2 d3 d0' d1' d2' d3' : Int) : (Op.equalIn 9999 96 (.agg #[.int .i64 d0, .int .i64 d1, .int .i64 d2, .int .i64 d3]) (.agg #[.int .i64 d0', .int .i64 d1', .int .i64 d2', .int .i64 d3'])).run Tryz.prog w = .ok (decide ([d0, d1, d2, d3] = [d0', d1', d2', d3'])) w := by
  have hi : (Tryz.prog.info? 3).map (·.size) = some 1 := by kernel_rfl
  cases hq : Tryz.prog.info? 3 with
  | none => simp [hq] at hi
  | some i =>
    have hc : Tryz.prog.cellsOf 3 = 1 := by simpa [Program.cellsOf, hq] using hi
    show (Op.equalIn (9998 + 1) 96 (.agg (nums .i64 [d0, d1, d2, d3])) (.agg (nums .i64 [d0', d1', d2', d3']))).run Tryz.prog w = _
    rw [run_equalIn_array w 9998 (nums .i64 [d0, d1, d2, d3]) (nums .i64 [d0', d1', d2', d3']) Tryz.underlying96 hq, hc, run_eqItems_nums w 9997 3 .i64 Tryz.underlying3 [d0, d1, d2, d3] [d0', d1', d2', d3'] (List.range 4) (fun i hi => by simp at hi; simp; omega), all_eq_iff _ _ 4 rfl rfl]
set_option maxRecDepth 10000 in
theorem psA_eq (w : World) (a b c d0 d1 d2 d3 a' b' c' d0' d1' d2' d3' : Int) : (Op.equalIn 10000 98 (.agg (psA a b c d0 d1 d2 d3)) (.agg (psA a' b' c' d0' d1' d2' d3'))).run Tryz.prog w = .ok (decide (a = a' ∧ b = b' ∧ c = c' ∧ [d0, d1, d2, d3] = [d0', d1', d2', d3'])) w := by
  rw [show (10000 : Nat) = 9999 + 1 from rfl, run_equalIn_struct w 9999 98 _ _ (by kernel_rfl) (by kernel_rfl)]
  simp only [Program.fieldsOf, Tryz.underlying98, Op.eqFields]
  have e1 : (psA a b c d0 d1 d2 d3).extract 3 7 = #[.int .i64 d0, .int .i64 d1, .int .i64 d2, .int .i64 d3] := by simp [psA]
  have e2 : (psA a' b' c' d0' d1' d2' d3').extract 3 7 = #[.int .i64 d0', .int .i64 d1', .int .i64 d2', .int .i64 d3'] := by simp [psA]
  have i0 := ps_int w (psA a b c d0 d1 d2 d3) 0 a rfl
  have i1 := ps_int w (psA a b c d0 d1 d2 d3) 1 b rfl
  have i2 := ps_int w (psA a b c d0 d1 d2 d3) 2 c rfl
  have i3 := ps_arr w (psA a b c d0 d1 d2 d3) 3
  have j0 := ps_int w (psA a' b' c' d0' d1' d2' d3') 0 a' rfl
  have j1 := ps_int w (psA a' b' c' d0' d1' d2' d3') 1 b' rfl
  have j2 := ps_int w (psA a' b' c' d0' d1' d2' d3') 2 c' rfl
  have j3 := ps_arr w (psA a' b' c' d0' d1' d2' d3') 3
  rw [e1] at i3
  rw [e2] at j3
  have q0 := run_equalIn_int w 9998 3 .i64 .i64 a a' Tryz.underlying3
  have q1 := run_equalIn_int w 9998 3 .i64 .i64 b b' Tryz.underlying3
  have q2 := run_equalIn_int w 9998 3 .i64 .i64 c c' Tryz.underlying3
  have q3 := ps_arr_eq w d0 d1 d2 d3 d0' d1' d2' d3'
  simp only [ne_eq, String.reduceEq, not_false_eq_true, if_true, Sem.run_bind, i0, j0, Result.andThen_ok, q0]
  by_cases h0 : a = a'
  · subst h0
    simp only [BEq.rfl, Bool.not_true, Bool.false_eq_true, if_false, Sem.run_bind, i1, j1, Result.andThen_ok, q1]
    by_cases h1 : b = b'
    · subst h1
      simp only [BEq.rfl, Bool.not_true, Bool.false_eq_true, if_false, Sem.run_bind, i2, j2, Result.andThen_ok, q2]
      by_cases h2 : c = c'
      · subst h2
        simp only [BEq.rfl, Bool.not_true, Bool.false_eq_true, if_false, Sem.run_bind, i3, j3, Result.andThen_ok, q3]
        by_cases h3 : [d0, d1, d2, d3] = [d0', d1', d2', d3']
        · simp [h3]
        · simp [h3]
      · simp [h2]
    · simp [h1]
  · simp [h0]
end Go.Proofs.YtandblanpafjoaaGreatDoor

namespace Go.Proofs.YtandblanpafjoaaGreatDoor
open Go.RowKit Go.Extern.Stop Go.Stop Go.Extern
theorem sizeInt : (Tryz.prog.info? 3).map (·.size) = some 1 := by kernel_rfl
def sdx : Nat → Int | 0 => 1 | 2 => 15 | _ => 0
def sdy : Nat → Int | 1 => 1 | 3 => 15 | _ => 0
set_option maxHeartbeats 400000 in
theorem steps_any (h : Nat) (w : World) (hh : h < 4) :
    Calls Tryz.prog 116 #[.int .i64 (h : Int)] w fun e w' => e = .returned (.tuple #[.int .i64 (sdx h), .int .i64 (sdy h)]) ∧ w' = w := by
  match h, hh with
  | 0, _ | 1, _ | 2, _ | 3, _ =>
    go_enter Tryz.func116, Tryz.ntmps116
    go_wp2
    go_ret2
    exact ⟨rfl, rfl⟩
set_option maxHeartbeats 1000000 in
theorem rstands_any (g n k x y : Nat) (m M : List Int) (w : World) (hn : n ≤ 4) (hM : M.length = 288) (hX : ∀ o, o < n → M.getD (256 + 8 * o) 0 = (gx m o : Int)) (hY : ∀ o, o < n → M.getD (256 + 8 * o + 1) 0 = (gy m o : Int)) (hblk : Blk w g (nums .i64 M) 3) :
    Calls Tryz.prog 117 #[.slice (some ⟨g, 0, none⟩) 288 288, .int .i64 (n : Int), .int .i64 (k : Int), .int .i64 (x : Int), .int .i64 (y : Int)] w fun e w' => e = .returned (.bool (blocked m n k x y)) ∧ w' = w := by
  have HX := hide hX
  have HY := hide hY
  have HB := hide hblk
  clear hX hY hblk
  go_enter Tryz.func117, Tryz.ntmps117
  go_wp2_with fail
  go_loop [11] (fun i => ∃ o : Nat, o ≤ n ∧ i = .int .i64 o ∧ ∀ j, j < o → j ≠ k → ¬ (gx m j = x ∧ gy m j = y)) (fun i => n - (intOf i).toNat)
  case atStart => exact ⟨0, by omega, rfl, fun j hj => absurd hj (by omega)⟩
  case round =>
    obtain ⟨o, ho, rfl, hall⟩ := hrel
    have HA := hide hall
    clear hall
    by_cases hlt : o < n
    · have hlt' : (o : Int) < (n : Int) := by omega
      have hcx : w.cell? ⟨g, 256 + 8 * o, none⟩ = some (.int .i64 (gx m o : Int)) := by rw [(unhide HB).num _ (by omega), unhide HX o hlt]
      have hcy : w.cell? ⟨g, 257 + 8 * o, none⟩ = some (.int .i64 (gy m o : Int)) := by rw [show 257 + 8 * o = 256 + 8 * o + 1 by omega, (unhide HB).num _ (by omega), unhide HY o hlt]
      have ht0 : (256 + 8 * (o : Int)).toNat = 256 + 8 * o := by omega
      have ht1 : (257 + 8 * (o : Int)).toNat = 257 + 8 * o := by omega
      by_cases hok : o = k
      · subst hok
        have HA2 : Hid (∀ j, j < o + 1 → j ≠ o → ¬ (gx m j = x ∧ gy m j = y)) := hide (fun j hj hne => unhide HA j (by omega) hne)
        go_wp2_with fail
        go_round
        case rel => exact ⟨o + 1, by omega, by go_num, unhide HA2⟩
        case measure => simp [intOf]; omega
      · have hne : ((o : Int) != (k : Int)) = true := by rw [bne_iff_ne]; omega
        by_cases hx : gx m o = x
        · have hxe : ((gx m o : Int) == (x : Int)) = true := by rw [hx]; simp
          by_cases hy : gy m o = y
          · have hye : ((gy m o : Int) == (y : Int)) = true := by rw [hy]; simp
            have HF : Hid (blocked m n k x y = true) := hide (blocked_yes o hlt hok ⟨hx, hy⟩)
            clear hx hy
            go_wp2_with fail
            go_ret
            exact ⟨by rw [unhide HF]; rfl, rfl⟩
          · have hye : ((gy m o : Int) == (y : Int)) = false := by rw [beq_eq_false_iff_ne]; omega
            have HA2 : Hid (∀ j, j < o + 1 → j ≠ k → ¬ (gx m j = x ∧ gy m j = y)) := hide (fun j hj hne => by
              by_cases hjo : j = o
              · rw [hjo]; exact fun hh => hy hh.2
              · exact unhide HA j (by omega) hne)
            clear hx hy
            go_wp2_with fail
            go_round
            case rel => exact ⟨o + 1, by omega, by go_num, unhide HA2⟩
            case measure => simp [intOf]; omega
        · have hxe : ((gx m o : Int) == (x : Int)) = false := by rw [beq_eq_false_iff_ne]; omega
          have HA2 : Hid (∀ j, j < o + 1 → j ≠ k → ¬ (gx m j = x ∧ gy m j = y)) := hide (fun j hj hne => by
            by_cases hjo : j = o
            · rw [hjo]; exact fun hh => hx hh.1
            · exact unhide HA j (by omega) hne)
          clear hx
          go_wp2_with fail
          go_round
          case rel => exact ⟨o + 1, by omega, by go_num, unhide HA2⟩
          case measure => simp [intOf]; omega
    · have HF : Hid (blocked m n k x y = false) := hide (blocked_no (fun j hj hne => unhide HA j (by omega) hne))
      go_wp2_with fail
      go_ret
      exact ⟨by rw [unhide HF]; rfl, rfl⟩
def begTo : Nat → List Int
  | 0 => Z288
  | k + 1 => ((begTo k).set (256 + 8 * k) (4 * (k : Int) + 2)).set (257 + 8 * k) 8
theorem begTo_len : ∀ k, (begTo k).length = 288
  | 0 => Z288_len
  | k + 1 => by simp only [begTo, List.length_set]; exact begTo_len k
theorem beg_start (n : Nat) (hn : n ≤ 4) : begTo n = startTo n := by
  match n, hn with
  | 0, _ | 1, _ | 2, _ | 3, _ | 4, _ => decide +kernel
theorem makeInts (w : World) : (Instr.makeSlice 24 (.int .i64 288) (.int .i64 288)).run Tryz.prog w = .ok (.slice (some ⟨w.heap.size, 0, none⟩) 288 288) (w.alloc (.cells (nums .i64 Z288) 3)) := by kernel_rfl
set_option maxRecDepth 10000 in
set_option maxHeartbeats 1000000 in
theorem begin_any (n : Nat) (w : World) (hn : n ≤ 4) :
    Calls Tryz.prog 68 #[.int .i64 (n : Int)] w fun e w' => e = .returned (.slice (some ⟨w.heap.size, 0, none⟩) 288 288) ∧ Blk w' w.heap.size (nums .i64 (startTo n)) 3 ∧ Below w.heap.size w w' := by
  have hmk := makeInts
  go_enter Tryz.func68, Tryz.ntmps68
  go_wp2_with fail
  clear hmk
  go_loopw [4] (fun i wr => ∃ k : Nat, k ≤ n ∧ i = .int .i64 k ∧ Below w.heap.size w wr ∧ Blk wr w.heap.size (nums .i64 (begTo k)) 3) (fun i _ => n - (intOf i).toNat)
  case atStart => exact ⟨0, by omega, rfl, (Below.refl _ _).alloc (Nat.le_refl _) _, Blk.new _ _ _⟩
  case round =>
    obtain ⟨k, hk, rfl, hb, hbm⟩ := hrel
    by_cases hlt : k < n
    · have hlt' : (k : Int) < (n : Int) := by omega
      have hlen := begTo_len k
      have ht0 : (256 + 8 * (k : Int)).toNat = 256 + 8 * k := by omega
      have ht1 : (257 + 8 * (k : Int)).toNat = 257 + 8 * k := by omega
      go_wp2_with (refine wpList_store_num rfl 3 _ _ rfl _ _ .i64 _ _ _ rfl rfl (by assumption) (by (try simp only [List.length_set]); omega) sizeInt ?_; intro w' hb1 hg1 hz1 hcl1)
      go_roundw
      case rel => exact ⟨k + 1, by omega, by go_num, (hb.trans (below_grown (by assumption) hb.size (Nat.le_refl _))).trans (below_grown hg1 (by have := hb.size; omega) (Nat.le_refl _)), hb1⟩
      case measure => simp [intOf]; omega
    · have hkn : k = n := by omega
      subst hkn
      go_wp2
      go_ret
      exact ⟨rfl, by rw [← beg_start k hn]; exact hbm, hb⟩
end Go.Proofs.YtandblanpafjoaaGreatDoor

