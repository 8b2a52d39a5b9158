import Derived.Test.YtandblanpafjoabGreatDoorDelS
namespace Go.Proofs.YtandblanpafjoabGreatDoor
open Go.RowKit Go.Extern.Stop Go.Stop Go.Extern Go.Maps

def cellN (w : World) (b i : Nat) : Nat := match w.cell? ⟨b, i, none⟩ with
  | some (.int _ v) => v.toNat
  | _ => 0
theorem cellN_is {w : World} {b i : Nat} {k : IntKind} {v : Nat} (h : w.cell? ⟨b, i, none⟩ = some (.int k (v : Int))) : cellN w b i = v := by simp [cellN, h]
theorem PgMap.grown {w w' : World} {b n g : Nat} {M : Nat → Option (List Int)} (h : PgMap w b n M) (hg : w.grownBy w' (some g)) (hne : b ≠ g) : PgMap w' b n M := h.same (hg.block b h.lt (fun e => hne (by injection e)))

set_option maxRecDepth 10000 in
set_option maxHeartbeats 2000000 in
theorem dback_any (sb n win lo frame pb rb f : Nat) (mb : Nat → Nat) (F : Nat → Prop) (fs : Nat → List Int) (w : World) (h : DeltaAt w sb F n win lo frame fs pb rb mb) (hn : n ≤ 4) (hl : lo ≤ f) (hf : f ≤ frame) (hfr : frame ≤ 1000) (hwin : frame ≤ lo + win) :
    Calls Tryz.prog 179 #[.pointer (some ⟨sb, 0, none⟩), .int .i64 (f : Int)] w fun e w' => e = .returned (.tuple #[]) ∧ Chg F w w' ∧ DeltaAt w' sb F n win lo f fs pb rb mb := by
  have hlen := stF_len hn fs f
  have hlt := h.blk.lt
  have HB := hide h
  clear h
  go_enter Tryz.func179, Tryz.ntmps179
  go_wp2_with fail
  refine (dstate_any sb n win lo frame pb rb f mb F fs w (unhide HB) hn hl hf hfr).mono ?_
  rintro e w2 ⟨rfl, hb2⟩
  have g2 : DeltaAt w2 sb F n win lo frame fs pb rb mb := by
    have g := unhide HB
    refine ⟨g.blk.same (hb2.block _ hlt), g.pl.same (hb2.block _ g.pl.lt), by obtain ⟨t, ht⟩ := g.ring; exact ⟨t, (hb2.block _ ht.lt).trans ht⟩, fun i hi => by obtain ⟨M, hM⟩ := g.maps i hi; exact ⟨M, hM.same (hb2.block _ hM.lt)⟩, fun j h1 h2 => (g.past j h1 h2).same (hb2.block _ (g.past j h1 h2).lt), g.next.same (hb2.block _ g.next.lt), g.inj, g.far, g.ne1, g.ne2, g.ne3, g.f1, g.f2, g.f3⟩
  have h5 : StBlk (w2.setCells sb 2 (nums .u8 (stF n fs f)).toList) sb 250 n frame (stF n fs f) pb win rb (win + 1) := g2.blk.putNow (stF n fs f) hlen
  have hG := grown_setCells sb (nums .u8 (stF n fs f)).toList 2 w2
  have c5 : Chg F w (w2.setCells sb 2 (nums .u8 (stF n fs f)).toList) := (Chg.ofBelow hb2).thenCells sb _ _ (unhide HB).f1
  have HTH := hide g2.blk.there
  have p5 : RingAt (w2.setCells sb 2 (nums .u8 (stF n fs f)).toList) pb 187 win 4 lo frame (fun f => insV n (fs f)) := g2.pl.same (hG.block _ g2.pl.lt (fun e => g2.ne1 (by injection e with e; exact e.symm)))
  have r5 : ∃ t, Blk (w2.setCells sb 2 (nums .u8 (stF n fs f)).toList) rb ((List.range (win + 1)).map fun i => Value.map (some (mb i))).toArray t := by
    obtain ⟨t, ht⟩ := g2.ring; exact ⟨t, ht.grown hG (Ne.symm g2.ne2)⟩
  have m5 : ∀ i, i < win + 1 → ∃ M, PgMap (w2.setCells sb 2 (nums .u8 (stF n fs f)).toList) (mb i) 18 M := fun i hi => by obtain ⟨M, hM⟩ := g2.maps i hi; exact ⟨M, hM.grown hG (g2.far i hi).1⟩
  have q5 : ∀ j, lo ≤ j → j < frame → PgMap (w2.setCells sb 2 (nums .u8 (stF n fs f)).toList) (mb (j % (win + 1))) 18 (diffL (stF n fs j) (stF n fs (j + 1))) := fun j h1 h2 => (g2.past j h1 h2).grown hG (g2.far _ (Nat.mod_lt j (by omega))).1
  have n5 : PgMap (w2.setCells sb 2 (nums .u8 (stF n fs f)).toList) (mb (frame % (win + 1))) 0 (fun _ => none) := g2.next.grown hG (g2.far _ (Nat.mod_lt frame (by omega))).1
  clear g2 hb2 hG
  go_wp2_with (first | (refine wpList_store_mid rfl 106 _ _ rfl sb 2 (nums .u8 (stF n fs f)) rfl rfl (by rw [nums_size, hlen]; exact unhide HTH) (Tryz.sizeMem _ hlen) (nums_one _ _) ?_))
  go_frame
  clear HTH
  generalize w2.setCells sb 2 (nums .u8 (stF n fs f)).toList = V at *
  go_loopw [15] (fun _ wr => ∃ k : Nat, f ≤ k ∧ k ≤ frame ∧ StBlk wr sb 250 n k (stF n fs f) pb win rb (win + 1) ∧ Chg F w wr ∧ RingAt wr pb 187 win 4 lo frame (fun f => insV n (fs f)) ∧ (∃ t, Blk wr rb ((List.range (win + 1)).map fun i => Value.map (some (mb i))).toArray t) ∧ (∀ i, i < win + 1 → ∃ M, PgMap wr (mb i) 18 M) ∧ (∀ j, lo ≤ j → j < k → PgMap wr (mb (j % (win + 1))) 18 (diffL (stF n fs j) (stF n fs (j + 1)))) ∧ PgMap wr (mb (k % (win + 1))) 0 (fun _ => none)) (fun _ wr => cellN wr sb 1)
  case atStart => exact ⟨frame, hf, Nat.le_refl _, h5, c5, p5, r5, m5, q5, n5⟩
  case round =>
    clear h5 c5 p5 r5 m5 q5 n5
    obtain ⟨k, hk1, hk2, h5, c5, p5, r5, m5, q5, n5⟩ := hrel
    have k1 := h5.c1
    have f1 := h5.frozen 1
    have k291 := h5.c291
    by_cases hgt : f < k
    · obtain ⟨q, rfl⟩ : ∃ q, k = q + 1 := ⟨k - 1, by omega⟩
      have hq : (((q + 1 : Nat) : Int)) = (q : Int) + 1 := by omega
      rw [hq] at k1
      have hgI : decide ((f : Int) < (q : Int) + 1) = true := by simp; omega
      have hw1 : IntKind.i64.wrap ((q : Int) + 1 - 1) = (q : Int) := by rw [show (q : Int) + 1 - 1 = (q : Int) by omega]; exact i64_id _ (by omega) (by omega)
      go_wp2_with fail
      have hW : 0 < win + 1 := by omega
      have hG := grown_set wr sb 1 (.int .i64 (q : Int))
      have h6 : StBlk (wr.setCell ⟨sb, 1, none⟩ (.int .i64 (q : Int))) sb 250 n q (stF n fs f) pb win rb (win + 1) := h5.putFrame q
      have c6 : Chg F w (wr.setCell ⟨sb, 1, none⟩ (.int .i64 (q : Int))) := c5.thenCell sb 1 _ (unhide HB).f1
      have p6 := p5.same (w' := wr.setCell ⟨sb, 1, none⟩ (.int .i64 (q : Int))) (hG.block _ p5.lt (fun e => (unhide HB).ne1 (by injection e with e; exact e.symm)))
      obtain ⟨tr, hr5⟩ := r5
      have r6 := hr5.grown hG (Ne.symm (unhide HB).ne2)
      have m6 : ∀ i, i < win + 1 → ∃ M, PgMap (wr.setCell ⟨sb, 1, none⟩ (.int .i64 (q : Int))) (mb i) 18 M := fun i hi => by obtain ⟨M, hM⟩ := m5 i hi; exact ⟨M, hM.grown hG ((unhide HB).far i hi).1⟩
      have q6 : ∀ j, lo ≤ j → j < q + 1 → PgMap (wr.setCell ⟨sb, 1, none⟩ (.int .i64 (q : Int))) (mb (j % (win + 1))) 18 (diffL (stF n fs j) (stF n fs (j + 1))) := fun j h1 h2 => (q5 j h1 h2).grown hG ((unhide HB).far _ (Nat.mod_lt j hW)).1
      have HM := hide (cellN_is (w := wr) (v := q + 1) (by rw [hq]; exact k1))
      clear h5 c5 p5 hr5 m5 q5 n5 k1 f1 k291 hG
      generalize wr.setCell ⟨sb, 1, none⟩ (.int .i64 (q : Int)) = V2 at *
      have k1 := h6.c1
      have k291 := h6.c291
      refine wp_moves_reads_tail0 9 (by kernel_rfl) (by kernel_rfl) (by kernel_rfl) (by kernel_rfl) ?_
      simp only [List.take_succ_cons, List.take_zero, List.drop_succ_cons, List.drop_zero]
      repeat still_step
      refine wpStill_nil ?_
      have hsl : V2.drew.cell? ⟨rb, q % (win + 1), none⟩ = some (.map (some (mb (q % (win + 1))))) := by
        rw [show V2.drew.cell? ⟨rb, q % (win + 1), none⟩ = V2.cell? ⟨rb, q % (win + 1), none⟩ from rfl, r6.cell]
        simp [Nat.mod_lt q hW]
      have H6 := hide (And.intro h6 (And.intro c6 (And.intro p6 (And.intro r6 (And.intro m6 q6)))))
      clear h6 c6 p6 r6 m6 q6
      go_wp2_with fail
      refine (rat_pg rb (win + 1) q (mb (q % (win + 1))) V2.drew hW hsl).mono ?_
      rintro e w7 ⟨rfl, hb7⟩
      obtain ⟨h6, c6, p6, r6, m6, q6⟩ := unhide H6
      have hB7 : Below V2.heap.size V2 w7 := ⟨hb7.os, hb7.tape, hb7.output, hb7.size, hb7.block⟩
      obtain ⟨M0, D0, ho0, hD0⟩ := m6 (q % (win + 1)) (Nat.mod_lt q hW)
      have hml : mb (q % (win + 1)) < V2.heap.size := by obtain ⟨es, c, hbb, _⟩ := ho0; exact (Array.getElem?_eq_some_iff.1 hbb).1
      have ho7 : w7.ownsMap Tryz.prog 3 pgElem (mb (q % (win + 1))) 18 D0 := by
        obtain ⟨es, c, hbb, hr⟩ := ho0
        exact ⟨es, c, (hB7.block _ hml).trans hbb, hr⟩
      clear h6 c6 p6 r6 m6 q6 ho0 hD0
      go_wp2_with (first | (refine wpList_clear_own rfl _ 248 3 104 rfl Tryz.underlying248 pgElem (mb (q % (win + 1))) 18 D0 rfl ho7 ?_; intro w8 ho8 hg8 hs8))
      try go_frame
      go_roundw
      case rel =>
        obtain ⟨h6, c6, p6, r6, m6, q6⟩ := unhide H6
        have hfar := (unhide HB).far (q % (win + 1)) (Nat.mod_lt q hW)
        have hk : ∀ b, b < V2.heap.size → b ≠ mb (q % (win + 1)) → w8.heap[b]? = V2.heap[b]? := fun b hb hne => (hg8.block b (by have := hB7.size; omega) (fun e => hne (by injection e))).trans (hB7.block b hb)
        have hz : V2.heap.size ≤ w8.heap.size := by rw [hs8]; exact hB7.size
        have n8 : PgMap w8 (mb (q % (win + 1))) 0 (fun _ => none) := ⟨_, ho8, PgD.empty⟩
        refine ⟨q, by omega, by omega, h6.same (hk _ h6.lt (Ne.symm hfar.1)), ?_, p6.same (hk _ p6.lt (Ne.symm hfar.2.1)), ⟨tr, (hk _ r6.lt (Ne.symm hfar.2.2.1)).trans r6⟩, ?_, ?_, n8⟩
        · exact ⟨(hg8.os.trans hB7.os).trans c6.os, (hg8.tape.trans hB7.tape).trans c6.tape, (hg8.output.trans hB7.output).trans c6.output, Nat.le_trans c6.size hz, fun b hb hF => (hk b (by have := c6.size; omega) (fun e => hF (by rw [e]; exact hfar.2.2.2))).trans (c6.block b hb hF)⟩
        · intro i hi
          by_cases e : i = q % (win + 1)
          · subst e; exact ⟨_, n8.mono (by omega)⟩
          · obtain ⟨M, hM⟩ := m6 i hi
            exact ⟨M, hM.same (hk _ hM.lt (fun e' => e ((unhide HB).inj i _ hi (Nat.mod_lt q hW) e')))⟩
        · intro j h1 h2
          have hM := q6 j h1 (by omega)
          refine hM.same (hk _ hM.lt (fun e' => ?_))
          exact mod_apart (f := j) (g := q) (W := win + 1) h2 (by omega) ((unhide HB).inj _ _ (Nat.mod_lt j hW) (Nat.mod_lt q hW) e')
      case measure =>
        obtain ⟨h6, _⟩ := unhide H6
        have hfar := (unhide HB).far (q % (win + 1)) (Nat.mod_lt q hW)
        have h8 : StBlk w8 sb 250 n q (stF n fs f) pb win rb (win + 1) := h6.same ((hg8.block sb (by have := hB7.size; have := h6.lt; omega) (fun e => hfar.1 (by injection e with e; exact e.symm))).trans (hB7.block sb h6.lt))
        have e8 := cellN_is h8.c1
        rw [e8, unhide HM]; omega
    · have hkf : k = f := by omega
      subst hkf
      have hgI : decide ((k : Int) < (k : Int)) = false := by simp
      have H6 := hide (And.intro h5 (And.intro c5 (And.intro p5 (And.intro r5 (And.intro m5 (And.intro q5 n5))))))
      clear h5 c5 p5 r5 m5 q5 n5
      go_wp2
      go_end0
      obtain ⟨h5, c5, p5, r5, m5, q5, n5⟩ := unhide H6
      have g := unhide HB
      exact ⟨rfl, c5, h5, p5.less (Nat.le_refl _) hf, r5, m5, q5, n5, g.inj, g.far, g.ne1, g.ne2, g.ne3, g.f1, g.f2, g.f3⟩
end Go.Proofs.YtandblanpafjoabGreatDoor
