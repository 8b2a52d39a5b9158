import Derived.Test.YtandblanpafjoaaGreatDoorPack40
import Derived.Test.YtandblanpafjoaaGreatDoorPack30
import Derived.Test.YtandblanpafjoaaGreatDoorPack15
namespace Go.Proofs.YtandblanpafjoaaGreatDoor
open Go.RowKit Go.Extern.Stop Go.Stop Go.Extern
def Both (w : World) (g nb : Nat) (f : Nat → Prop) (m : NetM) : Prop := ∃ pv pb F ro, NetQ w g pv pb F m ∧ RNetAt w ro nb m ∧ (∀ k, F k → ro k = .none) ∧ ∀ k, f k ↔ (F k ∨ ro k ≠ .none)
theorem RNetAt.lt {w : World} {ro : Nat → RR} {nb : Nat} {m : NetM} (h : RNetAt w ro nb m) (k : Nat) (hk : ro k ≠ .none) : k < w.heap.size := by
  obtain ⟨L, h⟩ := h
  exact h.lt k hk
theorem RNetAt.same {w w' : World} {ro : Nat → RR} {nb : Nat} {m : NetM} (h : RNetAt w ro nb m) (hs : ∀ k, ro k ≠ .none → w'.heap[k]? = w.heap[k]?) (hw : w.heap.size ≤ w'.heap.size) : RNetAt w' ro nb m := by
  obtain ⟨L, h⟩ := h
  exact ⟨L, h.same hs hw⟩
theorem RNetAt.below {w w' : World} {ro : Nat → RR} {nb : Nat} {m : NetM} (h : RNetAt w ro nb m) (hb : Below w.heap.size w w') : RNetAt w' ro nb m := h.same (fun k hk => hb.block k (h.lt k hk)) hb.size
theorem Both.lt {w : World} {g nb : Nat} {f : Nat → Prop} {m : NetM} (h : Both w g nb f m) (k : Nat) (hk : f k) : k < w.heap.size := by
  obtain ⟨pv, pb, F, ro, h1, h2, h3, h4⟩ := h
  rcases (h4 k).1 hk with e | e
  · exact h1.lt k e
  · exact h2.lt k e
theorem Both.same {w w' : World} {g nb : Nat} {f : Nat → Prop} {m : NetM} (h : Both w g nb f m) (hs : Same f w w') (hz : w.heap.size ≤ w'.heap.size) : Both w' g nb f m := by
  obtain ⟨pv, pb, F, ro, h1, h2, h3, h4⟩ := h
  exact ⟨pv, pb, F, ro, h1.same (fun k hk => hs k ((h4 k).2 (.inl hk))), h2.same (fun k hk => hs k ((h4 k).2 (.inr hk))) hz, h3, h4⟩
theorem Both.below {w w' : World} {g nb : Nat} {f : Nat → Prop} {m : NetM} (h : Both w g nb f m) (hb : Below w.heap.size w w') : Both w' g nb f m := h.same (fun k hk => hb.block k (h.lt k hk)) hb.size
def BTo (w : World) (g nb : Nat) (f : Nat → Prop) (w' : World) (m' : NetM) : Prop := Chg f w w' ∧ ∃ f', Both w' g nb f' m' ∧ ∀ k, f' k → f k ∨ w.heap.size ≤ k
theorem BTo.ofBelow {w w' : World} {g nb : Nat} {f : Nat → Prop} {m : NetM} (h : Both w g nb f m) (hb : Below w.heap.size w w') : BTo w g nb f w' m := ⟨.ofBelow hb, f, h.below hb, fun _ hk => .inl hk⟩
theorem BTo.after {w w1 w2 : World} {g nb : Nat} {f : Nat → Prop} {m' : NetM} (hb : Below w.heap.size w w1) (h : BTo w1 g nb f w2 m') : BTo w g nb f w2 m' := by
  obtain ⟨hc, f', h1, h2⟩ := h
  exact ⟨(Chg.ofBelow hb).trans hc (fun _ _ h => h), f', h1, fun k hk => (h2 k hk).imp id (fun e => Nat.le_trans hb.size e)⟩
theorem BTo.then {w w1 w2 : World} {g nb : Nat} {f : Nat → Prop} {m' : NetM} (h : BTo w g nb f w1 m') (hb : Below w1.heap.size w1 w2) : BTo w g nb f w2 m' := by
  obtain ⟨hc, f', h1, h2⟩ := h
  exact ⟨hc.trans (.ofBelow (F := f) hb) (fun _ _ h => h), f', h1.below hb, h2⟩
/-- The one side has gone on, then the other. -/
theorem both_step {w w1 w2 : World} {g nb : Nat} {pv : Value} {pb : Nat → Nat} {f F F1 : Nat → Prop} {ro ro2 : Nat → RR} {m m' : NetM} (hR : RNetAt w ro nb m) (hd : ∀ k, F k → ro k = .none) (hf : ∀ k, f k ↔ (F k ∨ ro k ≠ .none))
    (hc1 : Chg F w w1) (hN1 : NetQ w1 g pv pb F1 m') (hF1 : ∀ k, F1 k → F k ∨ w.heap.size ≤ k) (hR2 : RNetAt w2 ro2 nb m') (hT : RTo w1 ro w2 ro2) : BTo w g nb f w2 m' := by
  have hro1 : ∀ k, F1 k → ro k = .none := fun k hk => by
    rcases hF1 k hk with e | e
    · exact hd k e
    · refine Classical.byContradiction fun e2 => ?_
      have := hR.lt k e2; omega
  have hro2 : ∀ k, F1 k → ro2 k = .none := fun k hk => by
    refine Classical.byContradiction fun e2 => ?_
    exact hT.old k (hN1.lt k hk) e2 (hro1 k hk)
  refine ⟨?_, fun k => F1 k ∨ ro2 k ≠ .none, ⟨pv, pb, F1, ro2, hN1.same (fun k hk => hT.chg.block k (hN1.lt k hk) (fun e => e (hro1 k hk))), hR2, hro2, fun k => Iff.rfl⟩, fun k hk => ?_⟩
  · exact (hc1.mono (fun k _ e => (hf k).2 (.inl e))).trans hT.chg (fun k _ e => (hf k).2 (.inr e))
  · rcases hk with e | e
    · exact (hF1 k e).imp (fun e => (hf k).2 (.inl e)) id
    · by_cases hk : k < w.heap.size
      · exact .inl ((hf k).2 (.inr (hT.old k (Nat.lt_of_lt_of_le hk hc1.size) e)))
      · exact .inr (by omega)
theorem RNetAt.chg {w w1 : World} {nb : Nat} {F : Nat → Prop} {ro : Nat → RR} {m : NetM} (hR : RNetAt w ro nb m) (hd : ∀ k, F k → ro k = .none) (hc1 : Chg F w w1) : RNetAt w1 ro nb m := hR.same (fun k hk => hc1.block k (hR.lt k hk) (fun e => hk (hd k e))) hc1.size
def Up (m m' : NetM) : Prop := ∀ n s t h, n ≤ 4 → Bd m n s t h → Bd m' n (s + 12) (t + 1) (h + 1)
theorem Up.refl (m : NetM) : Up m m := fun _ _ _ _ _ b => b.mono (by omega) (by omega) (by omega)
theorem Up.adv (m : NetM) (p : Nat) (v : Int) : Up m (m.advance p v).2 := fun _ _ _ _ hn b => (b.adv hn p v).mono (Nat.le_refl _) (by omega) (by omega)
theorem Up.take (m : NetM) (p : Nat) (l : List Int) : Up m (m.take p l).2 := fun _ _ _ _ _ b => (b.take p l).mono (by omega) (by omega) (Nat.le_refl _)
theorem Up.tick (m : NetM) : Up m m.tick := fun _ _ _ _ hn b => (b.tick hn).mono (Nat.le_refl _) (Nat.le_refl _) (by omega)
def LPost (w : World) (g nb : Nat) (f : Nat → Prop) (m : NetM) (e : Ending) (w' : World) : Prop := e = .returned (.bool true) ∧ ∃ m', Up m m' ∧ BTo w g nb f w' m'
theorem LPost.read {w w' : World} {g nb : Nat} {f : Nat → Prop} {m : NetM} (h : Both w g nb f m) (hb : Below w.heap.size w w') : LPost w g nb f m (.returned (.bool true)) w' := ⟨rfl, m, Up.refl m, BTo.ofBelow h hb⟩
def pairA (g nb : Nat) : Array Value := #[.pointer (some ⟨g, 0, none⟩), .pointer (some ⟨nb, 0, none⟩)]
theorem isP {m : NetM} {p : Int} (h : ¬ NoP m p) : ∃ q : Nat, p = (q : Int) ∧ q < m.players := by
  unfold NoP at h
  exact ⟨p.toNat, by omega, by omega⟩
theorem noP_is {m : NetM} {p : Int} (h : NoP m p) : decide (0 ≤ p ∧ p < (m.players : Int)) = false := by
  unfold NoP at h
  simp; omega
theorem isP_is {m : NetM} {q : Nat} (h : q < m.players) : decide (0 ≤ (q : Int) ∧ (q : Int) < (m.players : Int)) = true := by simp; omega
theorem adv_stays {m : NetM} {p : Nat} {v : Int} (h : (m.advance p v).1 ≠ 0) : (m.advance p v).2 = m := by
  unfold NetM.advance at h ⊢
  split
  · rfl
  · next h1 =>
    split
    · rfl
    · next h2 => rw [if_neg h1, if_neg h2] at h; exact absurd rfl h
end Go.Proofs.YtandblanpafjoaaGreatDoor

namespace Go.Proofs.YtandblanpafjoaaGreatDoor
open Go.RowKit Go.Extern.Stop Go.Stop Go.Extern
set_option maxRecDepth 10000 in
set_option maxHeartbeats 4000000 in
theorem ladv_any (g nb : Nat) (p c : Int) (f : Nat → Prop) (m : NetM) (w : World) (hgL : Laid w) (h : Both w g nb f m) (hs : m.sent + 4 ≤ 900000) (hnow : m.now ≤ 900000) (hfl : m.flights.length + 4 ≤ 1000000) :
    Calls Tryz.prog 14 #[.agg #[.pointer (some ⟨g, 0, none⟩), .pointer (some ⟨nb, 0, none⟩)], .int .i64 p, .int .i64 c] w fun e w' => LPost w g nb f m e w' := by
  obtain ⟨v, hv⟩ : ∃ v, IntKind.u8.wrap c = v := ⟨_, rfl⟩
  have hv2 : 0 ≤ v ∧ v ≤ 255 := by rw [← hv, IntKind.wrap_u8]; omega
  have hvw : IntKind.i64.wrap v = v := i64_id _ (by omega) (by omega)
  have bB : Below w.heap.size w (w.alloc (.cells #[.pointer (some ⟨g, 0, none⟩), .pointer (some ⟨nb, 0, none⟩)] 38)) := (Below.refl _ w).alloc (Nat.le_refl _) _
  have xB : Blk (w.alloc (.cells #[.pointer (some ⟨g, 0, none⟩), .pointer (some ⟨nb, 0, none⟩)] 38)) w.heap.size #[.pointer (some ⟨g, 0, none⟩), .pointer (some ⟨nb, 0, none⟩)] 38 := Blk.new _ _ _
  have hL1 := hgL.below hgL.lt bB
  have H0 := hide h
  obtain ⟨pv, pb, F, ro, hN, hR, hd, hf⟩ := h
  have hFl : ¬ F w.heap.size := fun e => by have := hN.lt _ e; omega
  have hok := hN.rok
  replace hN := hN.below bB
  replace hR := hR.below bB
  go_enter Tryz.func14, Tryz.ntmps14
  go_upto_region 1 with fail
  generalize w.alloc (.cells #[.pointer (some ⟨g, 0, none⟩), .pointer (some ⟨nb, 0, none⟩)] 38) = W at *
  have x0 : W.cell? ⟨w.heap.size, 0, none⟩ = some (.pointer (some ⟨g, 0, none⟩)) := xB.cell 0
  have HB := hide (And.intro bB xB)
  have hxl := xB.lt
  have HD := hide (And.intro hR (And.intro hd hf))
  have HNW := hide hN
  clear bB xB hR hd hf
  by_cases hp : NoP m p
  · have hcall := ppadv_bad g p v pv pb F m W hL1 hN hp
    have hno := noP_is hp
    have HNO := hide hno
    clear hp hN hno
    go_wp2_with fail
    refine hcall.mono ?_
    clear hcall
    rintro e w2 ⟨rfl, hb2⟩
    have hic := ris_any nb p ro m w2 ((unhide HD).1.below hb2)
    rw [unhide HNO] at hic
    have x1 : w2.cell? ⟨w.heap.size, 1, none⟩ = some (.pointer (some ⟨nb, 0, none⟩)) := (hb2.cell (p := ⟨w.heap.size, 1, none⟩) hxl).trans ((unhide HB).2.cell 1)
    have H2 := hide hb2
    clear x0 hb2
    go_wp2_with fail
    refine hic.mono ?_
    clear hic
    rintro e w3 ⟨rfl, rfl⟩
    go_wp2
    go_ret
    exact LPost.read (unhide H0) ((unhide HB).1.trans ((unhide H2).mono (unhide HB).1.size))
  · obtain ⟨q, rfl, hq⟩ := isP hp
    clear hp
    have his := isP_is hq
    by_cases h0 : (m.advance q v).1 = 0
    · have hcall := ppadv_yes g q v pv pb F m W hN hq hv2 hs hnow h0
      clear hN
      go_wp2_with fail
      refine hcall.mono ?_
      clear hcall
      rintro e w2 ⟨rfl, hC2, F2, hN2, hF2⟩
      have hR2 := (unhide HD).1.chg (unhide HD).2.1 hC2
      have hic := ris_any nb (q : Int) ro m w2 hR2
      rw [his] at hic
      have hac := radvance_any nb q v ro m w2 hR2 hq hv2 (hok.ok q hq) hok.lags hs hnow hfl
      rw [h0] at hac
      have xB2 := (unhide HB).2.chg hC2 hFl
      have x1 : w2.cell? ⟨w.heap.size, 1, none⟩ = some (.pointer (some ⟨nb, 0, none⟩)) := xB2.cell 1
      have H2 := hide (And.intro hC2 (And.intro hN2 hF2))
      clear x0 hC2 hN2 hF2 hR2 xB2 h0
      go_wp2_with fail
      refine hic.mono ?_
      clear hic
      rintro e w3 ⟨rfl, rfl⟩
      go_wp2_with fail
      refine hac.mono ?_
      clear hac
      rintro e w4 ⟨rfl, ro4, hR4, hT4⟩
      have H4 := hide (And.intro hR4 hT4)
      clear hR4 hT4 x1
      go_wp2
      go_ret
      obtain ⟨hC2, hN2, hF2⟩ := unhide H2
      exact ⟨rfl, _, Up.adv m q v, BTo.after (unhide HB).1 (both_step (unhide HD).1 (unhide HD).2.1 (unhide HD).2.2 hC2 hN2 hF2 (unhide H4).1 (unhide H4).2)⟩
    · obtain ⟨k, hk⟩ : ∃ k, (m.advance q v).1 = k := ⟨_, rfl⟩
      have hcall := ppadv_no g q v k pv pb F m W hL1 hN hq hk (by rw [← hk]; exact h0)
      have hst := adv_stays h0
      rw [hk] at h0
      have hk0 : ((k : Int) != 0) = true := by simp; omega
      clear hN
      go_wp2_with fail
      refine hcall.mono ?_
      clear hcall
      rintro e w2 ⟨rfl, hb2⟩
      have hR2 := (unhide HD).1.below hb2
      have hic := ris_any nb (q : Int) ro m w2 hR2
      rw [his] at hic
      have hac := radvance_any nb q v ro m w2 hR2 hq hv2 (hok.ok q hq) hok.lags hs hnow hfl
      rw [hk, hst] at hac
      have x1 : w2.cell? ⟨w.heap.size, 1, none⟩ = some (.pointer (some ⟨nb, 0, none⟩)) := (hb2.cell (p := ⟨w.heap.size, 1, none⟩) hxl).trans ((unhide HB).2.cell 1)
      have H2 := hide hb2
      clear x0 hb2 hR2 h0 hst hk
      go_wp2_with fail
      refine hic.mono ?_
      clear hic
      rintro e w3 ⟨rfl, rfl⟩
      go_wp2_with fail
      refine hac.mono ?_
      clear hac
      rintro e w4 ⟨rfl, ro4, hR4, hT4⟩
      have H4 := hide (And.intro hR4 hT4)
      clear hR4 hT4 x1
      go_wp2
      go_ret
      exact ⟨rfl, m, Up.refl m, BTo.after (unhide HB).1 (both_step (unhide HD).1 (unhide HD).2.1 (unhide HD).2.2 (.ofBelow (unhide H2)) ((unhide HNW).below (unhide H2)) (fun _ e => .inl e) (unhide H4).1 (unhide H4).2)⟩
end Go.Proofs.YtandblanpafjoaaGreatDoor

namespace Go.Proofs.YtandblanpafjoaaGreatDoor
open Go.RowKit Go.Extern.Stop Go.Stop Go.Extern
theorem stands_eqin (w : World) (x : PeerM) (n k : Nat) : (Op.equalIn 10000 98 (.agg (stands x n k)) (.agg (stands x n k))).run Tryz.prog w = .ok true w := by
  have e : stands x n k = psA (x.frame : Int) (confTo x n : Int) (x.dropped : Int) (knTo x k 0 : Int) (knTo x k 1 : Int) (knTo x k 2 : Int) (knTo x k 3 : Int) := rfl
  rw [e, psA_eq]
  simp
theorem zPs_eqin (w : World) : (Op.equalIn 10000 98 (.agg zPs) (.agg zPs)).run Tryz.prog w = .ok true w := by
  have e : zPs = psA 0 0 0 0 0 0 0 := rfl
  rw [e, psA_eq]
  simp
set_option maxRecDepth 10000 in
set_option maxHeartbeats 4000000 in
theorem lstood_any (g nb : Nat) (p : Int) (f : Nat → Prop) (m : NetM) (w : World) (hgL : Laid w) (h : Both w g nb f m) :
    Calls Tryz.prog 20 #[.agg #[.pointer (some ⟨g, 0, none⟩), .pointer (some ⟨nb, 0, none⟩)], .int .i64 p] w fun e w' => LPost w g nb f m e w' := by
  have bB : Below w.heap.size w (w.alloc (.cells #[.pointer (some ⟨g, 0, none⟩), .pointer (some ⟨nb, 0, none⟩)] 38)) := (Below.refl _ w).alloc (Nat.le_refl _) _
  have xB : Blk (w.alloc (.cells #[.pointer (some ⟨g, 0, none⟩), .pointer (some ⟨nb, 0, none⟩)] 38)) w.heap.size #[.pointer (some ⟨g, 0, none⟩), .pointer (some ⟨nb, 0, none⟩)] 38 := Blk.new _ _ _
  have hL1 := hgL.below hgL.lt bB
  have hz := Tryz.zeroPs
  have H0 := hide h
  obtain ⟨pv, pb, F, ro, hN, hR, hd, hf⟩ := h
  replace hN := hN.below bB
  replace hR := hR.below bB
  clear hd hf
  go_enter Tryz.func20, Tryz.ntmps20
  go_upto_region 1 with fail
  generalize w.alloc (.cells #[.pointer (some ⟨g, 0, none⟩), .pointer (some ⟨nb, 0, none⟩)] 38) = W at *
  have x0 : W.cell? ⟨w.heap.size, 0, none⟩ = some (.pointer (some ⟨g, 0, none⟩)) := xB.cell 0
  have HB := hide (And.intro bB xB)
  have hxl := xB.lt
  have HD := hide hR
  clear bB xB hR
  by_cases hp : NoP m p
  · have hcall := pppeer_bad g p pv pb F m W hL1 hN hp
    have hno := noP_is hp
    have HNO := hide hno
    have hsz : (Tryz.prog.info? 98).map (·.size) = some zPs.size := Tryz.sizePs
    have heq := zPs_eqin
    clear hp hN hno
    go_wp2_with fail
    refine hcall.mono ?_
    clear hcall
    rintro e w2 ⟨rfl, hb2⟩
    have x2 : Blk (w2.alloc (.cells zPs 98)) w2.heap.size zPs 98 := Blk.new _ _ _
    have x3 : Blk ((w2.alloc (.cells zPs 98)).setRow w2.heap.size zPs) w2.heap.size zPs 98 := x2.setRow _
    have b3 : Below w2.heap.size w2 ((w2.alloc (.cells zPs 98)).setRow w2.heap.size zPs) := below_setRow ((Below.refl _ w2).alloc (Nat.le_refl _) _) (Nat.le_refl _) _
    have hB3 := hb2.trans (b3.mono hb2.size)
    have hic := ris_any nb p ro m _ ((unhide HD).below hB3)
    rw [unhide HNO] at hic
    have x1 : ((w2.alloc (.cells zPs 98)).setRow w2.heap.size zPs).cell? ⟨w.heap.size, 1, none⟩ = some (.pointer (some ⟨nb, 0, none⟩)) := (hB3.cell (p := ⟨w.heap.size, 1, none⟩) hxl).trans ((unhide HB).2.cell 1)
    have H2 := hide hB3
    clear x0 hb2 hB3 b3
    go_wp2_with (refine wpList_store_blk rfl 98 _ _ rfl w2.heap.size 98 zPs zPs rfl rfl x2 hsz rfl (by kernel_rfl) ?_)
    refine hic.mono ?_
    clear hic
    rintro e w3 ⟨rfl, rfl⟩
    go_wp2_with (refine wpList_load_blk rfl 98 _ rfl w2.heap.size rfl 98 zPs _ x3 Tryz.underlying98 rfl hsz ?_)
    go_ret
    exact LPost.read (unhide H0) ((unhide HB).1.trans ((unhide H2).mono (unhide HB).1.size))
  · obtain ⟨q, rfl, hq⟩ := isP hp
    clear hp
    have his := isP_is hq
    have hcall := pppeer_any g q pv pb F m W hN hq
    have hsz : (Tryz.prog.info? 98).map (·.size) = some (stands (m.peers q) m.players m.players).size := Tryz.sizePs
    have heq := fun w => stands_eqin w (m.peers q) m.players m.players
    have hrc : ∀ W2, Below W.heap.size W W2 → Calls Tryz.prog 49 #[.pointer (some ⟨nb, 0, none⟩), .int .i64 (q : Int)] W2 fun e w' => e = .returned (.agg (stands (m.peers q) m.players m.players)) ∧ Below W2.heap.size W2 w' := fun W2 hb => rpeer_any nb q ro m W2 ((unhide HD).below hb) hq
    have HRC := hide hrc
    generalize hst : stands (m.peers q) m.players m.players = sv at *
    have hone : sv.all (·.oneCell') = true := by rw [← hst]; exact stands_one _ _ _
    have hss : zPs.size = sv.size := by rw [← hst]; rfl
    clear hN hrc hst
    go_wp2_with fail
    refine hcall.mono ?_
    clear hcall
    rintro e w2 ⟨rfl, hb2⟩
    have x2 : Blk (w2.alloc (.cells zPs 98)) w2.heap.size zPs 98 := Blk.new _ _ _
    have x3 : Blk ((w2.alloc (.cells zPs 98)).setRow w2.heap.size sv) w2.heap.size sv 98 := x2.setRow _
    have b3 : Below w2.heap.size w2 ((w2.alloc (.cells zPs 98)).setRow w2.heap.size sv) := below_setRow ((Below.refl _ w2).alloc (Nat.le_refl _) _) (Nat.le_refl _) _
    have hB3 := hb2.trans (b3.mono hb2.size)
    have hic := ris_any nb (q : Int) ro m _ ((unhide HD).below hB3)
    rw [his] at hic
    have hrc := unhide HRC _ hB3
    have x1 : ((w2.alloc (.cells zPs 98)).setRow w2.heap.size sv).cell? ⟨w.heap.size, 1, none⟩ = some (.pointer (some ⟨nb, 0, none⟩)) := (hB3.cell (p := ⟨w.heap.size, 1, none⟩) hxl).trans ((unhide HB).2.cell 1)
    have H2 := hide hB3
    clear x0 hb2 hB3 b3
    go_wp2_with (refine wpList_store_blk rfl 98 _ _ rfl w2.heap.size 98 zPs sv rfl rfl x2 hsz hss hone ?_)
    generalize (w2.alloc (.cells zPs 98)).setRow w2.heap.size sv = W3 at *
    clear x2
    refine hic.mono ?_
    clear hic
    rintro e w3 ⟨rfl, rfl⟩
    go_wp2_with fail
    refine hrc.mono ?_
    clear hrc
    rintro e w4 ⟨rfl, hb4⟩
    have y2 : Blk (w4.alloc (.cells zPs 98)) w4.heap.size zPs 98 := Blk.new _ _ _
    have y3 : Blk ((w4.alloc (.cells zPs 98)).setRow w4.heap.size sv) w4.heap.size sv 98 := y2.setRow _
    have b5 : Below w4.heap.size w4 ((w4.alloc (.cells zPs 98)).setRow w4.heap.size sv) := below_setRow ((Below.refl _ w4).alloc (Nat.le_refl _) _) (Nat.le_refl _) _
    have hB5 := hb4.trans (b5.mono hb4.size)
    have x5 : Blk ((w4.alloc (.cells zPs 98)).setRow w4.heap.size sv) w2.heap.size sv 98 := (hB5.block _ x3.lt).trans x3
    have H5 := hide hB5
    clear x1 hb4 b5 hB5 x3
    go_wp2_with (first | (refine wpList_store_blk rfl 98 _ _ rfl w4.heap.size 98 zPs sv rfl rfl y2 hsz hss hone ?_) | (refine wpList_load_blk rfl 98 _ rfl w2.heap.size rfl 98 sv _ x5 Tryz.underlying98 rfl hsz ?_) | (refine wpList_load_blk rfl 98 _ rfl w4.heap.size rfl 98 sv _ y3 Tryz.underlying98 rfl hsz ?_))
    go_ret
    have z1 := (unhide HB).1
    have z2 := z1.trans ((unhide H2).mono z1.size)
    exact LPost.read (unhide H0) (z2.trans ((unhide H5).mono z2.size))
end Go.Proofs.YtandblanpafjoaaGreatDoor

namespace Go.Proofs.YtandblanpafjoaaGreatDoor
open Go.RowKit Go.Extern.Stop Go.Stop Go.Extern
theorem NetQ.win {w : World} {g : Nat} {pv : Value} {pb : Nat → Nat} {F : Nat → Prop} {m : NetM} (h : NetQ w g pv pb F m) : m.window ≤ 8 := by
  obtain ⟨lv, wv, bl, l, Fp, hN, _⟩ := h
  have := hN.hp
  obtain ⟨FS, v, st, hP⟩ := hN.peers 0 (by omega)
  exact hP.hw.2
set_option maxRecDepth 10000 in
set_option maxHeartbeats 4000000 in
theorem lsum_any (g nb : Nat) (p c : Int) (f : Nat → Prop) (m : NetM) (w : World) (hgL : Laid w) (h : Both w g nb f m) :
    Calls Tryz.prog 21 #[.agg #[.pointer (some ⟨g, 0, none⟩), .pointer (some ⟨nb, 0, none⟩)], .int .i64 p, .int .i64 c] w fun e w' => LPost w g nb f m e w' := by
  have bB : Below w.heap.size w (w.alloc (.cells #[.pointer (some ⟨g, 0, none⟩), .pointer (some ⟨nb, 0, none⟩)] 38)) := (Below.refl _ w).alloc (Nat.le_refl _) _
  have xB : Blk (w.alloc (.cells #[.pointer (some ⟨g, 0, none⟩), .pointer (some ⟨nb, 0, none⟩)] 38)) w.heap.size #[.pointer (some ⟨g, 0, none⟩), .pointer (some ⟨nb, 0, none⟩)] 38 := Blk.new _ _ _
  have hL1 := hgL.below hgL.lt bB
  have H0 := hide h
  obtain ⟨pv, pb, F, ro, hN, hR, hd, hf⟩ := h
  have hok := hN.rok
  have hwin := hN.win
  replace hN := hN.below bB
  replace hR := hR.below bB
  clear hd hf
  go_enter Tryz.func21, Tryz.ntmps21
  go_upto_region 1 with fail
  generalize w.alloc (.cells #[.pointer (some ⟨g, 0, none⟩), .pointer (some ⟨nb, 0, none⟩)] 38) = W at *
  have x0 : W.cell? ⟨w.heap.size, 0, none⟩ = some (.pointer (some ⟨g, 0, none⟩)) := xB.cell 0
  have HB := hide (And.intro bB xB)
  have hxl := xB.lt
  have HD := hide hR
  clear bB xB hR
  by_cases hp : NoP m p
  · have hcall := ppsum_bad g p c pv pb F m W hL1 hN hp
    have hno := noP_is hp
    have HNO := hide hno
    clear hp hN hno
    go_wp2_with fail
    refine hcall.mono ?_
    clear hcall
    rintro e w2 ⟨rfl, hb2⟩
    have hic := ris_any nb p ro m w2 ((unhide HD).below hb2)
    rw [unhide HNO] at hic
    have x1 : w2.cell? ⟨w.heap.size, 1, none⟩ = some (.pointer (some ⟨nb, 0, none⟩)) := (hb2.cell (p := ⟨w.heap.size, 1, none⟩) hxl).trans ((unhide HB).2.cell 1)
    have H2 := hide hb2
    clear x0 hb2
    go_wp2_with fail
    refine hic.mono ?_
    clear hic
    rintro e w3 ⟨rfl, rfl⟩
    go_wp2
    go_ret
    exact LPost.read (unhide H0) ((unhide HB).1.trans ((unhide H2).mono (unhide HB).1.size))
  · obtain ⟨q, rfl, hq⟩ := isP hp
    clear hp
    have his := isP_is hq
    have hfr := (hok.ok q hq).frame
    by_cases hh : 0 ≤ c ∧ c ≤ ((m.peers q).frame : Int) ∧ ((m.peers q).frame : Int) - (m.window : Int) ≤ c
    · obtain ⟨k, rfl⟩ : ∃ k : Nat, c = (k : Int) := ⟨c.toNat, by omega⟩
      have hcall := ppsum_yes g q k pv pb F m W hN hq (by omega) (by omega)
      have hk200 : k ≤ 200 := by omega
      have hhd : decide (0 ≤ (k : Int) ∧ (k : Int) ≤ ((m.peers q).frame : Int) ∧ ((m.peers q).frame : Int) - (m.window : Int) ≤ (k : Int)) = true := decide_eq_true hh
      clear hN
      go_wp2_with fail
      refine hcall.mono ?_
      clear hcall
      rintro e w2 ⟨rfl, hb2⟩
      have hR2 := (unhide HD).below hb2
      have hic := ris_any nb (q : Int) ro m w2 hR2
      rw [his] at hic
      have hhc := rheld_any nb q (k : Int) ro m w2 hR2 hq hfr (by omega)
      rw [hhd] at hhc
      have x1 : w2.cell? ⟨w.heap.size, 1, none⟩ = some (.pointer (some ⟨nb, 0, none⟩)) := (hb2.cell (p := ⟨w.heap.size, 1, none⟩) hxl).trans ((unhide HB).2.cell 1)
      have hx2 : w.heap.size < w2.heap.size := by have := hb2.size; omega
      have H2 := hide (And.intro hb2 hR2)
      clear x0 hb2 hR2 hh hhd
      go_wp2_with fail
      refine hic.mono ?_
      clear hic
      rintro e w3 ⟨rfl, rfl⟩
      go_wp2_with fail
      refine hhc.mono ?_
      clear hhc
      rintro e w4 ⟨rfl, hb4⟩
      have hsc := rstate_any nb q k ro m w4 ((unhide H2).2.below hb4) hq (hok.ok q hq) (by omega)
      replace x1 : w4.cell? ⟨w.heap.size, 1, none⟩ = some (.pointer (some ⟨nb, 0, none⟩)) := (hb4.cell (p := ⟨w.heap.size, 1, none⟩) hx2).trans x1
      have H4 := hide hb4
      clear hb4
      go_wp2_with fail
      refine hsc.mono ?_
      clear hsc
      rintro e w5 ⟨g5, rfl, hg5, hB5, hb5⟩
      have hgood := stF_good hok.n4 (insM (m.peers q) m.players) k
      have hln := stF_len hok.n4 (insM (m.peers q) m.players) k
      have hdc := rdigest_any (stF m.players (insM (m.peers q) m.players) k) g5 288 w5 hln hgood.rng (by omega) hB5.lt (fun j hj => hB5.num j (by omega))
      have H5 := hide hb5
      clear hb5 hB5 x1
      go_wp2_with fail
      refine hdc.mono ?_
      clear hdc
      rintro e w6 ⟨rfl, hb6⟩
      generalize digL (stF m.players (insM (m.peers q) m.players) k) = dg at *
      go_wp2
      go_ret
      have z1 := (unhide HB).1
      have z2 := z1.trans ((unhide H2).1.mono z1.size)
      have z3 := z2.trans ((unhide H4).mono z2.size)
      have z4 := z3.trans ((unhide H5).mono z3.size)
      exact LPost.read (unhide H0) (z4.trans (hb6.mono z4.size))
    · have hcall := ppsum_no g q c pv pb F m W hL1 hN hq (by omega)
      have hhd : decide (0 ≤ c ∧ c ≤ ((m.peers q).frame : Int) ∧ ((m.peers q).frame : Int) - (m.window : Int) ≤ c) = false := decide_eq_false hh
      clear hN
      go_wp2_with fail
      refine hcall.mono ?_
      clear hcall
      rintro e w2 ⟨rfl, hb2⟩
      have hR2 := (unhide HD).below hb2
      have hic := ris_any nb (q : Int) ro m w2 hR2
      rw [his] at hic
      have hhc := rheld_any nb q c ro m w2 hR2 hq hfr (by omega)
      rw [hhd] at hhc
      have x1 : w2.cell? ⟨w.heap.size, 1, none⟩ = some (.pointer (some ⟨nb, 0, none⟩)) := (hb2.cell (p := ⟨w.heap.size, 1, none⟩) hxl).trans ((unhide HB).2.cell 1)
      have H2 := hide hb2
      clear x0 hb2 hR2 hh hhd
      go_wp2_with fail
      refine hic.mono ?_
      clear hic
      rintro e w3 ⟨rfl, rfl⟩
      go_wp2_with fail
      refine hhc.mono ?_
      clear hhc
      rintro e w4 ⟨rfl, hb4⟩
      go_wp2
      go_ret
      have z1 := (unhide HB).1
      have z2 := z1.trans ((unhide H2).mono z1.size)
      exact LPost.read (unhide H0) (z2.trans (hb4.mono z2.size))
end Go.Proofs.YtandblanpafjoaaGreatDoor

