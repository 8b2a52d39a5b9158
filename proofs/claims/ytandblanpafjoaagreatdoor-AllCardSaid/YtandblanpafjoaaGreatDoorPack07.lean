import Derived.Test.YtandblanpafjoaaGreatDoorPack06
import Derived.Deep.RegionHeld3
namespace Go.Proofs.YtandblanpafjoaaGreatDoor
open Go.RowKit Go.Extern.Stop Go.Stop Go.Extern
theorem putA_get : ∀ (vs : List Value) (o : Nat) (cs : Array Value) (k : Nat), o + vs.length ≤ cs.size → (putA cs o vs)[k]? = if o ≤ k ∧ k < o + vs.length then vs[k - o]? else cs[k]?
  | [], o, cs, k, _ => by
    rw [if_neg (by simp only [List.length_nil]; omega)]
    rfl
  | v :: vs, o, cs, k, h => by
    have hs : o + (vs.length + 1) ≤ cs.size := by simpa using h
    have e : putA cs o (v :: vs) = putA (cs.setIfInBounds o v) (o + 1) vs := rfl
    rw [e, putA_get vs (o + 1) _ k (by simp; omega)]
    by_cases h1 : o + 1 ≤ k ∧ k < o + 1 + vs.length
    · rw [if_pos h1, if_pos (by simp; omega), show k - o = (k - (o + 1)) + 1 by omega, List.getElem?_cons_succ]
    · rw [if_neg h1]
      by_cases h2 : k = o
      · subst h2
        rw [if_pos (by simp), Nat.sub_self, List.getElem?_cons_zero]
        simp [show k < cs.size by omega]
      · rw [if_neg (by simp; omega), Array.getElem?_setIfInBounds_ne (by omega)]
theorem pcls_set (bl : Nat → Nat) : ∀ (l : List FlyM) (i : Nat) (f : FlyM) (k : Nat), i < l.length → (pcls bl (l.set i f))[k]? = if i * 4 ≤ k ∧ k < i * 4 + 4 then (pcl bl f)[k - i * 4]? else (pcls bl l)[k]?
  | a :: l, 0, f, k, _ => by
    simp only [List.set_cons_zero, pcls, List.flatMap_cons, Nat.zero_mul, Nat.zero_le, true_and, Nat.zero_add, Nat.sub_zero]
    split
    · rename_i h
      rw [List.getElem?_append_left (by rw [pcl_len]; exact h)]
    · rename_i h
      rw [List.getElem?_append_right (by rw [pcl_len]; omega), List.getElem?_append_right (by rw [pcl_len]; omega), pcl_len, pcl_len]
  | a :: l, i + 1, f, k, h => by
    simp only [List.set_cons_succ, pcls, List.flatMap_cons]
    by_cases hk : k < 4
    · rw [List.getElem?_append_left (by rw [pcl_len]; exact hk), List.getElem?_append_left (by rw [pcl_len]; exact hk), if_neg (by omega)]
    · rw [List.getElem?_append_right (by rw [pcl_len]; omega), List.getElem?_append_right (by rw [pcl_len]; omega), pcl_len]
      have := pcls_set bl l i f (k - 4) (by simpa using h)
      simp only [pcls] at this
      rw [this]
      by_cases h2 : i * 4 ≤ k - 4 ∧ k - 4 < i * 4 + 4
      · rw [if_pos h2, if_pos (by omega), show k - 4 - i * 4 = k - (i + 1) * 4 by omega]
      · rw [if_neg h2, if_neg (by omega)]
theorem QAt.put {w : World} {g cap : Nat} {bl : Nat → Nat} {l : List FlyM} (h : QAt w g cap bl l) {i : Nat} (hi : i < l.length) (f : FlyM) : QAt (w.setCells g (i * 4) (pcl bl f)) g cap bl (l.set i f) := by
  obtain ⟨cs, hb, hs, ht⟩ := h.blk
  have hcap := h.cap
  refine ⟨⟨_, hb.setCells _ _, by rw [putA_toList]; exact hs, ?_⟩, h.big, by simpa using hcap⟩
  apply List.ext_getElem?
  intro k
  rw [List.getElem?_take, pcls_set bl l i f k hi, List.length_set]
  have hg := putA_get (pcl bl f) (i * 4) cs k (by rw [pcl_len]; omega)
  rw [pcl_len] at hg
  have ht' := congrArg (fun x => x[k]?) ht
  simp only [List.getElem?_take] at ht'
  by_cases hk : k < l.length * 4
  · rw [if_pos hk] at ht' ⊢
    rw [Array.getElem?_toList] at ht'
    rw [← ht', Array.getElem?_toList, hg]
  · rw [if_neg hk] at ht' ⊢
    rw [if_neg (by omega), ← ht']
theorem QAt.there {w : World} {g cap : Nat} {bl : Nat → Nat} {l : List FlyM} (h : QAt w g cap bl l) {i : Nat} (hi : i < cap) : w.there g (i * 4) 4 := by
  obtain ⟨cs, hb, hs, _⟩ := h.blk
  exact hb.there (by omega)
theorem QAt.range {w : World} {g cap : Nat} {bl : Nat → Nat} {l : List FlyM} (h : QAt w g cap bl l) {i : Nat} (hi : i < l.length) : w.rangeAt g (i * 4) (pcl bl (fl l i)) := fun j v hv => by
  have hj : j < 4 := by have := (List.getElem?_eq_some_iff.1 hv).1; rwa [pcl_len] at this
  rw [h.cell i j hi hj]; exact hv
theorem QAt.same {w w' : World} {g cap : Nat} {bl : Nat → Nat} {l : List FlyM} (h : QAt w g cap bl l) (hs : w'.heap[g]? = w.heap[g]?) : QAt w' g cap bl l := by
  obtain ⟨cs, hb, h2, h3⟩ := h.blk
  exact ⟨⟨cs, hs.trans hb, h2, h3⟩, h.big, h.cap⟩
theorem QAt.lt {w : World} {g cap : Nat} {bl : Nat → Nat} {l : List FlyM} (h : QAt w g cap bl l) : g < w.heap.size := by
  obtain ⟨cs, hb, _⟩ := h.blk; exact hb.lt
theorem pcl_one (bl : Nat → Nat) (f : FlyM) : (pcl bl f).toArray.all (·.oneCell') = true := by simp [pcl, Value.oneCell']
theorem Tryz.sizePcl : (Tryz.prog.info? 126).map (·.size) = some 4 := by kernel_rfl
set_option maxRecDepth 10000 in
set_option maxHeartbeats 800000 in
theorem qswap_any (g cap i j : Nat) (bl : Nat → Nat) (l : List FlyM) (w : World) (h : QAt w g cap bl l) (hi : i < l.length) (hj : j < l.length) :
    Calls Tryz.prog 180 #[.slice (some ⟨g, 0, none⟩) l.length cap, .int .i64 (i : Int), .int .i64 (j : Int)] w fun e w' => e = .returned (.tuple #[]) ∧ QAt w' g cap bl (swapL l i j) ∧ Chg (fun k => k = g) w w' := by
  have hcap := h.cap
  have i0 : (0 : Int) ≤ (i : Int) := by omega
  have i1 : (i : Int) < (l.length : Int) := by omega
  have j0 : (0 : Int) ≤ (j : Int) := by omega
  have j1 : (j : Int) < (l.length : Int) := by omega
  have HQ := hide h
  clear h
  go_enter Tryz.func180, Tryz.ntmps180
  go_wp2_with fail
  refine wp_region_noPanic ?_
  refine wp_held_reads 7 (fun _ => True) (by kernel_rfl) (by simp) (by kernel_rfl) (by kernel_rfl) (fun _ _ _ _ _ h => h) trivial ?_
  simp only [List.take_succ_cons, List.take_zero]
  refine wpHeld_op ?y0 rfl ?z0 ?_
  case z0 => intro w' _; go_simp; rfl
  refine wpHeld_op ?y1 rfl ?z1 ?_
  case z1 => intro w' _; go_simp; rfl
  refine wpHeld_op ?y2 rfl ?z2 ?_
  case z2 => intro w' _; go_simp; rfl
  refine wpHeld_op ?y3 rfl ?z3 ?_
  case z3 => intro w' _; go_simp; rfl
  refine wpHeld_op ?y4 rfl ?z4 ?_
  case z4 => intro w' _; go_simp; rfl
  refine wpHeld_op ?y5 rfl ?z5 ?_
  case z5 => intro w' _; go_simp; rfl
  refine wpHeld_op ?y6 rfl ?z6 ?_
  case z6 => intro w' _; go_simp; rfl
  unfold wpHeld
  refine wpAnyH_take (i := 8) (v := .slice (some ⟨g, 0, none⟩) l.length cap) rfl (by kernel_rfl) (by kernel_rfl) (by kernel_rfl) (fun _ _ _ h => h) (Or.inl ⟨by rfl, ?g8⟩) trivial ?_
  case g8 => intro w' _; go_simp
  refine wpAnyH_take (i := 9) (v := .int .i64 (i : Int)) rfl (by kernel_rfl) (by kernel_rfl) (by kernel_rfl) (fun _ _ _ h => h) (Or.inl ⟨by rfl, ?g9⟩) trivial ?_
  case g9 => intro w' _; go_simp
  refine wpAnyH_take (i := 10) (v := .pointer (some ⟨g, i * 4, none⟩)) rfl (by kernel_rfl) (by kernel_rfl) (by kernel_rfl) (fun _ _ _ h => h) (Or.inl ⟨by rfl, ?g10⟩) trivial ?_
  case g10 => intro w' _; go_simp
  have ri := (unhide HQ).range hi
  have rj := (unhide HQ).range hj
  have qd : QAt w.drew g cap bl l := (unhide HQ).same rfl
  have q1 := qd.put hi (fl l j)
  have t1 := q1.there (i := j) (by omega)
  have t0 := (unhide HQ).there (i := i) (by omega)
  have q2 : QAt ((w.drew.setCells g (i * 4) (pcl bl (fl l j))).setCells g (j * 4) (pcl bl (fl l i))) g cap bl (swapL l i j) := q1.put (by simpa using hj) (fl l i)
  have c2 : Chg (fun k => k = g) w ((w.drew.setCells g (i * 4) (pcl bl (fl l j))).setCells g (j * 4) (pcl bl (fl l i))) := ((Chg.drew (fun k => k = g) w).thenCells g (i * 4) _ rfl).thenCells g (j * 4) _ rfl
  refine wpAnyH_all (rs := [7, 11]) (by kernel_rfl) (by simp) ?_
  intro k hk
  have hk2 : k = 7 ∨ k = 11 := by simpa using hk
  clear hk
  rcases hk2 with rfl | rfl
  · skip
    refine wpOp_of_list _ rfl rfl ?_
    go_simp
    refine wpList_load_mid rfl 126 _ rfl g (j * 4) rfl (pcl bl (fl l j)) _ ((World.rangeAt_drew _ _ _ _).2 rj) Tryz.underlying126 rfl Tryz.sizePcl ?_
    go_wp2_with fail
    refine wpAnyH_all (rs := [11]) (by kernel_rfl) (by simp) ?_
    intro k hk
    obtain rfl : k = 11 := by simpa using hk
    refine wpOp_of_list _ rfl rfl ?_
    go_simp
    refine wpList_load_mid rfl 126 _ rfl g (i * 4) rfl (pcl bl (fl l i)) _ ((World.rangeAt_drew _ _ _ _).2 ri) Tryz.underlying126 rfl Tryz.sizePcl ?_
    go_wp2_with fail
    refine wpAnyH_take (i := 12) (v := .pointer (some ⟨g, i * 4, none⟩)) rfl (by kernel_rfl) (by kernel_rfl) (by kernel_rfl) (fun _ _ _ h => h) (Or.inl ⟨by rfl, ?g127⟩) trivial ?_
    case g127 => intro w' _; go_simp
    refine wpAnyH_all (rs := [13]) (by kernel_rfl) (by simp) ?_
    intro k hk
    obtain rfl : k = 13 := by simpa using hk
    refine wpOp_of_list _ rfl rfl ?_
    go_simp
    refine wpList_store_mid rfl 126 _ _ rfl g (i * 4) (pcl bl (fl l j)).toArray rfl rfl ((World.there_drew _ _ _ _).2 t0) Tryz.sizePcl (pcl_one _ _) ?_
    go_wp2_with fail
    refine wpAnyH_take (i := 14) (v := .pointer (some ⟨g, j * 4, none⟩)) rfl (by kernel_rfl) (by kernel_rfl) (by kernel_rfl) (fun _ _ _ h => h) (Or.inl ⟨by rfl, ?g147⟩) trivial ?_
    case g147 => intro w' _; go_simp
    refine wpAnyH_all (rs := [15]) (by kernel_rfl) (by simp) ?_
    intro k hk
    obtain rfl : k = 15 := by simpa using hk
    refine wpOp_of_list _ rfl rfl ?_
    go_simp
    refine wpList_store_mid rfl 126 _ _ rfl g (j * 4) (pcl bl (fl l i)).toArray rfl rfl t1 Tryz.sizePcl (pcl_one _ _) ?_
    go_wp2_with fail
    refine ⟨by kernel_rfl, ?_⟩
    refine NoPanic.normal ?_
    go_wp2
    go_end0
    exact ⟨rfl, q2, c2⟩
  · skip
    refine wpOp_of_list _ rfl rfl ?_
    go_simp
    refine wpList_load_mid rfl 126 _ rfl g (i * 4) rfl (pcl bl (fl l i)) _ ((World.rangeAt_drew _ _ _ _).2 ri) Tryz.underlying126 rfl Tryz.sizePcl ?_
    go_wp2_with fail
    refine wpAnyH_all (rs := [7]) (by kernel_rfl) (by simp) ?_
    intro k hk
    obtain rfl : k = 7 := by simpa using hk
    refine wpOp_of_list _ rfl rfl ?_
    go_simp
    refine wpList_load_mid rfl 126 _ rfl g (j * 4) rfl (pcl bl (fl l j)) _ ((World.rangeAt_drew _ _ _ _).2 rj) Tryz.underlying126 rfl Tryz.sizePcl ?_
    go_wp2_with fail
    refine wpAnyH_take (i := 12) (v := .pointer (some ⟨g, i * 4, none⟩)) rfl (by kernel_rfl) (by kernel_rfl) (by kernel_rfl) (fun _ _ _ h => h) (Or.inl ⟨by rfl, ?g1211⟩) trivial ?_
    case g1211 => intro w' _; go_simp
    refine wpAnyH_all (rs := [13]) (by kernel_rfl) (by simp) ?_
    intro k hk
    obtain rfl : k = 13 := by simpa using hk
    refine wpOp_of_list _ rfl rfl ?_
    go_simp
    refine wpList_store_mid rfl 126 _ _ rfl g (i * 4) (pcl bl (fl l j)).toArray rfl rfl ((World.there_drew _ _ _ _).2 t0) Tryz.sizePcl (pcl_one _ _) ?_
    go_wp2_with fail
    refine wpAnyH_take (i := 14) (v := .pointer (some ⟨g, j * 4, none⟩)) rfl (by kernel_rfl) (by kernel_rfl) (by kernel_rfl) (fun _ _ _ h => h) (Or.inl ⟨by rfl, ?g1411⟩) trivial ?_
    case g1411 => intro w' _; go_simp
    refine wpAnyH_all (rs := [15]) (by kernel_rfl) (by simp) ?_
    intro k hk
    obtain rfl : k = 15 := by simpa using hk
    refine wpOp_of_list _ rfl rfl ?_
    go_simp
    refine wpList_store_mid rfl 126 _ _ rfl g (j * 4) (pcl bl (fl l i)).toArray rfl rfl t1 Tryz.sizePcl (pcl_one _ _) ?_
    go_wp2_with fail
    refine ⟨by kernel_rfl, ?_⟩
    refine NoPanic.normal ?_
    go_wp2
    go_end0
    exact ⟨rfl, q2, c2⟩
end Go.Proofs.YtandblanpafjoaaGreatDoor

namespace Go.Proofs.YtandblanpafjoaaGreatDoor
open Go.RowKit Go.Extern.Stop Go.Stop Go.Extern
/-- The queue behind its pointer. -/
structure QP (w : World) (nb o g cap : Nat) (bl : Nat → Nat) (l : List FlyM) : Prop where
  cell : w.cell? ⟨nb, o, none⟩ = some (.slice (some ⟨g, 0, none⟩) l.length cap)
  q : QAt w g cap bl l
  ne : nb ≠ g
  fro : w.frozen? ⟨nb, o, none⟩ = false
theorem QP.lt {w : World} {nb o g cap : Nat} {bl : Nat → Nat} {l : List FlyM} (h : QP w nb o g cap bl l) : nb < w.heap.size := World.block_lt_of_cell? w _ h.cell
theorem QP.below {w w' : World} {nb o g cap : Nat} {bl : Nat → Nat} {l : List FlyM} (h : QP w nb o g cap bl l) (hb : Below w.heap.size w w') : QP w' nb o g cap bl l :=
  ⟨(hb.cell (p := ⟨nb, o, none⟩) h.lt).trans h.cell, h.q.same (hb.block g h.q.lt), h.ne, (hb.frozen (p := ⟨nb, o, none⟩) h.lt).trans h.fro⟩
theorem QP.chg {w w' : World} {nb o g cap : Nat} {bl : Nat → Nat} {l l' : List FlyM} (h : QP w nb o g cap bl l) (hc : Chg (fun k => k = g) w w') (hq : QAt w' g cap bl l') (hl : l'.length = l.length) : QP w' nb o g cap bl l' :=
  ⟨by rw [hl, ← h.cell]; exact World.cell?_of_block (a := ⟨nb, o, none⟩) (hc.block nb h.lt h.ne), hq, h.ne, by rw [← h.fro]; exact World.frozen?_of_block (a := ⟨nb, o, none⟩) (hc.block nb h.lt h.ne)⟩
theorem half_int (j : Nat) : ((j : Int) - 1).tdiv 2 = (((j - 1) / 2 : Nat) : Int) := by
  rcases j with _ | j
  · rfl
  · rw [show ((j + 1 : Nat) : Int) - 1 = (j : Int) by omega, Int.tdiv_eq_ediv_of_nonneg (by omega)]
    simp
set_option maxRecDepth 10000 in
set_option maxHeartbeats 800000 in
theorem up_any (nb o g cap j t : Nat) (bl : Nat → Nat) (l : List FlyM) (w : World) (h : QP w nb o g cap bl l) (hj : j < l.length) (ht : j < t) (hlen : l.length ≤ 1000000) :
    Calls Tryz.prog 91 #[.iface 124 (.pointer (some ⟨nb, o, none⟩)), .int .i64 (j : Int)] w fun e w' => e = .returned (.tuple #[]) ∧ QP w' nb o g cap bl (upL t l j) ∧ Chg (fun k => k = g) w w' := by
  obtain ⟨R, hR⟩ : ∃ R, upL t l j = R := ⟨_, rfl⟩
  rw [hR]
  have HR := hide hR
  have HQ := hide h
  clear h hR
  go_enter Tryz.func91, Tryz.ntmps91
  go_wp2_with fail
  go_loopw [1] (fun s wr => ∃ (t' : Nat) (l' : List FlyM) (j' : Nat), s = .int .i64 (j' : Int) ∧ j' < t' ∧ j' < l'.length ∧ l'.length ≤ 1000000 ∧ upL t' l' j' = R ∧ QP wr nb o g cap bl l' ∧ Chg (fun k => k = g) w wr) (fun s _ => (intOf s).toNat)
  case atStart => exact ⟨t, l, j, rfl, ht, hj, hlen, unhide HR, unhide HQ, Chg.refl _ _⟩
  case round =>
    obtain ⟨t1, l1, j1, rfl, h1, h2, h3, h4, hq, hc⟩ := hrel
    have hm1 := mLess ⟨nb, o, none⟩ wr _ (loadQ nb o wr _ hq.cell)
    have hw1 := i64_id ((j1 : Int) - 1) (by omega) (by omega)
    have hdv := half_int j1
    obtain ⟨i, hi⟩ : ∃ i, (j1 - 1) / 2 = i := ⟨_, rfl⟩
    rw [hi] at hdv
    have hw2 := i64_id (i : Int) (by omega) (by omega)
    have H4 := hide (And.intro h4 (And.intro hq hc))
    clear h4 hq hc
    by_cases h0 : j1 = 0
    · have hd : ((i : Int) == (j1 : Int)) = true := by rw [beq_iff_eq]; omega
      have HI := hide hi
      clear hi
      go_wp2
      go_end0
      obtain ⟨h4, hq, hc⟩ := unhide H4
      refine ⟨rfl, ?_, hc⟩
      obtain ⟨t2, rfl⟩ : ∃ t2, t1 = t2 + 1 := ⟨t1 - 1, by omega⟩
      simp only [upL, h0, if_true] at h4
      rw [← h4]; exact hq
    · have hd : ((i : Int) == (j1 : Int)) = false := by rw [beq_eq_false_iff_ne]; omega
      have hil : i < l1.length := by omega
      have HI := hide (And.intro hi h0)
      clear hi h0
      go_wp2_with fail
      obtain ⟨h4, hq, hc⟩ := unhide H4
      refine (qless_any g cap j1 i bl l1 wr hq.q h2 hil).mono ?_
      rintro e w2 ⟨rfl, hb2⟩
      have hq2 := hq.below hb2
      have hm2 := mSwap ⟨nb, o, none⟩ w2 _ (loadQ nb o w2 _ hq2.cell)
      have H2 := hide (And.intro hb2 hq2)
      clear hb2 hq2 h4 hq hc hm1
      by_cases hb : before (fl l1 j1) (fl l1 i)
      · have hdb : decide (before (fl l1 j1) (fl l1 i)) = true := decide_eq_true hb
        have HBF := hide hb
        clear hb
        rw [hdb]
        clear hdb
        go_wp2_with fail
        obtain ⟨hb2, hq2⟩ := unhide H2
        refine (qswap_any g cap i j1 bl l1 w2 hq2.q hil h2).mono ?_
        rintro e w3 ⟨rfl, hq3, hc3⟩
        have H3 := hide (And.intro hq3 hc3)
        clear hq3 hc3 hb2 hq2
        go_wp2
        obtain ⟨h4, hq, hc⟩ := unhide H4
        obtain ⟨hb2, hq2⟩ := unhide H2
        obtain ⟨hq3, hc3⟩ := unhide H3
        obtain ⟨hi, h0⟩ := unhide HI
        refine ⟨⟨t1 - 1, swapL l1 i j1, i, by first | rfl | go_num, by omega, by rw [swapL_len]; exact hil, by rw [swapL_len]; exact h3, ?_, hq2.chg hc3 hq3 (swapL_len _ _ _), (hc.thenBelow (hb2.mono hc.size)).trans hc3 (fun _ _ h => h)⟩, by simp [intOf]; omega⟩
        obtain ⟨t2, rfl⟩ : ∃ t2, t1 = t2 + 1 := ⟨t1 - 1, by omega⟩
        simp only [upL, h0, if_false, hi, unhide HBF, if_true] at h4
        exact h4
      · have hdb : decide (before (fl l1 j1) (fl l1 i)) = false := decide_eq_false hb
        have HBF := hide hb
        clear hb
        rw [hdb]
        clear hdb
        go_wp2
        go_end0
        obtain ⟨h4, hq, hc⟩ := unhide H4
        obtain ⟨hb2, hq2⟩ := unhide H2
        obtain ⟨hi, h0⟩ := unhide HI
        refine ⟨rfl, ?_, hc.thenBelow (hb2.mono hc.size)⟩
        obtain ⟨t2, rfl⟩ : ∃ t2, t1 = t2 + 1 := ⟨t1 - 1, by omega⟩
        simp only [upL, h0, if_false, hi, unhide HBF] at h4
        rw [← h4]; exact hq2
end Go.Proofs.YtandblanpafjoaaGreatDoor

namespace Go.Proofs.YtandblanpafjoaaGreatDoor
open Go.RowKit Go.Extern.Stop Go.Stop Go.Extern
theorem downL_end (t : Nat) (l : List FlyM) (i n : Nat) (h : n ≤ 2 * i + 1) : downL t l i n = l := by
  cases t with
  | zero => rfl
  | succ t => simp only [downL, if_pos h]
set_option maxRecDepth 10000 in
set_option maxHeartbeats 2000000 in
theorem down_any (nb o g cap n t : Nat) (bl : Nat → Nat) (l : List FlyM) (w : World) (h : QP w nb o g cap bl l) (hn : n ≤ l.length) (ht : n ≤ t) (hlen : l.length ≤ 1000000) :
    Calls Tryz.prog 111 #[.iface 124 (.pointer (some ⟨nb, o, none⟩)), .int .i64 0, .int .i64 (n : Int)] w fun e w' => (∃ v, e = .returned v) ∧ QP w' nb o g cap bl (downL t l 0 n) ∧ Chg (fun k => k = g) w w' := by
  obtain ⟨R, hR⟩ : ∃ R, downL t l 0 n = R := ⟨_, rfl⟩
  rw [hR]
  have HR := hide hR
  have HQ := hide h
  clear h hR
  go_enter Tryz.func111, Tryz.ntmps111
  go_wp2_with fail
  go_loopw [7] (fun s wr => ∃ (t' : Nat) (l' : List FlyM) (i' : Nat), s = .int .i64 (i' : Int) ∧ n ≤ i' + t' ∧ n ≤ l'.length ∧ l'.length ≤ 1000000 ∧ i' ≤ 1000000 ∧ downL t' l' i' n = R ∧ QP wr nb o g cap bl l' ∧ Chg (fun k => k = g) w wr) (fun s _ => n - (intOf s).toNat)
  case atStart => exact ⟨t, l, 0, rfl, by omega, hn, hlen, by omega, unhide HR, unhide HQ, Chg.refl _ _⟩
  case round =>
    obtain ⟨t1, l1, i1, rfl, h1, h2, h3, hi6, h4, hq, hc⟩ := hrel
    have hw1 := i64_id (2 * (i1 : Int)) (by omega) (by omega)
    have hw2 := i64_id (2 * (i1 : Int) + 1) (by omega) (by omega)
    have hw3 := i64_id (2 * (i1 : Int) + 1 + 1) (by omega) (by omega)
    obtain ⟨a, ha⟩ : ∃ a : Nat, 2 * i1 + 1 = a := ⟨_, rfl⟩
    have ea : 2 * (i1 : Int) + 1 = (a : Int) := by omega
    rw [ea] at hw2 hw3
    obtain ⟨b, hb⟩ : ∃ b : Nat, a + 1 = b := ⟨_, rfl⟩
    have eb : (a : Int) + 1 = (b : Int) := by omega
    rw [eb] at hw3
    have hm1 := mLess ⟨nb, o, none⟩ wr _ (loadQ nb o wr _ hq.cell)
    have H4 := hide (And.intro h4 (And.intro hq hc))
    clear h4 hq hc
    have d0 : decide ((a : Int) < 0) = false := by simp
    by_cases hna : n ≤ a
    · have d1 : decide (n ≤ a) = true := by simp [hna]
      have HA := hide (And.intro ha (And.intro hb hna))
      clear ha hb hna
      go_wp2
      go_ret
      obtain ⟨h4, hq, hc⟩ := unhide H4
      obtain ⟨ha, hb, hna⟩ := unhide HA
      refine ⟨⟨_, rfl⟩, ?_, hc⟩
      rw [downL_end t1 l1 i1 n (by omega)] at h4
      rw [← h4]; exact hq
    · have d1 : decide (n ≤ a) = false := by simp; omega
      have hil : i1 < l1.length := by omega
      have HN1 := hide (show ¬ n ≤ 2 * i1 + 1 by omega)
      by_cases hnb : b < n
      · have d2 : decide (b < n) = true := by simp; omega
        have hal : a < l1.length := by omega
        have hbl2 : b < l1.length := by omega
        have HA := hide (And.intro ha (And.intro hb (And.intro hna hnb)))
        clear ha hb hna hnb
        go_wp2_with fail
        refine (qless_any g cap b a bl l1 wr (unhide H4).2.1.q hbl2 hal).mono ?_
        rintro e w2 ⟨rfl, hb2⟩
        have hq2 := (unhide H4).2.1.below hb2
        have hm2 := mLess ⟨nb, o, none⟩ w2 _ (loadQ nb o w2 _ hq2.cell)
        have H2 := hide (And.intro hb2 hq2)
        clear hb2 hq2 hm1
        by_cases hk : before (fl l1 b) (fl l1 a)
        · have hdk : decide (before (fl l1 b) (fl l1 a)) = true := decide_eq_true hk
          have HK : Hid (kidL l1 i1 n = b) := hide (by
            obtain ⟨ha, hb, hna, hnb⟩ := unhide HA
            unfold kidL
            rw [show 2 * i1 + 2 = b by omega, show 2 * i1 + 1 = a by omega, if_pos ⟨hnb, hk⟩])
          clear hk
          rw [hdk]
          clear hdk
          have hcl := hbl2
          have hci : i1 < b ∧ b ≤ 1000000 := by obtain ⟨ha, hb, hna, hnb⟩ := unhide HA; omega
          have hst : n - b < n - i1 := by obtain ⟨ha, hb, hna, hnb⟩ := unhide HA; omega
          go_wp2_with fail
          have hq3 := (unhide H2).2
          refine (qless_any g cap b i1 bl l1 w2 hq3.q hcl hil).mono ?_
          rintro e w3 ⟨rfl, hb3⟩
          have hq4 := hq3.below hb3
          have hm3 := mSwap ⟨nb, o, none⟩ w3 _ (loadQ nb o w3 _ hq4.cell)
          have H3 := hide (And.intro hb3 hq4)
          clear hb3 hq3 hq4 hm2
          by_cases hbf : before (fl l1 b) (fl l1 i1)
          · have hdb : decide (before (fl l1 b) (fl l1 i1)) = true := decide_eq_true hbf
            have HBF := hide hbf
            clear hbf
            rw [hdb]
            clear hdb
            go_wp2_with fail
            obtain ⟨hb3, hq4⟩ := unhide H3
            refine (qswap_any g cap i1 b bl l1 w3 hq4.q hil hcl).mono ?_
            rintro e w5 ⟨rfl, hq5, hc5⟩
            have H5 := hide (And.intro hq5 hc5)
            clear hq5 hc5 hb3 hq4
            go_wp2
            obtain ⟨h4, hq, hc⟩ := unhide H4
            obtain ⟨hb2, hq2⟩ := unhide H2
            obtain ⟨hb3, hq4⟩ := unhide H3
            obtain ⟨hq5, hc5⟩ := unhide H5
            refine ⟨⟨t1 - 1, swapL l1 i1 b, b, by first | rfl | go_num, by omega, by rw [swapL_len]; exact h2, by rw [swapL_len]; exact h3, hci.2, ?_, hq4.chg hc5 hq5 (swapL_len _ _ _), ((hc.thenBelow (hb2.mono hc.size)).thenBelow (hb3.mono (Nat.le_trans hc.size hb2.size))).trans hc5 (fun _ _ h => h)⟩, by simp [intOf]; omega⟩
            obtain ⟨t2, rfl⟩ : ∃ t2, t1 = t2 + 1 := ⟨t1 - 1, by omega⟩
            have hk := unhide HK
            simp only [downL, if_neg (unhide HN1), hk, unhide HBF, if_true] at h4
            exact h4
          · have hdb : decide (before (fl l1 b) (fl l1 i1)) = false := decide_eq_false hbf
            have HBF := hide hbf
            clear hbf
            rw [hdb]
            clear hdb
            go_wp2
            go_ret
            obtain ⟨h4, hq, hc⟩ := unhide H4
            obtain ⟨hb2, hq2⟩ := unhide H2
            obtain ⟨hb3, hq4⟩ := unhide H3
            refine ⟨⟨_, rfl⟩, ?_, (hc.thenBelow (hb2.mono hc.size)).thenBelow (hb3.mono (Nat.le_trans hc.size hb2.size))⟩
            obtain ⟨t2, rfl⟩ : ∃ t2, t1 = t2 + 1 := ⟨t1 - 1, by omega⟩
            have hk := unhide HK
            simp only [downL, if_neg (unhide HN1), hk, unhide HBF, if_false] at h4
            rw [← h4]; exact hq4
        · have hdk : decide (before (fl l1 b) (fl l1 a)) = false := decide_eq_false hk
          have HK : Hid (kidL l1 i1 n = a) := hide (by
            obtain ⟨ha, hb, hna, hnb⟩ := unhide HA
            unfold kidL
            rw [show 2 * i1 + 2 = b by omega, show 2 * i1 + 1 = a by omega, if_neg (fun h => hk h.2)])
          clear hk
          rw [hdk]
          clear hdk
          have hcl := hal
          have hci : i1 < a ∧ a ≤ 1000000 := by obtain ⟨ha, hb, hna, hnb⟩ := unhide HA; omega
          have hst : n - a < n - i1 := by obtain ⟨ha, hb, hna, hnb⟩ := unhide HA; omega
          go_wp2_with fail
          have hq3 := (unhide H2).2
          refine (qless_any g cap a i1 bl l1 w2 hq3.q hcl hil).mono ?_
          rintro e w3 ⟨rfl, hb3⟩
          have hq4 := hq3.below hb3
          have hm3 := mSwap ⟨nb, o, none⟩ w3 _ (loadQ nb o w3 _ hq4.cell)
          have H3 := hide (And.intro hb3 hq4)
          clear hb3 hq3 hq4 hm2
          by_cases hbf : before (fl l1 a) (fl l1 i1)
          · have hdb : decide (before (fl l1 a) (fl l1 i1)) = true := decide_eq_true hbf
            have HBF := hide hbf
            clear hbf
            rw [hdb]
            clear hdb
            go_wp2_with fail
            obtain ⟨hb3, hq4⟩ := unhide H3
            refine (qswap_any g cap i1 a bl l1 w3 hq4.q hil hcl).mono ?_
            rintro e w5 ⟨rfl, hq5, hc5⟩
            have H5 := hide (And.intro hq5 hc5)
            clear hq5 hc5 hb3 hq4
            go_wp2
            obtain ⟨h4, hq, hc⟩ := unhide H4
            obtain ⟨hb2, hq2⟩ := unhide H2
            obtain ⟨hb3, hq4⟩ := unhide H3
            obtain ⟨hq5, hc5⟩ := unhide H5
            refine ⟨⟨t1 - 1, swapL l1 i1 a, a, by first | rfl | go_num, by omega, by rw [swapL_len]; exact h2, by rw [swapL_len]; exact h3, hci.2, ?_, hq4.chg hc5 hq5 (swapL_len _ _ _), ((hc.thenBelow (hb2.mono hc.size)).thenBelow (hb3.mono (Nat.le_trans hc.size hb2.size))).trans hc5 (fun _ _ h => h)⟩, by simp [intOf]; omega⟩
            obtain ⟨t2, rfl⟩ : ∃ t2, t1 = t2 + 1 := ⟨t1 - 1, by omega⟩
            have hk := unhide HK
            simp only [downL, if_neg (unhide HN1), hk, unhide HBF, if_true] at h4
            exact h4
          · have hdb : decide (before (fl l1 a) (fl l1 i1)) = false := decide_eq_false hbf
            have HBF := hide hbf
            clear hbf
            rw [hdb]
            clear hdb
            go_wp2
            go_ret
            obtain ⟨h4, hq, hc⟩ := unhide H4
            obtain ⟨hb2, hq2⟩ := unhide H2
            obtain ⟨hb3, hq4⟩ := unhide H3
            refine ⟨⟨_, rfl⟩, ?_, (hc.thenBelow (hb2.mono hc.size)).thenBelow (hb3.mono (Nat.le_trans hc.size hb2.size))⟩
            obtain ⟨t2, rfl⟩ : ∃ t2, t1 = t2 + 1 := ⟨t1 - 1, by omega⟩
            have hk := unhide HK
            simp only [downL, if_neg (unhide HN1), hk, unhide HBF, if_false] at h4
            rw [← h4]; exact hq4
      · have d2 : decide (b < n) = false := by simp; omega
        have hcl : a < l1.length := by omega
        have HK : Hid (kidL l1 i1 n = a) := hide (by
          unfold kidL
          rw [show 2 * i1 + 2 = b by omega, show 2 * i1 + 1 = a by omega, if_neg (fun h => hnb h.1)])
        have hci : i1 < a ∧ a ≤ 1000000 := by omega
        have hst : n - a < n - i1 := by omega
        clear ha hb hna hnb
        have H2 := hide (And.intro (Below.refl wr.heap.size wr) (unhide H4).2.1)
        generalize hw2e : wr = w2 at *
        have hm2 := hm1
        clear hm1
        go_wp2_with fail
        have hq3 := (unhide H2).2
        refine (qless_any g cap a i1 bl l1 w2 hq3.q hcl hil).mono ?_
        rintro e w3 ⟨rfl, hb3⟩
        have hq4 := hq3.below hb3
        have hm3 := mSwap ⟨nb, o, none⟩ w3 _ (loadQ nb o w3 _ hq4.cell)
        have H3 := hide (And.intro hb3 hq4)
        clear hb3 hq3 hq4 hm2
        by_cases hbf : before (fl l1 a) (fl l1 i1)
        · have hdb : decide (before (fl l1 a) (fl l1 i1)) = true := decide_eq_true hbf
          have HBF := hide hbf
          clear hbf
          rw [hdb]
          clear hdb
          go_wp2_with fail
          obtain ⟨hb3, hq4⟩ := unhide H3
          refine (qswap_any g cap i1 a bl l1 w3 hq4.q hil hcl).mono ?_
          rintro e w5 ⟨rfl, hq5, hc5⟩
          have H5 := hide (And.intro hq5 hc5)
          clear hq5 hc5 hb3 hq4
          go_wp2
          obtain ⟨h4, hq, hc⟩ := unhide H4
          obtain ⟨hb2, hq2⟩ := unhide H2
          obtain ⟨hb3, hq4⟩ := unhide H3
          obtain ⟨hq5, hc5⟩ := unhide H5
          refine ⟨⟨t1 - 1, swapL l1 i1 a, a, by first | rfl | go_num, by omega, by rw [swapL_len]; exact h2, by rw [swapL_len]; exact h3, hci.2, ?_, hq4.chg hc5 hq5 (swapL_len _ _ _), ((hc.thenBelow (hb2.mono hc.size)).thenBelow (hb3.mono (Nat.le_trans hc.size hb2.size))).trans hc5 (fun _ _ h => h)⟩, by simp [intOf]; omega⟩
          obtain ⟨t2, rfl⟩ : ∃ t2, t1 = t2 + 1 := ⟨t1 - 1, by omega⟩
          have hk := unhide HK
          simp only [downL, if_neg (unhide HN1), hk, unhide HBF, if_true] at h4
          exact h4
        · have hdb : decide (before (fl l1 a) (fl l1 i1)) = false := decide_eq_false hbf
          have HBF := hide hbf
          clear hbf
          rw [hdb]
          clear hdb
          go_wp2
          go_ret
          obtain ⟨h4, hq, hc⟩ := unhide H4
          obtain ⟨hb2, hq2⟩ := unhide H2
          obtain ⟨hb3, hq4⟩ := unhide H3
          refine ⟨⟨_, rfl⟩, ?_, (hc.thenBelow (hb2.mono hc.size)).thenBelow (hb3.mono (Nat.le_trans hc.size hb2.size))⟩
          obtain ⟨t2, rfl⟩ : ∃ t2, t1 = t2 + 1 := ⟨t1 - 1, by omega⟩
          have hk := unhide HK
          simp only [downL, if_neg (unhide HN1), hk, unhide HBF, if_false] at h4
          rw [← h4]; exact hq4
end Go.Proofs.YtandblanpafjoaaGreatDoor

