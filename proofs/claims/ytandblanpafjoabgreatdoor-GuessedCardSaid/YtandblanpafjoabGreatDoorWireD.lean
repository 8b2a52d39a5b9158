import Derived.Test.YtandblanpafjoabGreatDoorWireC
import Derived.Deep.RegionHeld3
namespace Go.Proofs.YtandblanpafjoabGreatDoor
open Go.RowKit Go.Extern.Stop Go.Stop Go.Extern

theorem putA_get : ∀ (vs : List Value) (o : Nat) (cs : Array Value) (k : Nat), o + vs.length ≤ cs.size → (putA cs o vs)[k]? = if o ≤ k ∧ k < o + vs.length then vs[k - o]? else cs[k]?
  | [], o, cs, k, _ => by
    rw [if_neg (by simp only [List.length_nil]; omega)]
    rfl
  | v :: vs, o, cs, k, h => by
    have hs : o + (vs.length + 1) ≤ cs.size := by simpa using h
    have e : putA cs o (v :: vs) = putA (cs.setIfInBounds o v) (o + 1) vs := rfl
    rw [e, putA_get vs (o + 1) _ k (by simp; omega)]
    by_cases h1 : o + 1 ≤ k ∧ k < o + 1 + vs.length
    · rw [if_pos h1, if_pos (by simp; omega), show k - o = (k - (o + 1)) + 1 by omega, List.getElem?_cons_succ]
    · rw [if_neg h1]
      by_cases h2 : k = o
      · subst h2
        rw [if_pos (by simp), Nat.sub_self, List.getElem?_cons_zero]
        simp [show k < cs.size by omega]
      · rw [if_neg (by simp; omega), Array.getElem?_setIfInBounds_ne (by omega)]
theorem pcls_set (bl : Nat → Nat) : ∀ (l : List FlyM) (i : Nat) (f : FlyM) (k : Nat), i < l.length → (pcls bl (l.set i f))[k]? = if i * 4 ≤ k ∧ k < i * 4 + 4 then (pcl bl f)[k - i * 4]? else (pcls bl l)[k]?
  | a :: l, 0, f, k, _ => by
    simp only [List.set_cons_zero, pcls, List.flatMap_cons, Nat.zero_mul, Nat.zero_le, true_and, Nat.zero_add, Nat.sub_zero]
    split
    · rename_i h
      rw [List.getElem?_append_left (by rw [pcl_len]; exact h)]
    · rename_i h
      rw [List.getElem?_append_right (by rw [pcl_len]; omega), List.getElem?_append_right (by rw [pcl_len]; omega), pcl_len, pcl_len]
  | a :: l, i + 1, f, k, h => by
    simp only [List.set_cons_succ, pcls, List.flatMap_cons]
    by_cases hk : k < 4
    · rw [List.getElem?_append_left (by rw [pcl_len]; exact hk), List.getElem?_append_left (by rw [pcl_len]; exact hk), if_neg (by omega)]
    · rw [List.getElem?_append_right (by rw [pcl_len]; omega), List.getElem?_append_right (by rw [pcl_len]; omega), pcl_len]
      have := pcls_set bl l i f (k - 4) (by simpa using h)
      simp only [pcls] at this
      rw [this]
      by_cases h2 : i * 4 ≤ k - 4 ∧ k - 4 < i * 4 + 4
      · rw [if_pos h2, if_pos (by omega), show k - 4 - i * 4 = k - (i + 1) * 4 by omega]
      · rw [if_neg h2, if_neg (by omega)]
theorem QAt.put {w : World} {g cap : Nat} {bl : Nat → Nat} {l : List FlyM} (h : QAt w g cap bl l) {i : Nat} (hi : i < l.length) (f : FlyM) : QAt (w.setCells g (i * 4) (pcl bl f)) g cap bl (l.set i f) := by
  obtain ⟨cs, hb, hs, ht⟩ := h.blk
  have hcap := h.cap
  refine ⟨⟨_, hb.setCells _ _, by rw [putA_toList]; exact hs, ?_⟩, h.big, by simpa using hcap⟩
  apply List.ext_getElem?
  intro k
  rw [List.getElem?_take, pcls_set bl l i f k hi, List.length_set]
  have hg := putA_get (pcl bl f) (i * 4) cs k (by rw [pcl_len]; omega)
  rw [pcl_len] at hg
  have ht' := congrArg (fun x => x[k]?) ht
  simp only [List.getElem?_take] at ht'
  by_cases hk : k < l.length * 4
  · rw [if_pos hk] at ht' ⊢
    rw [Array.getElem?_toList] at ht'
    rw [← ht', Array.getElem?_toList, hg]
  · rw [if_neg hk] at ht' ⊢
    rw [if_neg (by omega), ← ht']
theorem QAt.there {w : World} {g cap : Nat} {bl : Nat → Nat} {l : List FlyM} (h : QAt w g cap bl l) {i : Nat} (hi : i < cap) : w.there g (i * 4) 4 := by
  obtain ⟨cs, hb, hs, _⟩ := h.blk
  exact hb.there (by omega)
theorem QAt.range {w : World} {g cap : Nat} {bl : Nat → Nat} {l : List FlyM} (h : QAt w g cap bl l) {i : Nat} (hi : i < l.length) : w.rangeAt g (i * 4) (pcl bl (fl l i)) := fun j v hv => by
  have hj : j < 4 := by have := (List.getElem?_eq_some_iff.1 hv).1; rwa [pcl_len] at this
  rw [h.cell i j hi hj]; exact hv
theorem QAt.same {w w' : World} {g cap : Nat} {bl : Nat → Nat} {l : List FlyM} (h : QAt w g cap bl l) (hs : w'.heap[g]? = w.heap[g]?) : QAt w' g cap bl l := by
  obtain ⟨cs, hb, h2, h3⟩ := h.blk
  exact ⟨⟨cs, hs.trans hb, h2, h3⟩, h.big, h.cap⟩
theorem QAt.lt {w : World} {g cap : Nat} {bl : Nat → Nat} {l : List FlyM} (h : QAt w g cap bl l) : g < w.heap.size := by
  obtain ⟨cs, hb, _⟩ := h.blk; exact hb.lt
theorem pcl_one (bl : Nat → Nat) (f : FlyM) : (pcl bl f).toArray.all (·.oneCell') = true := by simp [pcl, Value.oneCell']
theorem Tryz.sizePcl : (Tryz.prog.info? 127).map (·.size) = some 4 := by kernel_rfl

set_option maxRecDepth 10000 in
set_option maxHeartbeats 800000 in
theorem qswap_any (g cap i j : Nat) (bl : Nat → Nat) (l : List FlyM) (w : World) (h : QAt w g cap bl l) (hi : i < l.length) (hj : j < l.length) :
    Calls Tryz.prog 154 #[.slice (some ⟨g, 0, none⟩) l.length cap, .int .i64 (i : Int), .int .i64 (j : Int)] w fun e w' => e = .returned (.tuple #[]) ∧ QAt w' g cap bl (swapL l i j) ∧ Chg (fun k => k = g) w w' := by
  have hcap := h.cap
  have i0 : (0 : Int) ≤ (i : Int) := by omega
  have i1 : (i : Int) < (l.length : Int) := by omega
  have j0 : (0 : Int) ≤ (j : Int) := by omega
  have j1 : (j : Int) < (l.length : Int) := by omega
  have HQ := hide h
  clear h
  go_enter Tryz.func154, Tryz.ntmps154
  go_wp2_with fail
  refine wp_region_noPanic ?_
  refine wp_held_reads 7 (fun _ => True) (by kernel_rfl) (by simp) (by kernel_rfl) (by kernel_rfl) (fun _ _ _ _ _ h => h) trivial ?_
  simp only [List.take_succ_cons, List.take_zero]
  refine wpHeld_op ?y0 rfl ?z0 ?_
  case z0 => intro w' _; go_simp; rfl
  refine wpHeld_op ?y1 rfl ?z1 ?_
  case z1 => intro w' _; go_simp; rfl
  refine wpHeld_op ?y2 rfl ?z2 ?_
  case z2 => intro w' _; go_simp; rfl
  refine wpHeld_op ?y3 rfl ?z3 ?_
  case z3 => intro w' _; go_simp; rfl
  refine wpHeld_op ?y4 rfl ?z4 ?_
  case z4 => intro w' _; go_simp; rfl
  refine wpHeld_op ?y5 rfl ?z5 ?_
  case z5 => intro w' _; go_simp; rfl
  refine wpHeld_op ?y6 rfl ?z6 ?_
  case z6 => intro w' _; go_simp; rfl
  unfold wpHeld
  refine wpAnyH_take (i := 8) (v := .slice (some ⟨g, 0, none⟩) l.length cap) rfl (by kernel_rfl) (by kernel_rfl) (by kernel_rfl) (fun _ _ _ h => h) (Or.inl ⟨by rfl, ?g8⟩) trivial ?_
  case g8 => intro w' _; go_simp
  refine wpAnyH_take (i := 9) (v := .int .i64 (i : Int)) rfl (by kernel_rfl) (by kernel_rfl) (by kernel_rfl) (fun _ _ _ h => h) (Or.inl ⟨by rfl, ?g9⟩) trivial ?_
  case g9 => intro w' _; go_simp
  refine wpAnyH_take (i := 10) (v := .pointer (some ⟨g, i * 4, none⟩)) rfl (by kernel_rfl) (by kernel_rfl) (by kernel_rfl) (fun _ _ _ h => h) (Or.inl ⟨by rfl, ?g10⟩) trivial ?_
  case g10 => intro w' _; go_simp
  have ri := (unhide HQ).range hi
  have rj := (unhide HQ).range hj
  have qd : QAt w.drew g cap bl l := (unhide HQ).same rfl
  have q1 := qd.put hi (fl l j)
  have t1 := q1.there (i := j) (by omega)
  have t0 := (unhide HQ).there (i := i) (by omega)
  have q2 : QAt ((w.drew.setCells g (i * 4) (pcl bl (fl l j))).setCells g (j * 4) (pcl bl (fl l i))) g cap bl (swapL l i j) := q1.put (by simpa using hj) (fl l i)
  have c2 : Chg (fun k => k = g) w ((w.drew.setCells g (i * 4) (pcl bl (fl l j))).setCells g (j * 4) (pcl bl (fl l i))) := ((Chg.drew (fun k => k = g) w).thenCells g (i * 4) _ rfl).thenCells g (j * 4) _ rfl
  refine wpAnyH_all (rs := [7, 11]) (by kernel_rfl) (by simp) ?_
  intro k hk
  have hk2 : k = 7 ∨ k = 11 := by simpa using hk
  clear hk
  rcases hk2 with rfl | rfl
  · skip
    refine wpOp_of_list _ rfl rfl ?_
    go_simp
    refine wpList_load_mid rfl 127 _ rfl g (j * 4) rfl (pcl bl (fl l j)) _ ((World.rangeAt_drew _ _ _ _).2 rj) Tryz.underlying127 rfl Tryz.sizePcl ?_
    go_wp2_with fail
    refine wpAnyH_all (rs := [11]) (by kernel_rfl) (by simp) ?_
    intro k hk
    obtain rfl : k = 11 := by simpa using hk
    refine wpOp_of_list _ rfl rfl ?_
    go_simp
    refine wpList_load_mid rfl 127 _ rfl g (i * 4) rfl (pcl bl (fl l i)) _ ((World.rangeAt_drew _ _ _ _).2 ri) Tryz.underlying127 rfl Tryz.sizePcl ?_
    go_wp2_with fail
    refine wpAnyH_take (i := 12) (v := .pointer (some ⟨g, i * 4, none⟩)) rfl (by kernel_rfl) (by kernel_rfl) (by kernel_rfl) (fun _ _ _ h => h) (Or.inl ⟨by rfl, ?g127⟩) trivial ?_
    case g127 => intro w' _; go_simp
    refine wpAnyH_all (rs := [13]) (by kernel_rfl) (by simp) ?_
    intro k hk
    obtain rfl : k = 13 := by simpa using hk
    refine wpOp_of_list _ rfl rfl ?_
    go_simp
    refine wpList_store_mid rfl 127 _ _ rfl g (i * 4) (pcl bl (fl l j)).toArray rfl rfl ((World.there_drew _ _ _ _).2 t0) Tryz.sizePcl (pcl_one _ _) ?_
    go_wp2_with fail
    refine wpAnyH_take (i := 14) (v := .pointer (some ⟨g, j * 4, none⟩)) rfl (by kernel_rfl) (by kernel_rfl) (by kernel_rfl) (fun _ _ _ h => h) (Or.inl ⟨by rfl, ?g147⟩) trivial ?_
    case g147 => intro w' _; go_simp
    refine wpAnyH_all (rs := [15]) (by kernel_rfl) (by simp) ?_
    intro k hk
    obtain rfl : k = 15 := by simpa using hk
    refine wpOp_of_list _ rfl rfl ?_
    go_simp
    refine wpList_store_mid rfl 127 _ _ rfl g (j * 4) (pcl bl (fl l i)).toArray rfl rfl t1 Tryz.sizePcl (pcl_one _ _) ?_
    go_wp2_with fail
    refine ⟨by kernel_rfl, ?_⟩
    refine NoPanic.normal ?_
    go_wp2
    go_end0
    exact ⟨rfl, q2, c2⟩
  · skip
    refine wpOp_of_list _ rfl rfl ?_
    go_simp
    refine wpList_load_mid rfl 127 _ rfl g (i * 4) rfl (pcl bl (fl l i)) _ ((World.rangeAt_drew _ _ _ _).2 ri) Tryz.underlying127 rfl Tryz.sizePcl ?_
    go_wp2_with fail
    refine wpAnyH_all (rs := [7]) (by kernel_rfl) (by simp) ?_
    intro k hk
    obtain rfl : k = 7 := by simpa using hk
    refine wpOp_of_list _ rfl rfl ?_
    go_simp
    refine wpList_load_mid rfl 127 _ rfl g (j * 4) rfl (pcl bl (fl l j)) _ ((World.rangeAt_drew _ _ _ _).2 rj) Tryz.underlying127 rfl Tryz.sizePcl ?_
    go_wp2_with fail
    refine wpAnyH_take (i := 12) (v := .pointer (some ⟨g, i * 4, none⟩)) rfl (by kernel_rfl) (by kernel_rfl) (by kernel_rfl) (fun _ _ _ h => h) (Or.inl ⟨by rfl, ?g1211⟩) trivial ?_
    case g1211 => intro w' _; go_simp
    refine wpAnyH_all (rs := [13]) (by kernel_rfl) (by simp) ?_
    intro k hk
    obtain rfl : k = 13 := by simpa using hk
    refine wpOp_of_list _ rfl rfl ?_
    go_simp
    refine wpList_store_mid rfl 127 _ _ rfl g (i * 4) (pcl bl (fl l j)).toArray rfl rfl ((World.there_drew _ _ _ _).2 t0) Tryz.sizePcl (pcl_one _ _) ?_
    go_wp2_with fail
    refine wpAnyH_take (i := 14) (v := .pointer (some ⟨g, j * 4, none⟩)) rfl (by kernel_rfl) (by kernel_rfl) (by kernel_rfl) (fun _ _ _ h => h) (Or.inl ⟨by rfl, ?g1411⟩) trivial ?_
    case g1411 => intro w' _; go_simp
    refine wpAnyH_all (rs := [15]) (by kernel_rfl) (by simp) ?_
    intro k hk
    obtain rfl : k = 15 := by simpa using hk
    refine wpOp_of_list _ rfl rfl ?_
    go_simp
    refine wpList_store_mid rfl 127 _ _ rfl g (j * 4) (pcl bl (fl l i)).toArray rfl rfl t1 Tryz.sizePcl (pcl_one _ _) ?_
    go_wp2_with fail
    refine ⟨by kernel_rfl, ?_⟩
    refine NoPanic.normal ?_
    go_wp2
    go_end0
    exact ⟨rfl, q2, c2⟩
end Go.Proofs.YtandblanpafjoabGreatDoor
