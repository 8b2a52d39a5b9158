import Derived.Test.YtandblanpafjoabGreatDoorWireG
namespace Go.Proofs.YtandblanpafjoabGreatDoor
open Go.RowKit Go.Extern.Stop Go.Stop Go.Extern

/-! heap.Push, heap.Pop. -/
theorem QP.own {w : World} {nb o g cap : Nat} {bl : Nat → Nat} {l : List FlyM} (h : QP w nb o g cap bl l) : w.ownsRow 0 127 4 (.slice (some ⟨g, 0, none⟩) l.length cap) l.length (pcls bl l) := h.q.own
set_option maxHeartbeats 800000 in
theorem hpush_any (nb o : Nat) (bl : Nat → Nat) (l : List FlyM) (f : FlyM) (v : Value) (cs : Array Value) (tn : TypeId) (w : World) (hB : Blk w nb cs tn) (hc : w.cell? ⟨nb, o, none⟩ = some v) (hf : w.frozen? ⟨nb, o, none⟩ = false) (hown : w.ownsRow 0 127 4 v l.length (pcls bl l)) (hne : v.ownBlock ≠ some nb) (hlen : l.length + 1 ≤ 1000000) :
    Calls Tryz.prog 54 #[.iface 125 (.pointer (some ⟨nb, o, none⟩)), .iface 127 (.agg (pcl bl f).toArray)] w fun e w' => e = .returned (.tuple #[]) ∧ ∃ g cap, QP w' nb o g cap bl (pushL l f) ∧ Chg (fun k => k = nb ∨ v.ownBlock = some k) w w' ∧ (v.ownBlock = some g ∨ w.heap.size ≤ g) ∧ Blk w' nb (cs.setIfInBounds o (.slice (some ⟨g, 0, none⟩) (l.length + 1) cap)) tn := by
  have hm1 := mPush ⟨nb, o, none⟩ w
  have HO := hide (And.intro hown hB)
  clear hown hB
  go_enter Tryz.func54, Tryz.ntmps54
  go_wp2_with fail
  refine (qpush_any nb o bl l f v cs tn w (unhide HO).2 hc hf (unhide HO).1 hne (by omega)).mono ?_
  rintro e w1 ⟨rfl, g, cap, hq, hC, hloc, hB1⟩
  have hm2 := mLen ⟨nb, o, none⟩ w1 _ (loadQ nb o w1 _ hq.cell)
  rw [show (l ++ [f]).length = l.length + 1 by simp] at hm2
  have H1 := hide (And.intro hq (And.intro hC (And.intro hloc hB1)))
  clear hq hC hloc hm1 hc hf hB1
  go_wp2_with fail
  refine (qlen_any (l.length + 1) cap (some ⟨g, 0, none⟩) w1).mono ?_
  rintro e w2 ⟨rfl, rfl⟩
  have hw1 : IntKind.i64.wrap ((l.length : Int) + 1 - 1) = (l.length : Int) := by rw [i64_id _ (by omega) (by omega)]; omega
  go_wp2_with fail
  refine (up_any nb o g cap l.length (l.length + 1) bl (l ++ [f]) w2 (unhide H1).1 (by simp) (by omega) (by simp; omega)).mono ?_
  rintro e w3 ⟨rfl, hq3, hC3⟩
  have H3 := hide (And.intro hq3 hC3)
  clear hq3 hC3
  go_wp2
  go_end0
  obtain ⟨hq, hC, hloc, hB1⟩ := unhide H1
  obtain ⟨hq3, hC3⟩ := unhide H3
  refine ⟨rfl, g, cap, hq3, hC.trans hC3 (fun k hk e => ?_), hloc, hB1.chg hC3 hq.ne⟩
  subst e
  rcases hloc with e | e
  · exact .inr e
  · omega

set_option maxHeartbeats 800000 in
theorem hpop_any (nb o g cap n : Nat) (bl : Nat → Nat) (l : List FlyM) (cs : Array Value) (tn : TypeId) (w : World) (hB : Blk w nb cs tn) (h : QP w nb o g cap bl l) (hn : l.length = n + 1) (hlen : n + 1 ≤ 1000000) :
    Calls Tryz.prog 78 #[.iface 125 (.pointer (some ⟨nb, o, none⟩))] w fun e w' => e = .returned (.iface 127 (.agg (pcl bl (fl l 0)).toArray)) ∧ QP w' nb o g cap bl (popL l) ∧ Chg (fun k => k = nb ∨ k = g) w w' ∧ Blk w' nb (cs.setIfInBounds o (.slice (some ⟨g, 0, none⟩) n cap)) tn := by
  have hm1 := mLen ⟨nb, o, none⟩ w _ (loadQ nb o w _ h.cell)
  have hm2 := mSwap ⟨nb, o, none⟩ w _ (loadQ nb o w _ h.cell)
  rw [hn] at hm1 hm2
  have HQ := hide h
  have HBk := hide hB
  clear h hB
  have hw1 : IntKind.i64.wrap ((n : Int) + 1 - 1) = (n : Int) := by rw [i64_id _ (by omega) (by omega)]; omega
  go_enter Tryz.func78, Tryz.ntmps78
  go_wp2_with fail
  refine (qlen_any (n + 1) cap (some ⟨g, 0, none⟩) w).mono ?_
  rintro e w1 ⟨rfl, rfl⟩
  go_wp2_with fail
  have hsw := qswap_any g cap 0 n bl l w1 (unhide HQ).q (by omega) (by omega)
  rw [hn] at hsw
  refine hsw.mono ?_
  clear hsw
  rintro e w2 ⟨rfl, hq2, hC2⟩
  have Q2 := (unhide HQ).chg hC2 hq2 (swapL_len _ _ _)
  have H2 := hide (And.intro Q2 hC2)
  clear hq2 hC2 Q2 hm1 hm2
  go_wp2_with fail
  refine (down_any nb o g cap n l.length bl (swapL l 0 n) w2 (unhide H2).1 (by rw [swapL_len]; omega) (by omega) (by rw [swapL_len]; omega)).mono ?_
  rintro e w3 ⟨⟨v3, rfl⟩, hq3, hC3⟩
  have hm3 := mPop ⟨nb, o, none⟩ w3
  have H3 := hide (And.intro hq3 hC3)
  clear hq3 hC3
  go_wp2_with fail
  refine (qpop_any nb o g cap n bl (downL l.length (swapL l 0 n) 0 n) cs tn w3 (((unhide HBk).chg (unhide H2).2 (unhide HQ).ne).chg (unhide H3).2 (unhide HQ).ne) (unhide H3).1 (by rw [downL_len, swapL_len]; exact hn) (by omega)).mono ?_
  rintro e w4 ⟨rfl, hq4, hC4, hB4⟩
  have H4 := hide (And.intro hq4 (And.intro hC4 hB4))
  clear hq4 hC4 hB4
  go_wp2
  go_ret
  obtain ⟨_, hC2⟩ := unhide H2
  obtain ⟨_, hC3⟩ := unhide H3
  obtain ⟨hq4, hC4, hB4⟩ := unhide H4
  have e1 : fl (downL l.length (swapL l 0 n) 0 n) n = fl l 0 := by
    rw [downL_rest _ _ _ _ _ (by rw [swapL_len]; omega) (Nat.le_refl _), swapL_get _ _ _ _ (by omega) (by omega), if_pos rfl]
  have e2 : popL l = (downL l.length (swapL l 0 n) 0 n).take n := by unfold popL; rw [hn]; simp
  refine ⟨?_, by rw [e2]; exact hq4, ((hC2.mono (F := fun k => k = nb ∨ k = g) (fun k _ e => .inr e)).trans hC3 (fun k _ e => .inr e)).trans hC4 (fun k _ e => e), hB4⟩
  rw [← e1, hn]; rfl
end Go.Proofs.YtandblanpafjoabGreatDoor
