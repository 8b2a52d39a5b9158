import Derived.Test.YtandblanpafjoaaGreatDoorPack07
import Derived.Test.YtandblanpafjoaaGreatDoorPack01
import Derived.Maps.AppendAt
namespace Go.Proofs.YtandblanpafjoaaGreatDoor
open Go.RowKit Go.Extern.Stop Go.Stop Go.Extern
def zPcl : List Value := [.int .i64 0, .int .i64 0, .slice none 0 0, .int .i64 0]
theorem Tryz.infoPcl : (Tryz.prog.info? 126).map (fun i => (i.zero, i.size, i.bytes)) = some (some (.agg #[.int .i64 0, .int .i64 0, .slice none 0 0, .int .i64 0]), 4, 48) := by kernel_rfl
theorem QAt.cut {w : World} {g cap : Nat} {bl : Nat → Nat} {l : List FlyM} (h : QAt w g cap bl l) {n : Nat} (hn : n ≤ l.length) (vs : List Value) (hv : vs.length = 4) (hc : n < cap) : QAt (w.setCells g (n * 4) vs) g cap bl (l.take n) := by
  obtain ⟨cs, hb, hs, ht⟩ := h.blk
  refine ⟨⟨_, hb.setCells _ _, by rw [putA_toList]; exact hs, ?_⟩, h.big, by have := h.cap; simp; omega⟩
  have hl : (l.take n).length = n := by simp; omega
  have hp : pcls bl (l.take n) = (pcls bl l).take (n * 4) := by
    have h1 := pcls_append bl (l.take n) (l.drop n)
    rw [List.take_append_drop] at h1
    rw [h1, List.take_append_of_le_length (by rw [pcls_len, hl]; omega)]
    exact (List.take_of_length_le (by rw [pcls_len, hl]; omega)).symm
  rw [hl, hp, ← ht, List.take_take, Nat.min_eq_left (by omega)]
  apply List.ext_getElem?
  intro k
  rw [List.getElem?_take, List.getElem?_take]
  split
  · rw [Array.getElem?_toList, putA_get vs (n * 4) cs k (by omega), if_neg (by omega), Array.getElem?_toList]
  · rfl
theorem Tryz.assertP (v : Value) (w : World) : (Instr.typeAssert (.iface 126 v) 20 126 false).run Tryz.prog w = .ok v w := by kernel_rfl
theorem QAt.ofOwn {w : World} {v : Value} {bl : Nat → Nat} {l : List FlyM} {n : Nat} (h : w.ownsRow 0 126 4 v n (pcls bl l)) (hn : n = l.length) (hl : 0 < n) : ∃ g cap, v = .slice (some ⟨g, 0, none⟩) n cap ∧ QAt w g cap bl l := by
  obtain ⟨_, h2⟩ := h
  rcases h2 with ⟨_, h0⟩ | ⟨g, cap, cur, e, _, hg, hc, hm, hs, ht⟩
  · omega
  · exact ⟨g, cap, e, ⟨cur, hg, hs, by rw [← hn]; exact ht⟩, hm, by rw [← hn]; exact hc⟩
theorem QAt.own {w : World} {g cap : Nat} {bl : Nat → Nat} {l : List FlyM} (h : QAt w g cap bl l) : w.ownsRow 0 126 4 (.slice (some ⟨g, 0, none⟩) l.length cap) l.length (pcls bl l) := by
  obtain ⟨cs, hb, hs, ht⟩ := h.blk
  exact ⟨by rw [pcls_len]; omega, .inr ⟨g, cap, cs, rfl, Nat.zero_le _, hb, h.cap, h.big, hs, ht⟩⟩
theorem cell_set_self {w : World} {nb o : Nat} {u : Value} (v : Value) (h : w.cell? ⟨nb, o, none⟩ = some u) : (w.setCell ⟨nb, o, none⟩ v).cell? ⟨nb, o, none⟩ = some v := World.cell?_setCell_same _ _ _ h
/-- The queue's slice is laid anew into its cell. -/
theorem QAt.laid {w : World} {nb o g cap : Nat} {bl : Nat → Nat} {l : List FlyM} (h : QAt w g cap bl l) {u : Value} (hc : w.cell? ⟨nb, o, none⟩ = some u) (hf : w.frozen? ⟨nb, o, none⟩ = false) (hne : nb ≠ g) {n : Nat} (hn : l.length = n) : QP (w.setCell ⟨nb, o, none⟩ (.slice (some ⟨g, 0, none⟩) n cap)) nb o g cap bl l :=
  ⟨by rw [hn]; exact cell_set_self _ hc, h.same (heap_setCell_other _ _ _ _ (fun e => hne e.symm)), hne, by simpa using hf⟩
set_option maxRecDepth 10000 in
set_option maxHeartbeats 800000 in
theorem qpop_any (nb o g cap n : Nat) (bl : Nat → Nat) (l : List FlyM) (cs : Array Value) (tn : TypeId) (w : World) (hB : Blk w nb cs tn) (h : QP w nb o g cap bl l) (hn : l.length = n + 1) (hlen : n ≤ 1000000) :
    Calls Tryz.prog 181 #[.pointer (some ⟨nb, o, none⟩)] w fun e w' => e = .returned (.iface 126 (.agg (pcl bl (fl l n)).toArray)) ∧ QP w' nb o g cap bl (l.take n) ∧ Chg (fun k => k = nb ∨ k = g) w w' ∧ Blk w' nb (cs.setIfInBounds o (.slice (some ⟨g, 0, none⟩) n cap)) tn := by
  have hc := h.cell
  rw [hn] at hc
  have hq := h.q
  have a0 : w.cell? ⟨g, n * 4, none⟩ = some (.int .i64 ((fl l n).to : Int)) := hq.cell n 0 (by omega) (by omega)
  have a1 : w.cell? ⟨g, n * 4 + 1, none⟩ = some (.int .i64 ((fl l n).due : Int)) := hq.cell n 1 (by omega) (by omega)
  have a2 : w.cell? ⟨g, n * 4 + 2, none⟩ = some (.slice (some ⟨bl (fl l n).num, 0, none⟩) (fl l n).bytes.length (fl l n).bytes.length) := hq.cell n 2 (by omega) (by omega)
  have a3 : w.cell? ⟨g, n * 4 + 3, none⟩ = some (.int .i64 ((fl l n).num : Int)) := hq.cell n 3 (by omega) (by omega)
  have hw1 : IntKind.i64.wrap ((n : Int) + 1 - 1) = (n : Int) := by rw [i64_id _ (by omega) (by omega)]; omega
  have n0 : (0 : Int) ≤ (n : Int) := by omega
  have n1 : (n : Int) < (n : Int) + 1 := by omega
  have hcap := hq.cap
  have n2 : (n : Int) ≤ (cap : Int) := by omega
  have hgl := hq.lt
  have hnl := h.lt
  have hne1 : ¬ nb = g := h.ne
  have hne2 : ¬ g = nb := fun e => h.ne e.symm
  have hfr := h.fro
  have ht := hq.there (i := n) (by omega)
  have HQ := hide h
  have HBk := hide hB
  clear h hq hB
  have f0 : w.frozen? ⟨g, n * 4, none⟩ = false := (ht 0 (by omega)).2
  have f1 : w.frozen? ⟨g, n * 4 + 1, none⟩ = false := (ht 1 (by omega)).2
  have f2 : w.frozen? ⟨g, n * 4 + 2, none⟩ = false := (ht 2 (by omega)).2
  have f3 : w.frozen? ⟨g, n * 4 + 3, none⟩ = false := (ht 3 (by omega)).2
  clear ht
  go_enter Tryz.func181, Tryz.ntmps181
  go_wp2
  go_ret
  have h := unhide HQ
  have hq1 := h.q.cut (n := n) (by omega) zPcl rfl (by omega)
  have hcell : (w.setCells g (n * 4) zPcl).cell? ⟨nb, o, none⟩ = some (.slice (some ⟨g, 0, none⟩) (n + 1) cap) := (World.cell?_of_block (a := ⟨nb, o, none⟩) (heap_setCells_other hne1 _ _ _)).trans hc
  have hfro : (w.setCells g (n * 4) zPcl).frozen? ⟨nb, o, none⟩ = false := (World.frozen?_of_block (a := ⟨nb, o, none⟩) (heap_setCells_other hne1 _ _ _)).trans hfr
  have hq2 := hq1.laid hcell hfro hne1 (n := n) (by simp; omega)
  exact ⟨rfl, hq2.below ((Below.refl _ _).alloc (Nat.le_refl _) _), (((Chg.refl (fun k => k = nb ∨ k = g) w).thenCells g (n * 4) zPcl (.inr rfl)).thenCell nb o _ (.inl rfl)).trans (Chg.alloc _ _ _) (fun _ _ h => h), ((show Blk (w.setCells g (n * 4) zPcl) nb cs tn from (heap_setCells_other hne1 _ _ _).trans (unhide HBk)).set o _).alloc _⟩
set_option maxRecDepth 10000 in
set_option maxHeartbeats 1600000 in
theorem qpush_any (nb o : Nat) (bl : Nat → Nat) (l : List FlyM) (f : FlyM) (v : Value) (cs : Array Value) (tn : TypeId) (w : World) (hB : Blk w nb cs tn) (hc : w.cell? ⟨nb, o, none⟩ = some v) (hf : w.frozen? ⟨nb, o, none⟩ = false) (hown : w.ownsRow 0 126 4 v l.length (pcls bl l)) (hne : v.ownBlock ≠ some nb) (hlen : l.length ≤ 1000000) :
    Calls Tryz.prog 182 #[.pointer (some ⟨nb, o, none⟩), .iface 126 (.agg (pcl bl f).toArray)] w fun e w' => e = .returned (.tuple #[]) ∧ ∃ g cap, QP w' nb o g cap bl (l ++ [f]) ∧ Chg (fun k => k = nb ∨ v.ownBlock = some k) w w' ∧ (v.ownBlock = some g ∨ w.heap.size ≤ g) ∧ Blk w' nb (cs.setIfInBounds o (.slice (some ⟨g, 0, none⟩) (l.length + 1) cap)) tn := by
  obtain ⟨i8, hi8, hz0, hz1, hz2⟩ := info_parts Tryz.infoPcl
  have hnl : nb < w.heap.size := World.block_lt_of_cell? w _ hc
  have HO := hide hown
  have HBk := hide hB
  clear hown hB
  go_enter Tryz.func182, Tryz.ntmps182
  go_wp2_with fail
  refine wp_region_noPanic ?_
  refine wp_held_tail 6 8 (fun W' => W'.cell? ⟨nb, o, none⟩ = some v) (by kernel_rfl) (by decide) (by kernel_rfl) (by kernel_rfl) (by kernel_rfl) (fun _ _ _ _ _ h => h) hc ?_
  simp only [List.take_succ_cons, List.take_zero, List.drop_succ_cons, List.drop_zero]
  refine wpHeld_op ?y0 rfl ?z0 ?_
  case z0 => intro w' hS; go_simp; rfl
  refine wpHeld_op ?y1 rfl ?z1 ?_
  case z1 => intro w' hS; go_simp; rfl
  refine wpHeld_op ?y2 rfl ?z2 ?_
  case z2 => intro w' hS; go_simp; rfl
  refine wpHeld_op ?y3 rfl ?z3 ?_
  case z3 => intro w' hS; go_simp; rfl
  refine wpHeld_op ?y4 rfl ?z4 ?_
  case z4 => intro w' hS; go_simp; rfl
  refine wpHeld_op (.agg (pcl bl f).toArray) rfl ?z5 ?_
  case z5 => intro w' hS; have hta := Tryz.assertP (.agg (pcl bl f).toArray); go_simp
  unfold wpHeld
  refine wpAnyH_all (rs := [6]) (by kernel_rfl) (by simp) ?_
  intro j hj
  obtain rfl : j = 6 := by simpa using hj
  refine wpOp_of_list _ rfl rfl ?_
  have hBa : Below w.heap.size w (w.drew.alloc (.cells (pcl bl f).toArray 126)) := (Below.refl _ w).drew.alloc (Nat.le_refl _) _
  unfold pcl
  go_wp2_with fail
  have hcA : (w.drew.alloc (.cells (pcl bl f).toArray 126)).cell? ⟨nb, o, none⟩ = some v := (hBa.cell (p := ⟨nb, o, none⟩) hnl).trans hc
  refine ⟨hcA, ?_⟩
  refine wpAnyH_all (rs := [7]) (by kernel_rfl) (by simp) ?_
  intro j hj
  obtain rfl : j = 7 := by simpa using hj
  refine wpOp_of_list _ rfl rfl ?_
  go_simp
  have hown := unhide HO
  have hownA : (w.drew.alloc (.cells (pcl bl f).toArray 126)).ownsRow 0 126 4 v l.length (pcls bl l) := owns_same hown (fun k hk => hBa.block k (by have := hown.lt k hk; omega))
  have hnews : ∀ j u, (pcl bl f)[j]? = some u → (w.drew.alloc (.cells (pcl bl f).toArray 126)).cell? ((⟨w.heap.size, 0, none⟩ : Addr).add j) = some u := fun j u hj => by
    have hb := Blk.new w.drew (pcl bl f).toArray 126
    rw [Addr.add_mid, Nat.zero_add, show w.heap.size = w.drew.heap.size from rfl, hb.cell]
    simpa using hj
  refine wpList_append_own_at (w.drew.alloc (.cells (pcl bl f).toArray 126)) rfl (.tmp 7) (.tmp 10) 62 rfl 0 126 i8 _ 4 48 Tryz.underlying62 hi8 hz0 hz1 hz2 rfl (by decide) v _ _ rfl hownA ⟨w.heap.size, 0, none⟩ 1 1 (pcl bl f) rfl rfl hnews (by intro u hu; simp [pcl] at hu; rcases hu with rfl | rfl | rfl | rfl <;> rfl) (by unfold maxLen; omega) (by omega) (Nat.zero_le _) ?_
  intro v' w3 hown3 hg3 hnil3 hloc3
  rw [show pcls bl l ++ pcl bl f = pcls bl (l ++ [f]) by rw [pcls_append]; simp [pcls]] at hown3
  obtain ⟨g', cap', rfl, hq3⟩ := QAt.ofOwn hown3 (by simp) (by omega)
  have hdz : (w.drew.alloc (.cells (pcl bl f).toArray 126)).heap.size = w.heap.size + 1 := by simp
  have hb3 : w3.heap[nb]? = w.heap[nb]? := (hg3.block nb (by omega) (Ne.symm hne)).trans (hBa.block nb hnl)
  have hc3 : w3.cell? ⟨nb, o, none⟩ = some v := (World.cell?_of_block (a := ⟨nb, o, none⟩) hb3).trans hc
  have hf3 : w3.frozen? ⟨nb, o, none⟩ = false := (World.frozen?_of_block (a := ⟨nb, o, none⟩) hb3).trans hf
  have hgn : nb ≠ g' := by
    rcases hloc3 with e | e
    · intro h; rw [h] at hne; exact hne e.symm
    · intro h; injection e with e; have : g' = w.heap.size + 1 := by rw [← hdz]; exact e
      omega
  refine ⟨hc3, ⟨by kernel_rfl, ?_⟩⟩
  have hgloc : v.ownBlock = some g' ∨ w.heap.size ≤ g' := by
    rcases hloc3 with e | e
    · exact .inl e.symm
    · right; injection e with e; have : g' = w.heap.size + 1 := by rw [← hdz]; exact e
      omega
  have hC3 : Chg (fun k => k = nb ∨ v.ownBlock = some k) w w3 := ⟨hg3.os.trans hBa.os, hg3.tape.trans hBa.tape, hg3.output.trans hBa.output, Nat.le_trans hBa.size hg3.size, fun k hk hF => (hg3.block k (by omega) (fun e => hF (.inr e.symm))).trans (hBa.block k hk)⟩
  have hB3 : Blk w3 nb cs tn := hb3.trans (unhide HBk)
  have HZ := hide (And.intro hC3 (And.intro hgloc (And.intro hq3 (And.intro hgn hB3))))
  clear hown3 hg3 hnil3 hloc3 hownA hnews hown hBa hcA hdz hb3 hC3 hgloc hq3 hgn hB3
  change wpList _ _ _ _ _ _
  go_wp2_with fail
  refine NoPanic.normal ?_
  go_wp2
  go_end0
  obtain ⟨hC3, hgloc, hq3, hgn, hB3⟩ := unhide HZ
  exact ⟨rfl, g', cap', hq3.laid hc3 hf3 hgn (by simp), hC3.thenCell nb o _ (.inl rfl), hgloc, hB3.set o _⟩
end Go.Proofs.YtandblanpafjoaaGreatDoor

namespace Go.Proofs.YtandblanpafjoaaGreatDoor
open Go.RowKit Go.Extern.Stop Go.Stop Go.Extern
theorem QP.own {w : World} {nb o g cap : Nat} {bl : Nat → Nat} {l : List FlyM} (h : QP w nb o g cap bl l) : w.ownsRow 0 126 4 (.slice (some ⟨g, 0, none⟩) l.length cap) l.length (pcls bl l) := h.q.own
set_option maxHeartbeats 800000 in
theorem hpush_any (nb o : Nat) (bl : Nat → Nat) (l : List FlyM) (f : FlyM) (v : Value) (cs : Array Value) (tn : TypeId) (w : World) (hB : Blk w nb cs tn) (hc : w.cell? ⟨nb, o, none⟩ = some v) (hf : w.frozen? ⟨nb, o, none⟩ = false) (hown : w.ownsRow 0 126 4 v l.length (pcls bl l)) (hne : v.ownBlock ≠ some nb) (hlen : l.length + 1 ≤ 1000000) :
    Calls Tryz.prog 62 #[.iface 124 (.pointer (some ⟨nb, o, none⟩)), .iface 126 (.agg (pcl bl f).toArray)] w fun e w' => e = .returned (.tuple #[]) ∧ ∃ g cap, QP w' nb o g cap bl (pushL l f) ∧ Chg (fun k => k = nb ∨ v.ownBlock = some k) w w' ∧ (v.ownBlock = some g ∨ w.heap.size ≤ g) ∧ Blk w' nb (cs.setIfInBounds o (.slice (some ⟨g, 0, none⟩) (l.length + 1) cap)) tn := by
  have hm1 := mPush ⟨nb, o, none⟩ w
  have HO := hide (And.intro hown hB)
  clear hown hB
  go_enter Tryz.func62, Tryz.ntmps62
  go_wp2_with fail
  refine (qpush_any nb o bl l f v cs tn w (unhide HO).2 hc hf (unhide HO).1 hne (by omega)).mono ?_
  rintro e w1 ⟨rfl, g, cap, hq, hC, hloc, hB1⟩
  have hm2 := mLen ⟨nb, o, none⟩ w1 _ (loadQ nb o w1 _ hq.cell)
  rw [show (l ++ [f]).length = l.length + 1 by simp] at hm2
  have H1 := hide (And.intro hq (And.intro hC (And.intro hloc hB1)))
  clear hq hC hloc hm1 hc hf hB1
  go_wp2_with fail
  refine (qlen_any (l.length + 1) cap (some ⟨g, 0, none⟩) w1).mono ?_
  rintro e w2 ⟨rfl, rfl⟩
  have hw1 : IntKind.i64.wrap ((l.length : Int) + 1 - 1) = (l.length : Int) := by rw [i64_id _ (by omega) (by omega)]; omega
  go_wp2_with fail
  refine (up_any nb o g cap l.length (l.length + 1) bl (l ++ [f]) w2 (unhide H1).1 (by simp) (by omega) (by simp; omega)).mono ?_
  rintro e w3 ⟨rfl, hq3, hC3⟩
  have H3 := hide (And.intro hq3 hC3)
  clear hq3 hC3
  go_wp2
  go_end0
  obtain ⟨hq, hC, hloc, hB1⟩ := unhide H1
  obtain ⟨hq3, hC3⟩ := unhide H3
  refine ⟨rfl, g, cap, hq3, hC.trans hC3 (fun k hk e => ?_), hloc, hB1.chg hC3 hq.ne⟩
  subst e
  rcases hloc with e | e
  · exact .inr e
  · omega
set_option maxHeartbeats 800000 in
theorem hpop_any (nb o g cap n : Nat) (bl : Nat → Nat) (l : List FlyM) (cs : Array Value) (tn : TypeId) (w : World) (hB : Blk w nb cs tn) (h : QP w nb o g cap bl l) (hn : l.length = n + 1) (hlen : n + 1 ≤ 1000000) :
    Calls Tryz.prog 84 #[.iface 124 (.pointer (some ⟨nb, o, none⟩))] w fun e w' => e = .returned (.iface 126 (.agg (pcl bl (fl l 0)).toArray)) ∧ QP w' nb o g cap bl (popL l) ∧ Chg (fun k => k = nb ∨ k = g) w w' ∧ Blk w' nb (cs.setIfInBounds o (.slice (some ⟨g, 0, none⟩) n cap)) tn := by
  have hm1 := mLen ⟨nb, o, none⟩ w _ (loadQ nb o w _ h.cell)
  have hm2 := mSwap ⟨nb, o, none⟩ w _ (loadQ nb o w _ h.cell)
  rw [hn] at hm1 hm2
  have HQ := hide h
  have HBk := hide hB
  clear h hB
  have hw1 : IntKind.i64.wrap ((n : Int) + 1 - 1) = (n : Int) := by rw [i64_id _ (by omega) (by omega)]; omega
  go_enter Tryz.func84, Tryz.ntmps84
  go_wp2_with fail
  refine (qlen_any (n + 1) cap (some ⟨g, 0, none⟩) w).mono ?_
  rintro e w1 ⟨rfl, rfl⟩
  go_wp2_with fail
  have hsw := qswap_any g cap 0 n bl l w1 (unhide HQ).q (by omega) (by omega)
  rw [hn] at hsw
  refine hsw.mono ?_
  clear hsw
  rintro e w2 ⟨rfl, hq2, hC2⟩
  have Q2 := (unhide HQ).chg hC2 hq2 (swapL_len _ _ _)
  have H2 := hide (And.intro Q2 hC2)
  clear hq2 hC2 Q2 hm1 hm2
  go_wp2_with fail
  refine (down_any nb o g cap n l.length bl (swapL l 0 n) w2 (unhide H2).1 (by rw [swapL_len]; omega) (by omega) (by rw [swapL_len]; omega)).mono ?_
  rintro e w3 ⟨⟨v3, rfl⟩, hq3, hC3⟩
  have hm3 := mPop ⟨nb, o, none⟩ w3
  have H3 := hide (And.intro hq3 hC3)
  clear hq3 hC3
  go_wp2_with fail
  refine (qpop_any nb o g cap n bl (downL l.length (swapL l 0 n) 0 n) cs tn w3 (((unhide HBk).chg (unhide H2).2 (unhide HQ).ne).chg (unhide H3).2 (unhide HQ).ne) (unhide H3).1 (by rw [downL_len, swapL_len]; exact hn) (by omega)).mono ?_
  rintro e w4 ⟨rfl, hq4, hC4, hB4⟩
  have H4 := hide (And.intro hq4 (And.intro hC4 hB4))
  clear hq4 hC4 hB4
  go_wp2
  go_ret
  obtain ⟨_, hC2⟩ := unhide H2
  obtain ⟨_, hC3⟩ := unhide H3
  obtain ⟨hq4, hC4, hB4⟩ := unhide H4
  have e1 : fl (downL l.length (swapL l 0 n) 0 n) n = fl l 0 := by
    rw [downL_rest _ _ _ _ _ (by rw [swapL_len]; omega) (Nat.le_refl _), swapL_get _ _ _ _ (by omega) (by omega), if_pos rfl]
  have e2 : popL l = (downL l.length (swapL l 0 n) 0 n).take n := by unfold popL; rw [hn]; simp
  refine ⟨?_, by rw [e2]; exact hq4, ((hC2.mono (F := fun k => k = nb ∨ k = g) (fun k _ e => .inr e)).trans hC3 (fun k _ e => .inr e)).trans hC4 (fun k _ e => e), hB4⟩
  rw [← e1, hn]; rfl
end Go.Proofs.YtandblanpafjoaaGreatDoor

namespace Go.Proofs.YtandblanpafjoaaGreatDoor
open Go.RowKit Go.Extern.Stop Go.Stop Go.Extern
structure WireAt (w : World) (nb : Nat) (pv : Value) (lags : List Int) (now sent : Nat) (lv wv : Value) (bl : Nat → Nat) (l : List FlyM) : Prop where
  blk : Blk w nb #[pv, lv, .int .i64 (now : Int), .int .i64 (sent : Int), wv] 66
  own : w.ownsRow 0 126 4 wv l.length (pcls bl l)
  ne : wv.ownBlock ≠ some nb
  lag : w.ownsRow 0 3 1 lv lags.length (lags.map (Value.int .i64))
  lne : lv.ownBlock ≠ some nb
  apart : ∀ k, lv.ownBlock = some k → wv.ownBlock ≠ some k
theorem WireAt.same {w w' : World} {nb : Nat} {pv : Value} {lags : List Int} {now sent : Nat} {lv wv : Value} {bl : Nat → Nat} {l : List FlyM} (h : WireAt w nb pv lags now sent lv wv bl l) (hs : ∀ k, k = nb ∨ lv.ownBlock = some k ∨ wv.ownBlock = some k → w'.heap[k]? = w.heap[k]?) : WireAt w' nb pv lags now sent lv wv bl l :=
  ⟨(hs nb (.inl rfl)).trans h.blk, owns_same h.own (fun k hk => hs k (.inr (.inr hk))), h.ne, owns_same h.lag (fun k hk => hs k (.inr (.inl hk))), h.lne, h.apart⟩
theorem WireAt.lts {w : World} {nb : Nat} {pv : Value} {lags : List Int} {now sent : Nat} {lv wv : Value} {bl : Nat → Nat} {l : List FlyM} (h : WireAt w nb pv lags now sent lv wv bl l) : ∀ k, k = nb ∨ lv.ownBlock = some k ∨ wv.ownBlock = some k → k < w.heap.size := by
  rintro k (rfl | hk | hk)
  · exact h.blk.lt
  · exact (h.lag.lt k hk).2
  · exact (h.own.lt k hk).2
def lagI (lags : List Int) (sent : Nat) : Int := if lags = [] then 1 else lags.getD (sent % lags.length) 0
theorem own_ints {w : World} {B : Nat} {v : Value} {l : List Int} (h : w.ownsRow B 3 1 v l.length (l.map (Value.int .i64))) (hl : 0 < l.length) : ∃ g cap, v = .slice (some ⟨g, 0, none⟩) l.length cap ∧ ∀ j, j < l.length → w.cell? ⟨g, j, none⟩ = some (.int .i64 (l.getD j 0)) := by
  obtain ⟨h1, h2⟩ := h
  rcases h2 with ⟨e, h0⟩ | ⟨g, cap, cur, e, hB, hg, hc, _, hs, ht⟩
  · omega
  · refine ⟨g, cap, e, fun j hj => ?_⟩
    rw [cell_of_row w g j cur 3 (0, 0) hg]
    have := congrArg (fun l => l[j]?) ht
    simp only [Nat.mul_one, List.getElem?_take, hj, if_true, Array.getElem?_toList, List.getElem?_map] at this
    rw [this]
    simp [hj]
theorem own_nil {w : World} {B s : Nat} {e : TypeId} {v : Value} {xs : List Value} {n : Nat} (h : w.ownsRow B e s v n xs) : ∃ ao c, v = .slice ao n c := by
  obtain ⟨h1, h2⟩ := h
  rcases h2 with ⟨e, h0⟩ | ⟨g, cap, cur, e, _⟩
  · exact ⟨none, 0, by rw [h0]; exact e⟩
  · exact ⟨_, cap, e⟩
set_option maxRecDepth 10000 in
set_option maxHeartbeats 800000 in
theorem lag_any (nb : Nat) (pv : Value) (lags : List Int) (now sent : Nat) (lv wv : Value) (bl : Nat → Nat) (l : List FlyM) (w : World) (h : WireAt w nb pv lags now sent lv wv bl l) (hs : sent ≤ 10000000) :
    Calls Tryz.prog 61 #[.pointer (some ⟨nb, 1, none⟩)] w fun e w' => e = .returned (.int .i64 (lagI lags sent)) ∧ Below w.heap.size w w' := by
  have c1 : w.cell? ⟨nb, 1, none⟩ = some lv := h.blk.cell 1
  have c3 : w.cell? ⟨nb, 3, none⟩ = some (.int .i64 (sent : Int)) := h.blk.cell 3
  have hlag := h.lag
  clear h
  by_cases h0 : lags.length = 0
  · have e0 : lags = [] := List.length_eq_zero_iff.1 h0
    have hlg : lagI lags sent = 1 := by unfold lagI; rw [if_pos e0]
    obtain ⟨ao, c, rfl⟩ := own_nil hlag
    rw [hlg]
    rw [h0] at c1
    clear hlag h0 e0 hlg
    go_enter Tryz.func61, Tryz.ntmps61
    go_wp2
    go_ret
    exact ⟨rfl, Below.refl _ _⟩
  · obtain ⟨g, c, rfl, hcells⟩ := own_ints hlag (by omega)
    obtain ⟨m, hm⟩ : ∃ m, sent % lags.length = m := ⟨_, rfl⟩
    have hmL : m < lags.length := by rw [← hm]; exact Nat.mod_lt _ (by omega)
    have hms : m ≤ sent := by rw [← hm]; exact Nat.mod_le _ _
    have hlg : lagI lags sent = lags.getD m 0 := by
      unfold lagI
      rw [if_neg (fun e => h0 (by rw [e]; rfl)), hm]
    have hmod : (sent : Int) % (lags.length : Int) = (m : Int) := by rw [← hm, Int.natCast_emod]
    have hmod2 : (sent : Int).tmod (lags.length : Int) = (m : Int) := by rw [Int.tmod_eq_emod_of_nonneg (by omega), hmod]
    have cm := hcells m hmL
    rw [hlg]
    generalize lags.getD m 0 = z at *
    generalize lags.length = L at *
    have hd : ((L : Int) == 0) = false := by rw [beq_eq_false_iff_ne]; omega
    have hL0 : ¬ L = 0 := h0
    have hL1 : ¬ (L : Int) = 0 := by omega
    have m0 : (0 : Int) ≤ (m : Int) := by omega
    have m1 : (m : Int) < (L : Int) := by omega
    have hwm := i64_id (m : Int) (by omega) (by omega)
    clear hlag hcells h0 hlg hm
    go_enter Tryz.func61, Tryz.ntmps61
    go_wp2_with fail
    refine wp_moves_reads_tail0 16 (by kernel_rfl) (by kernel_rfl) (by kernel_rfl) (by kernel_rfl) ?_
    simp only [List.take_succ_cons, List.take_zero, List.drop_succ_cons, List.drop_zero]
    repeat still_step
    refine wpStill_nil ?_
    go_wp2
    go_ret
    exact ⟨rfl, (Below.refl _ w).drew⟩
set_option maxHeartbeats 400000 in
theorem pass_any (nb : Nat) (pv : Value) (lags : List Int) (now sent : Nat) (lv wv : Value) (bl : Nat → Nat) (l : List FlyM) (w : World) (h : WireAt w nb pv lags now sent lv wv bl l) (hn : now ≤ 10000000) :
    Calls Tryz.prog 30 #[.pointer (some ⟨nb, 1, none⟩)] w fun e w' => e = .returned (.tuple #[]) ∧ WireAt w' nb pv lags (now + 1) sent lv wv bl l ∧ Chg (fun k => k = nb) w w' := by
  have c2 : w.cell? ⟨nb, 2, none⟩ = some (.int .i64 (now : Int)) := h.blk.cell 2
  have f2 : w.frozen? ⟨nb, 2, none⟩ = false := h.blk.frozen 2
  have hw := i64_id ((now : Int) + 1) (by omega) (by omega)
  have HW := hide h
  clear h
  go_enter Tryz.func30, Tryz.ntmps30
  go_wp2
  go_end0
  have h := unhide HW
  have hb := h.blk.set 2 (.int .i64 ((now : Int) + 1))
  refine ⟨rfl, ⟨?_, owns_same h.own (fun k hk => heap_setCell_other _ _ _ _ (fun e => h.ne (by rw [hk, e]))), h.ne, owns_same h.lag (fun k hk => heap_setCell_other _ _ _ _ (fun e => h.lne (by rw [hk, e]))), h.lne, h.apart⟩, Chg.setCell w nb 2 _ rfl⟩
  rw [show ((now + 1 : Nat) : Int) = (now : Int) + 1 by omega]
  exact hb
end Go.Proofs.YtandblanpafjoaaGreatDoor

namespace Go.Proofs.YtandblanpafjoaaGreatDoor
open Go.RowKit Go.Extern.Stop Go.Stop Go.Extern
def putB (bl : Nat → Nat) (n b : Nat) : Nat → Nat := fun k => if k = n then b else bl k
theorem pcls_put {bl : Nat → Nat} {l : List FlyM} {n b : Nat} (h : ∀ f ∈ l, f.num < n) : pcls (putB bl n b) l = pcls bl l := pcls_congr (fun f hf => by have := h f hf; simp [putB]; omega)
def sentL (l : List FlyM) (lag : Int) (f : FlyM) : List FlyM := if 0 ≤ lag then pushL l f else l
set_option maxRecDepth 10000 in
set_option maxHeartbeats 1600000 in
theorem send_any (nb : Nat) (pv : Value) (lags : List Int) (now sent : Nat) (lv wv : Value) (bl : Nat → Nat) (l : List FlyM) (w : World) (h : WireAt w nb pv lags now sent lv wv bl l) (hs : sent ≤ 900000) (hn : now ≤ 900000) (hlen : l.length + 1 ≤ 1000000) (hlg : -1 ≤ lagI lags sent ∧ lagI lags sent ≤ 20)
    (q bb : Nat) (b : List Int) (hnum : ∀ f ∈ l, f.num < sent) :
    Calls Tryz.prog 33 #[.pointer (some ⟨nb, 1, none⟩), .int .i64 (q : Int), .slice (some ⟨bb, 0, none⟩) b.length b.length] w fun e w' => e = .returned (.tuple #[]) ∧ ∃ wv', WireAt w' nb pv lags now (sent + 1) lv wv' (putB bl sent bb) (sentL l (lagI lags sent) { to := q, due := now + (lagI lags sent).toNat, num := sent, bytes := b }) ∧
      Chg (fun k => k = nb ∨ wv.ownBlock = some k) w w' ∧ (∀ k, wv'.ownBlock = some k → wv.ownBlock = some k ∨ w.heap.size ≤ k) := by
  obtain ⟨lag, hlag⟩ : ∃ lag, lagI lags sent = lag := ⟨_, rfl⟩
  rw [hlag] at hlg ⊢
  have HW := hide h
  have hnl := h.blk.lt
  clear h
  go_enter Tryz.func33, Tryz.ntmps33
  go_wp2_with fail
  refine (lag_any nb pv lags now sent lv wv bl l w (unhide HW) (by omega)).mono ?_
  rintro e w1 ⟨rfl, hb1⟩
  have W1 : WireAt w1 nb pv lags now sent lv wv bl l := (unhide HW).same (fun k hk => hb1.block k ((unhide HW).lts k hk))
  rw [hlag]
  clear hlag
  have H1 := hide (And.intro W1 hb1)
  clear hb1
  have c3 : w1.cell? ⟨nb, 3, none⟩ = some (.int .i64 (sent : Int)) := W1.blk.cell 3
  have c2 : w1.cell? ⟨nb, 2, none⟩ = some (.int .i64 (now : Int)) := W1.blk.cell 2
  have f3 : w1.frozen? ⟨nb, 3, none⟩ = false := W1.blk.frozen 3
  have hws := i64_id ((sent : Int) + 1) (by omega) (by omega)
  by_cases hl : lag = -1
  · have hd : (lag != -1) = false := by simp [hl]
    have HL := hide hl
    clear hl W1 c2
    go_wp2
    go_end0
    obtain ⟨W1, hb1⟩ := unhide H1
    have hb := W1.blk.set 3 (.int .i64 ((sent : Int) + 1))
    refine ⟨rfl, wv, ⟨?_, ?_, W1.ne, owns_same W1.lag (fun k hk => heap_setCell_other _ _ _ _ (fun e => W1.lne (by rw [hk, e]))), W1.lne, W1.apart⟩, (Chg.ofBelow hb1).thenCell nb 3 _ (.inl rfl), fun k hk => .inl hk⟩
    · rw [show ((sent + 1 : Nat) : Int) = (sent : Int) + 1 by omega]
      exact hb
    · have e : sentL l lag { to := q, due := now + lag.toNat, num := sent, bytes := b } = l := by unfold sentL; rw [if_neg (by have := unhide HL; omega)]
      rw [e, pcls_put hnum]
      exact owns_same W1.own (fun k hk => heap_setCell_other _ _ _ _ (fun e => W1.ne (by rw [hk, e])))
  · have hd : (lag != -1) = true := by simp [hl]
    obtain ⟨m, rfl⟩ : ∃ m : Nat, lag = (m : Int) := ⟨lag.toNat, by omega⟩
    have hwd : IntKind.i64.wrap ((now : Int) + (m : Int)) = (now : Int) + (m : Int) := i64_id _ (by omega) (by omega)
    clear hl
    clear f3
    go_wp2_with fail
    refine wp_moves_reads_tail0 19 (by kernel_rfl) (by kernel_rfl) (by kernel_rfl) (by kernel_rfl) ?_
    simp only [List.take_succ_cons, List.take_zero, List.drop_succ_cons, List.drop_zero]
    repeat still_step
    refine wpStill_nil ?_
    go_wp2_with fail
    have hB : Blk w1.drew nb #[pv, lv, .int .i64 (now : Int), .int .i64 (sent : Int), wv] 66 := W1.blk
    have hpush := hpush_any nb 4 (putB bl sent bb) l { to := q, due := now + m, num := sent, bytes := b } wv _ _ w1.drew hB (hB.cell 4) (hB.frozen 4) (by rw [pcls_put hnum]; exact W1.own) W1.ne hlen
    have e0 : (pcl (putB bl sent bb) { to := q, due := now + m, num := sent, bytes := b }).toArray = #[.int .i64 (q : Int), .int .i64 ((now : Int) + (m : Int)), .slice (some ⟨bb, 0, none⟩) b.length b.length, .int .i64 (sent : Int)] := by
      simp [pcl, putB]
    rw [e0] at hpush
    refine hpush.mono ?_
    clear hpush e0 hB W1 c3 c2
    rintro e w3 ⟨rfl, g, cap, hq, hC, hloc, hB3⟩
    have c33 : w3.cell? ⟨nb, 3, none⟩ = some (.int .i64 (sent : Int)) := hB3.cell 3
    have f33 : w3.frozen? ⟨nb, 3, none⟩ = false := hB3.frozen 3
    have H3 := hide (And.intro hq (And.intro hC (And.intro hloc hB3)))
    clear hq hC hloc hB3
    go_wp2
    go_end0
    obtain ⟨hq, hC, hloc, hB3⟩ := unhide H3
    obtain ⟨W1, hb1⟩ := unhide H1
    have hb := hB3.set 3 (.int .i64 ((sent : Int) + 1))
    have hlen2 : (pushL l { to := q, due := now + m, num := sent, bytes := b }).length = l.length + 1 := by rw [(pushL_perm _ _).length_eq]; simp
    have hown := hq.own
    rw [hlen2] at hown
    have hC1 : Chg (fun k => k = nb ∨ wv.ownBlock = some k) w w3 := (Chg.ofBelow (F := fun k => k = nb ∨ wv.ownBlock = some k) hb1.drew).trans hC (fun _ _ h => h)
    have hne : nb ≠ g := hq.ne
    have hlv : ∀ k, lv.ownBlock = some k → k ≠ g := fun k hk e => by
      subst e
      rcases hloc with e | e
      · exact W1.apart k hk e
      · have := (W1.lag.lt k hk).2
        have : w1.drew.heap.size = w1.heap.size := rfl
        omega
    refine ⟨rfl, .slice (some ⟨g, 0, none⟩) (l.length + 1) cap, ⟨?_, ?_, ?_, ?_, W1.lne, fun k hk e => hlv k hk (by injection e with e; exact e.symm)⟩, hC1.thenCell nb 3 _ (.inl rfl), fun k hk => ?_⟩
    · rw [show ((sent + 1 : Nat) : Int) = (sent : Int) + 1 by omega]
      exact hb
    · have e : sentL l (m : Int) { to := q, due := now + (m : Int).toNat, num := sent, bytes := b } = pushL l { to := q, due := now + m, num := sent, bytes := b } := by unfold sentL; rw [if_pos (by omega)]; simp
      rw [e, hlen2]
      exact owns_same hown (fun k hk => heap_setCell_other _ _ _ _ (fun e => hne (by injection hk with hk; have e2 : k = nb := e; rw [← e2]; exact hk.symm)))
    · intro e; injection e with e; exact hne e.symm
    · refine owns_same W1.lag (fun k hk => ?_)
      rw [heap_setCell_other _ _ _ _ (fun e => W1.lne (by rw [hk, e]))]
      exact hC.block k (W1.lag.lt k hk).2 (fun e => by
        rcases e with e | e
        · exact W1.lne (by rw [hk, e])
        · exact W1.apart k hk e)
    · injection hk with hk
      subst hk
      rcases hloc with e | e
      · exact .inl e
      · right
        have h1 := hb1.size
        have h2 : w1.drew.heap.size = w1.heap.size := rfl
        have h3 : w1.heap.size ≤ g := by rw [← h2]; exact e
        exact Nat.le_trans h1 h3
end Go.Proofs.YtandblanpafjoaaGreatDoor

