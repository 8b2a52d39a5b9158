import Derived.Test.YtandblanpafjoabGreatDoorWireF
import Derived.Test.YtandblanpafjoabGreatDoorCom
import Derived.Maps.AppendAt
namespace Go.Proofs.YtandblanpafjoabGreatDoor
open Go.RowKit Go.Extern.Stop Go.Stop Go.Extern

/-! Taking the last off a queue; putting one at its end. -/
def zPcl : List Value := [.int .i64 0, .int .i64 0, .slice none 0 0, .int .i64 0]
theorem Tryz.infoPcl : (Tryz.prog.info? 127).map (fun i => (i.zero, i.size, i.bytes)) = some (some (.agg #[.int .i64 0, .int .i64 0, .slice none 0 0, .int .i64 0]), 4, 48) := by kernel_rfl
theorem QAt.cut {w : World} {g cap : Nat} {bl : Nat → Nat} {l : List FlyM} (h : QAt w g cap bl l) {n : Nat} (hn : n ≤ l.length) (vs : List Value) (hv : vs.length = 4) (hc : n < cap) : QAt (w.setCells g (n * 4) vs) g cap bl (l.take n) := by
  obtain ⟨cs, hb, hs, ht⟩ := h.blk
  refine ⟨⟨_, hb.setCells _ _, by rw [putA_toList]; exact hs, ?_⟩, h.big, by have := h.cap; simp; omega⟩
  have hl : (l.take n).length = n := by simp; omega
  have hp : pcls bl (l.take n) = (pcls bl l).take (n * 4) := by
    have h1 := pcls_append bl (l.take n) (l.drop n)
    rw [List.take_append_drop] at h1
    rw [h1, List.take_append_of_le_length (by rw [pcls_len, hl]; omega)]
    exact (List.take_of_length_le (by rw [pcls_len, hl]; omega)).symm
  rw [hl, hp, ← ht, List.take_take, Nat.min_eq_left (by omega)]
  apply List.ext_getElem?
  intro k
  rw [List.getElem?_take, List.getElem?_take]
  split
  · rw [Array.getElem?_toList, putA_get vs (n * 4) cs k (by omega), if_neg (by omega), Array.getElem?_toList]
  · rfl

theorem Tryz.assertP (v : Value) (w : World) : (Instr.typeAssert (.iface 127 v) 20 127 false).run Tryz.prog w = .ok v w := by kernel_rfl
theorem QAt.ofOwn {w : World} {v : Value} {bl : Nat → Nat} {l : List FlyM} {n : Nat} (h : w.ownsRow 0 127 4 v n (pcls bl l)) (hn : n = l.length) (hl : 0 < n) : ∃ g cap, v = .slice (some ⟨g, 0, none⟩) n cap ∧ QAt w g cap bl l := by
  obtain ⟨_, h2⟩ := h
  rcases h2 with ⟨_, h0⟩ | ⟨g, cap, cur, e, _, hg, hc, hm, hs, ht⟩
  · omega
  · exact ⟨g, cap, e, ⟨cur, hg, hs, by rw [← hn]; exact ht⟩, hm, by rw [← hn]; exact hc⟩
theorem QAt.own {w : World} {g cap : Nat} {bl : Nat → Nat} {l : List FlyM} (h : QAt w g cap bl l) : w.ownsRow 0 127 4 (.slice (some ⟨g, 0, none⟩) l.length cap) l.length (pcls bl l) := by
  obtain ⟨cs, hb, hs, ht⟩ := h.blk
  exact ⟨by rw [pcls_len]; omega, .inr ⟨g, cap, cs, rfl, Nat.zero_le _, hb, h.cap, h.big, hs, ht⟩⟩
theorem cell_set_self {w : World} {nb o : Nat} {u : Value} (v : Value) (h : w.cell? ⟨nb, o, none⟩ = some u) : (w.setCell ⟨nb, o, none⟩ v).cell? ⟨nb, o, none⟩ = some v := World.cell?_setCell_same _ _ _ h
/-- The queue's slice is laid anew into its cell. -/
theorem QAt.laid {w : World} {nb o g cap : Nat} {bl : Nat → Nat} {l : List FlyM} (h : QAt w g cap bl l) {u : Value} (hc : w.cell? ⟨nb, o, none⟩ = some u) (hf : w.frozen? ⟨nb, o, none⟩ = false) (hne : nb ≠ g) {n : Nat} (hn : l.length = n) : QP (w.setCell ⟨nb, o, none⟩ (.slice (some ⟨g, 0, none⟩) n cap)) nb o g cap bl l :=
  ⟨by rw [hn]; exact cell_set_self _ hc, h.same (heap_setCell_other _ _ _ _ (fun e => hne e.symm)), hne, by simpa using hf⟩

set_option maxRecDepth 10000 in
set_option maxHeartbeats 800000 in
theorem qpop_any (nb o g cap n : Nat) (bl : Nat → Nat) (l : List FlyM) (cs : Array Value) (tn : TypeId) (w : World) (hB : Blk w nb cs tn) (h : QP w nb o g cap bl l) (hn : l.length = n + 1) (hlen : n ≤ 1000000) :
    Calls Tryz.prog 157 #[.pointer (some ⟨nb, o, none⟩)] w fun e w' => e = .returned (.iface 127 (.agg (pcl bl (fl l n)).toArray)) ∧ QP w' nb o g cap bl (l.take n) ∧ Chg (fun k => k = nb ∨ k = g) w w' ∧ Blk w' nb (cs.setIfInBounds o (.slice (some ⟨g, 0, none⟩) n cap)) tn := by
  have hc := h.cell
  rw [hn] at hc
  have hq := h.q
  have a0 : w.cell? ⟨g, n * 4, none⟩ = some (.int .i64 ((fl l n).to : Int)) := hq.cell n 0 (by omega) (by omega)
  have a1 : w.cell? ⟨g, n * 4 + 1, none⟩ = some (.int .i64 ((fl l n).due : Int)) := hq.cell n 1 (by omega) (by omega)
  have a2 : w.cell? ⟨g, n * 4 + 2, none⟩ = some (.slice (some ⟨bl (fl l n).num, 0, none⟩) (fl l n).bytes.length (fl l n).bytes.length) := hq.cell n 2 (by omega) (by omega)
  have a3 : w.cell? ⟨g, n * 4 + 3, none⟩ = some (.int .i64 ((fl l n).num : Int)) := hq.cell n 3 (by omega) (by omega)
  have hw1 : IntKind.i64.wrap ((n : Int) + 1 - 1) = (n : Int) := by rw [i64_id _ (by omega) (by omega)]; omega
  have n0 : (0 : Int) ≤ (n : Int) := by omega
  have n1 : (n : Int) < (n : Int) + 1 := by omega
  have hcap := hq.cap
  have n2 : (n : Int) ≤ (cap : Int) := by omega
  have hgl := hq.lt
  have hnl := h.lt
  have hne1 : ¬ nb = g := h.ne
  have hne2 : ¬ g = nb := fun e => h.ne e.symm
  have hfr := h.fro
  have ht := hq.there (i := n) (by omega)
  have HQ := hide h
  have HBk := hide hB
  clear h hq hB
  have f0 : w.frozen? ⟨g, n * 4, none⟩ = false := (ht 0 (by omega)).2
  have f1 : w.frozen? ⟨g, n * 4 + 1, none⟩ = false := (ht 1 (by omega)).2
  have f2 : w.frozen? ⟨g, n * 4 + 2, none⟩ = false := (ht 2 (by omega)).2
  have f3 : w.frozen? ⟨g, n * 4 + 3, none⟩ = false := (ht 3 (by omega)).2
  clear ht
  go_enter Tryz.func157, Tryz.ntmps157
  go_wp2
  go_ret
  have h := unhide HQ
  have hq1 := h.q.cut (n := n) (by omega) zPcl rfl (by omega)
  have hcell : (w.setCells g (n * 4) zPcl).cell? ⟨nb, o, none⟩ = some (.slice (some ⟨g, 0, none⟩) (n + 1) cap) := (World.cell?_of_block (a := ⟨nb, o, none⟩) (heap_setCells_other hne1 _ _ _)).trans hc
  have hfro : (w.setCells g (n * 4) zPcl).frozen? ⟨nb, o, none⟩ = false := (World.frozen?_of_block (a := ⟨nb, o, none⟩) (heap_setCells_other hne1 _ _ _)).trans hfr
  have hq2 := hq1.laid hcell hfro hne1 (n := n) (by simp; omega)
  exact ⟨rfl, hq2.below ((Below.refl _ _).alloc (Nat.le_refl _) _), (((Chg.refl (fun k => k = nb ∨ k = g) w).thenCells g (n * 4) zPcl (.inr rfl)).thenCell nb o _ (.inl rfl)).trans (Chg.alloc _ _ _) (fun _ _ h => h), ((show Blk (w.setCells g (n * 4) zPcl) nb cs tn from (heap_setCells_other hne1 _ _ _).trans (unhide HBk)).set o _).alloc _⟩

set_option maxRecDepth 10000 in
set_option maxHeartbeats 1600000 in
theorem qpush_any (nb o : Nat) (bl : Nat → Nat) (l : List FlyM) (f : FlyM) (v : Value) (cs : Array Value) (tn : TypeId) (w : World) (hB : Blk w nb cs tn) (hc : w.cell? ⟨nb, o, none⟩ = some v) (hf : w.frozen? ⟨nb, o, none⟩ = false) (hown : w.ownsRow 0 127 4 v l.length (pcls bl l)) (hne : v.ownBlock ≠ some nb) (hlen : l.length ≤ 1000000) :
    Calls Tryz.prog 158 #[.pointer (some ⟨nb, o, none⟩), .iface 127 (.agg (pcl bl f).toArray)] w fun e w' => e = .returned (.tuple #[]) ∧ ∃ g cap, QP w' nb o g cap bl (l ++ [f]) ∧ Chg (fun k => k = nb ∨ v.ownBlock = some k) w w' ∧ (v.ownBlock = some g ∨ w.heap.size ≤ g) ∧ Blk w' nb (cs.setIfInBounds o (.slice (some ⟨g, 0, none⟩) (l.length + 1) cap)) tn := by
  obtain ⟨i8, hi8, hz0, hz1, hz2⟩ := info_parts Tryz.infoPcl
  have hnl : nb < w.heap.size := World.block_lt_of_cell? w _ hc
  have HO := hide hown
  have HBk := hide hB
  clear hown hB
  go_enter Tryz.func158, Tryz.ntmps158
  go_wp2_with fail
  refine wp_region_noPanic ?_
  refine wp_held_tail 6 8 (fun W' => W'.cell? ⟨nb, o, none⟩ = some v) (by kernel_rfl) (by decide) (by kernel_rfl) (by kernel_rfl) (by kernel_rfl) (fun _ _ _ _ _ h => h) hc ?_
  simp only [List.take_succ_cons, List.take_zero, List.drop_succ_cons, List.drop_zero]
  refine wpHeld_op ?y0 rfl ?z0 ?_
  case z0 => intro w' hS; go_simp; rfl
  refine wpHeld_op ?y1 rfl ?z1 ?_
  case z1 => intro w' hS; go_simp; rfl
  refine wpHeld_op ?y2 rfl ?z2 ?_
  case z2 => intro w' hS; go_simp; rfl
  refine wpHeld_op ?y3 rfl ?z3 ?_
  case z3 => intro w' hS; go_simp; rfl
  refine wpHeld_op ?y4 rfl ?z4 ?_
  case z4 => intro w' hS; go_simp; rfl
  refine wpHeld_op (.agg (pcl bl f).toArray) rfl ?z5 ?_
  case z5 => intro w' hS; have hta := Tryz.assertP (.agg (pcl bl f).toArray); go_simp
  unfold wpHeld
  refine wpAnyH_all (rs := [6]) (by kernel_rfl) (by simp) ?_
  intro j hj
  obtain rfl : j = 6 := by simpa using hj
  refine wpOp_of_list _ rfl rfl ?_
  have hBa : Below w.heap.size w (w.drew.alloc (.cells (pcl bl f).toArray 127)) := (Below.refl _ w).drew.alloc (Nat.le_refl _) _
  unfold pcl
  go_wp2_with fail
  have hcA : (w.drew.alloc (.cells (pcl bl f).toArray 127)).cell? ⟨nb, o, none⟩ = some v := (hBa.cell (p := ⟨nb, o, none⟩) hnl).trans hc
  refine ⟨hcA, ?_⟩
  refine wpAnyH_all (rs := [7]) (by kernel_rfl) (by simp) ?_
  intro j hj
  obtain rfl : j = 7 := by simpa using hj
  refine wpOp_of_list _ rfl rfl ?_
  go_simp
  have hown := unhide HO
  have hownA : (w.drew.alloc (.cells (pcl bl f).toArray 127)).ownsRow 0 127 4 v l.length (pcls bl l) := owns_same hown (fun k hk => hBa.block k (by have := hown.lt k hk; omega))
  have hnews : ∀ j u, (pcl bl f)[j]? = some u → (w.drew.alloc (.cells (pcl bl f).toArray 127)).cell? ((⟨w.heap.size, 0, none⟩ : Addr).add j) = some u := fun j u hj => by
    have hb := Blk.new w.drew (pcl bl f).toArray 127
    rw [Addr.add_mid, Nat.zero_add, show w.heap.size = w.drew.heap.size from rfl, hb.cell]
    simpa using hj
  refine wpList_append_own_at (w.drew.alloc (.cells (pcl bl f).toArray 127)) rfl (.tmp 7) (.tmp 10) 79 rfl 0 127 i8 _ 4 48 Tryz.underlying79 hi8 hz0 hz1 hz2 rfl (by decide) v _ _ rfl hownA ⟨w.heap.size, 0, none⟩ 1 1 (pcl bl f) rfl rfl hnews (by intro u hu; simp [pcl] at hu; rcases hu with rfl | rfl | rfl | rfl <;> rfl) (by unfold maxLen; omega) (by omega) (Nat.zero_le _) ?_
  intro v' w3 hown3 hg3 hnil3 hloc3
  rw [show pcls bl l ++ pcl bl f = pcls bl (l ++ [f]) by rw [pcls_append]; simp [pcls]] at hown3
  obtain ⟨g', cap', rfl, hq3⟩ := QAt.ofOwn hown3 (by simp) (by omega)
  have hdz : (w.drew.alloc (.cells (pcl bl f).toArray 127)).heap.size = w.heap.size + 1 := by simp
  have hb3 : w3.heap[nb]? = w.heap[nb]? := (hg3.block nb (by omega) (Ne.symm hne)).trans (hBa.block nb hnl)
  have hc3 : w3.cell? ⟨nb, o, none⟩ = some v := (World.cell?_of_block (a := ⟨nb, o, none⟩) hb3).trans hc
  have hf3 : w3.frozen? ⟨nb, o, none⟩ = false := (World.frozen?_of_block (a := ⟨nb, o, none⟩) hb3).trans hf
  have hgn : nb ≠ g' := by
    rcases hloc3 with e | e
    · intro h; rw [h] at hne; exact hne e.symm
    · intro h; injection e with e; have : g' = w.heap.size + 1 := by rw [← hdz]; exact e
      omega
  refine ⟨hc3, ⟨by kernel_rfl, ?_⟩⟩
  have hgloc : v.ownBlock = some g' ∨ w.heap.size ≤ g' := by
    rcases hloc3 with e | e
    · exact .inl e.symm
    · right; injection e with e; have : g' = w.heap.size + 1 := by rw [← hdz]; exact e
      omega
  have hC3 : Chg (fun k => k = nb ∨ v.ownBlock = some k) w w3 := ⟨hg3.os.trans hBa.os, hg3.tape.trans hBa.tape, hg3.output.trans hBa.output, Nat.le_trans hBa.size hg3.size, fun k hk hF => (hg3.block k (by omega) (fun e => hF (.inr e.symm))).trans (hBa.block k hk)⟩
  have hB3 : Blk w3 nb cs tn := hb3.trans (unhide HBk)
  have HZ := hide (And.intro hC3 (And.intro hgloc (And.intro hq3 (And.intro hgn hB3))))
  clear hown3 hg3 hnil3 hloc3 hownA hnews hown hBa hcA hdz hb3 hC3 hgloc hq3 hgn hB3
  change wpList _ _ _ _ _ _
  go_wp2_with fail
  refine NoPanic.normal ?_
  go_wp2
  go_end0
  obtain ⟨hC3, hgloc, hq3, hgn, hB3⟩ := unhide HZ
  exact ⟨rfl, g', cap', hq3.laid hc3 hf3 hgn (by simp), hC3.thenCell nb o _ (.inl rfl), hgloc, hB3.set o _⟩
end Go.Proofs.YtandblanpafjoabGreatDoor
