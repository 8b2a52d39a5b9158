import Derived.Test.YtandblanpafjoaaGreatDoorPack08
import Derived.RangeFuncNested
import Derived.RangeFuncBox
import Derived.RangeFuncLeaves
import Derived.Shelf.Abstract
import Derived.OwnWalkIn
import Derived.TacticsInMore
import Derived.LoopNIn
import Derived.LoopIn
import Derived.Maps.AppendAt
import Derived.Shelf.SlSortCmp.WholeK
import Derived.Test.YtandblanpafjoaaGreatDoorPack01
import Derived.Test.YtandblanpafjoaaGreatDoorPack14
import Derived.Shelf.SlSortCmp.NoneTotal
namespace Go.Proofs.YtandblanpafjoaaGreatDoor
open Go.RowKit Go.Shelf Go.Extern.Stop Go.Stop Go.Extern
attribute [local go_sem] Oper.semAt_some
def pcA (bl : Nat → Nat) (x : FlyM) : Array Value := #[.int .i64 (x.to : Int), .int .i64 (x.due : Int), .slice (some ⟨bl x.num, 0, none⟩) x.bytes.length x.bytes.length, .int .i64 (x.num : Int)]
theorem Tryz.zeroPcl2 (w : World) : (zeroValue 126).run Tryz.prog w = .ok (.agg #[.int .i64 0, .int .i64 0, .slice none 0 0, .int .i64 0]) w := by kernel_rfl
theorem take_fl (zs : List FlyM) (k : Nat) (h : k < zs.length) : zs.take (k + 1) = zs.take k ++ [fl zs k] := by
  rw [List.take_add_one, List.getElem?_eq_getElem h]
  simp [fl, List.getD_eq_getElem?_getD, h]
set_option maxRecDepth 100000 in
set_option maxHeartbeats 2000000 in
theorem vals1_in (F : Fence) (n : Nat) (h7 : F.fn 121) (hro : F.round = none) (hn : 1 ≤ n) (l Bs n₀ b cap : Nat) (bl : Nat → Nat) (zs : List FlyM) (hz : zs.length ≤ 1000000) (hb : b < n₀) (J Jx : List FlyM → World → Prop)
    (hY : ∀ pre x W, J pre W → pre.length < zs.length → YieldAt F (n - 1) Tryz.prog l #[.agg (pcA bl x)] W fun e W' =>
      (e = .returned (.bool true) ∧ J (pre ++ [x]) W' ∧ Below n₀ W W') ∨ (e = .returned (.bool false) ∧ Jx (pre ++ [x]) W'))
    (W : World) (hn₀ : n₀ ≤ W.heap.size) (hJ : AbidesFrom W.heap.size J) (hBs : W.cell? ⟨Bs, 0, none⟩ = some (.slice (some ⟨b, 0, none⟩) zs.length cap)) (hc : QAt W b cap bl zs) (h0 : J [] W) :
    CallsIn F n Tryz.prog 121 #[.func (.yield l) #[] #[], .pointer (some ⟨Bs, 0, none⟩)] W fun e W' => (∃ v, e = .returned v) ∧
      ((∃ ys, ys = zs ∧ J ys W') ∨ (∃ pre, pre <+: zs ∧ Jx pre W')) := by
  have hzp := Tryz.zeroPcl2
  have HC := hide hc
  have HY := hide hY
  have HJ := hide hJ
  have H0 := hide h0
  clear hc hY hJ h0
  refine callsIn_of_wp Tryz.func121 rfl h7 ?_ hro
  simp only [Tryz.ntmps121, List.size_toArray, List.length_cons, List.length_nil, Nat.reduceAdd, Nat.reduceSub, Array.replicate_succ, Array.replicate_zero, List.push_toArray, List.append_toArray, List.nil_append, List.cons_append]
  gi_wp2
  gi_loopw [7] (fun i wr => ∃ k : Nat, k ≤ zs.length ∧ i = .int .i64 k ∧ J (zs.take k) wr ∧ Below n₀ W wr ∧ W.heap.size ≤ wr.heap.size)
    (fun i _ => zs.length - (intOf i).toNat)
  case atStart => exact ⟨0, Nat.zero_le _, rfl, unhide H0, Below.refl _ _, Nat.le_refl _⟩
  case round =>
    obtain ⟨k, hk, rfl, hJs, hnx, hsz⟩ := hrel
    by_cases hlt : k < zs.length
    · have hQ : QAt wr b cap bl zs := (unhide HC).same (hnx.block b hb)
      have c0 : wr.cell? ⟨b, k * 4, none⟩ = some (.int .i64 ((fl zs k).to : Int)) := hQ.cell k 0 hlt (by omega)
      have c1 : wr.cell? ⟨b, k * 4 + 1, none⟩ = some (.int .i64 ((fl zs k).due : Int)) := hQ.cell k 1 hlt (by omega)
      have c2 : wr.cell? ⟨b, k * 4 + 2, none⟩ = some (.slice (some ⟨bl (fl zs k).num, 0, none⟩) (fl zs k).bytes.length (fl zs k).bytes.length) := hQ.cell k 2 hlt (by omega)
      have c3 : wr.cell? ⟨b, k * 4 + 3, none⟩ = some (.int .i64 ((fl zs k).num : Int)) := hQ.cell k 3 hlt (by omega)
      have hJA : J (zs.take k) (wr.alloc (.cells (pcA bl (fl zs k)) 126)) := unhide HJ _ wr _ none hJs (World.grownBy_alloc wr _ none) (fun r e => by cases e)
      obtain ⟨fn, tmps, assign, body, hy, hR⟩ := unhide HY _ (fl zs k) _ hJA (by rw [List.length_take]; omega)
      have hbA : Below n₀ wr (wr.alloc (.cells (pcA bl (fl zs k)) 126)) := (Below.refl _ wr).alloc (by omega) _
      have HK := hide (And.intro (take_fl zs k hlt) (And.intro hbA hnx))
      clear hQ hJs hJA hbA hnx
      generalize fl zs k = x at *
      unfold pcA at hy hR
      gi_wp2
      refine hR.mono ?_
      rintro e W3 (⟨rfl, hJ3, hk3⟩ | ⟨rfl, hJx3⟩)
      · have H3 := hide (And.intro hJ3 hk3)
        clear hJ3 hk3
        gi_wp2
        go_roundw
        case rel =>
          obtain ⟨hJ3, hk3⟩ := unhide H3
          obtain ⟨ht, hbA, hnx⟩ := unhide HK
          have := hk3.size
          simp at this
          exact ⟨k + 1, by omega, by go_num, by rw [ht]; exact hJ3, hnx.trans (hbA.trans hk3), by omega⟩
        case measure => simp [intOf]; omega
      · have H3 := hide hJx3
        clear hJx3
        gi_wp2
        refine bodyPost_ret (results_none rfl _ _ _) rfl ?_
        exact ⟨⟨_, rfl⟩, .inr ⟨_, ⟨zs.drop (k + 1), by rw [← (unhide HK).1]; exact List.take_append_drop _ _⟩, unhide H3⟩⟩
    · obtain rfl : k = zs.length := by omega
      rw [List.take_length] at hJs
      gi_wp2
      go_end0
      exact ⟨⟨_, rfl⟩, .inl ⟨_, rfl, hJs⟩⟩
set_option maxRecDepth 100000 in
set_option maxHeartbeats 1000000 in
theorem vals1_nil_in (F : Fence) (n : Nat) (h7 : F.fn 121) (hro : F.round = none) (l Bs : Nat) (J : List FlyM → World → Prop) (W : World) (hBs : W.cell? ⟨Bs, 0, none⟩ = some (.slice none 0 0)) (h0 : J [] W) :
    CallsIn F n Tryz.prog 121 #[.func (.yield l) #[] #[], .pointer (some ⟨Bs, 0, none⟩)] W fun e W' => (∃ v, e = .returned v) ∧ J [] W' := by
  refine callsIn_of_wp Tryz.func121 rfl h7 ?_ hro
  simp only [Tryz.ntmps121, List.size_toArray, List.length_cons, List.length_nil, Nat.reduceAdd, Nat.reduceSub, Array.replicate_succ, Array.replicate_zero, List.push_toArray, List.append_toArray, List.nil_append, List.cons_append]
  gi_wp2
  gi_loopw [7] (fun i wr => i = .int .i64 0 ∧ J [] wr) (fun _ _ => 0)
  case atStart => exact ⟨rfl, h0⟩
  case round =>
    obtain ⟨rfl, hJs⟩ := hrel
    gi_wp2
    go_end0
    exact ⟨⟨_, rfl⟩, hJs⟩
/-- A queue's value: nil, or in a block. -/
def QV (n₀ : Nat) (w : World) (wv : Value) (bl : Nat → Nat) (zs : List FlyM) : Prop := (wv = .slice none 0 0 ∧ zs = []) ∨ ∃ b cap, wv = .slice (some ⟨b, 0, none⟩) zs.length cap ∧ b < n₀ ∧ QAt w b cap bl zs
theorem QV.below {n₀ : Nat} {w w' : World} {wv : Value} {bl : Nat → Nat} {zs : List FlyM} (h : QV n₀ w wv bl zs) (hb : Below n₀ w w') : QV n₀ w' wv bl zs := by
  rcases h with h | ⟨b, cap, e, hl, hq⟩
  · exact .inl h
  · exact .inr ⟨b, cap, e, hl, hq.same (hb.block b hl)⟩
theorem QV.ofOwn {w : World} {wv : Value} {bl : Nat → Nat} {zs : List FlyM} (h : w.ownsRow 0 126 4 wv zs.length (pcls bl zs)) : QV w.heap.size w wv bl zs := by
  rcases h.2 with ⟨h1, h2⟩ | ⟨g, cap, cur, h1, h2, h3, h4, h5, h6, h7⟩
  · exact .inl ⟨h1, List.length_eq_zero_iff.1 h2⟩
  · exact .inr ⟨g, cap, h1, Blk.lt h3, ⟨⟨cur, h3, h6, h7⟩, h5, h4⟩⟩
theorem vals_stops (F : Fence) (n : Nat) (h7 : F.fn 121) (hro : F.round = none) (hn : 1 ≤ n) (Bs n₀ : Nat) (wv : Value) (bl : Nat → Nat) (zs : List FlyM) (hz : zs.length ≤ 1000000) (w : World) (hBs : Bs < w.heap.size) (hn₀ : n₀ ≤ w.heap.size)
    (hc : w.cell? ⟨Bs, 0, none⟩ = some wv) (hI : QV n₀ w wv bl zs) :
    SeqStopsK F n Tryz.prog 121 #[.pointer (some ⟨Bs, 0, none⟩)] (fun x : FlyM => #[Value.agg (pcA bl x)]) (Below n₀) (fun ys => ys = zs) (fun pre => pre <+: zs) zs.length w := fun l J Jx W hW hJ _ hY h0 => by
  have hc' := (hW.cell (p := ⟨Bs, 0, none⟩) hBs).trans hc
  have hsz := hW.size
  rcases hI.below (hW.mono hn₀) with ⟨rfl, rfl⟩ | ⟨b, cap, rfl, hb, hcs⟩
  · exact (vals1_nil_in F n h7 hro l Bs J W hc' h0).mono fun e W' ⟨he, hj⟩ => ⟨he, .inl ⟨_, rfl, hj⟩⟩
  · exact vals1_in F n h7 hro hn l Bs n₀ b cap bl zs hz hb J Jx hY W (by omega) hJ hc' hcs h0
set_option maxHeartbeats 1000000 in
theorem vals_any (a : Option Addr) (len cap : Nat) (w : World) :
    Calls Tryz.prog 100 #[.slice a len cap] w fun e w' => e = .returned (.func (.func 121) #[] #[.pointer (some ⟨w.heap.size, 0, none⟩)]) ∧ w' = w.alloc (.cells #[.slice a len cap] 62) := by
  go_enter Tryz.func100, Tryz.ntmps100
  go_wp2
  go_ret
  exact ⟨rfl, rfl⟩
theorem pcls_snoc (bl : Nat → Nat) (l : List FlyM) (x : FlyM) : pcls bl (l ++ [x]) = pcls bl l ++ (pcA bl x).toList := by rw [pcls_append]; simp [pcls, pcl, pcA]
theorem pcA_new (bl : Nat → Nat) (x : FlyM) (W : World) : ∀ j u, (pcA bl x).toList[j]? = some u → (W.alloc (.cells (pcA bl x) 126)).cell? ((⟨W.heap.size, 0, none⟩ : Addr).add j) = some u := by
  intro j u hu
  rw [Addr.add_mid, Nat.zero_add, World.cell?_alloc_new]
  simpa using hu
set_option maxRecDepth 100000 in
set_option maxHeartbeats 4000000 in
theorem appendSeq_in (F : Fence) (n : Nat) (h3 : F.fn 133) (h5 : F.fn 121) (hro : F.round = none) (hn : 3 ≤ n) (Bs : Nat) (wv : Value) (bl : Nat → Nat) (zs : List FlyM) (hz : zs.length ≤ 1000000) (w : World) (hBs : Bs < w.heap.size)
    (hc : w.cell? ⟨Bs, 0, none⟩ = some wv) (hI : QV w.heap.size w wv bl zs) :
    CallsIn F n Tryz.prog 133 #[.slice none 0 0, .func (.func 121) #[] #[.pointer (some ⟨Bs, 0, none⟩)]] w fun e W' => ∃ v, e = .returned v ∧ W'.ownsRow w.heap.size 126 4 v zs.length (pcls bl zs) ∧ (v = .slice none 0 0 ↔ zs = []) ∧ Below w.heap.size w W' := by
  have h1 : 1 ≤ n := by omega
  have hzp := Tryz.zeroPcl2
  obtain ⟨i0, hi, hz0, hz1, hz2⟩ := info_parts Tryz.infoPcl
  have HI := hide hI
  clear hI
  refine callsIn_of_wp_marks Tryz.func133 rfl h3 ?_ hro
  simp only [Tryz.ntmps133, List.size_toArray, List.length_cons, List.length_nil, Nat.reduceAdd, Nat.reduceSub, Array.replicate_succ, Array.replicate_zero, List.push_toArray, List.append_toArray, List.nil_append, List.cons_append]
  gi_wp2
  have bO := Boxed.new w 61 (.slice none 0 0)
  have hB0 : Below w.heap.size w (w.alloc (.cells #[.slice none 0 0] 61)) := (Below.refl _ w).alloc (Nat.le_refl _) _
  have hsz : (w.alloc (.cells #[.slice none 0 0] 61)).heap.size = w.heap.size + 1 := by simp
  obtain ⟨W0, hW0⟩ : ∃ W0, w.alloc (.cells #[.slice none 0 0] 61) = W0 := ⟨_, rfl⟩
  rw [hW0] at bO hB0 hsz ⊢
  clear hW0
  refine wpIn_rangeFunc_ownH hro h1 (gf := 121) (lb := #[.pointer (some ⟨Bs, 0, none⟩)]) rfl h5 (enters_of Tryz.func121 (by kernel_rfl) rfl)
    (vals_stops F (n - 1) h5 hro (by omega) Bs w.heap.size wv bl zs hz W0 (by omega) (by omega) ((hB0.cell (p := ⟨Bs, 0, none⟩) hBs).trans hc) ((unhide HI).below hB0)) belowK_t (belowK_b (by omega)) (Below.refl _ _) (fun _ => rfl)
    (fun pre W => (∃ v, Boxed W w.heap.size 61 v ∧ W.ownsRow w.heap.size 126 4 v pre.length (pcls bl pre) ∧ (v = .slice none 0 0 ↔ pre = [])) ∧ Below w.heap.size w W)
    (fun _ _ _ => False)
    (OwnFrom.and (Own.from (holdsRow_own w.heap.size w.heap.size 61 126 4 (fun pre => pre.length) (fun pre => pcls bl pre) (fun pre v => v = .slice none 0 0 ↔ pre = [])) _) (ownFrom_below (Nat.le_refl _) (by omega)))
    (fun _ _ _ _ _ hs _ _ => hs)
    ⟨⟨_, bO, World.ownsRow_nil _ _ _ _, by simp⟩, hB0⟩
    (fun x a' W => ∃ Bx, w.heap.size < Bx ∧ Blk W Bx (pcA bl x) 126 ∧ a' = { tmps := #[.slice none 0 0, .func (.func 121) #[] #[.pointer (some ⟨Bs, 0, none⟩)], .pointer (some ⟨w.heap.size, 0, none⟩), undef, .slice none 0 0, .pointer (some ⟨Bx, 0, none⟩), .func (.func 121) #[] #[.pointer (some ⟨Bs, 0, none⟩)], .agg (pcA bl x), undef, undef, undef, undef, undef], defers := [] })
    (fun x a' _ X Y row hs hg hr => by
      obtain ⟨Bx, h1, h2, h3⟩ := hs
      refine ⟨Bx, h1, (hg.block Bx h2.lt (fun e => ?_)).trans h2, h3⟩
      obtain ⟨_, o, ho, hc⟩ := hr Bx e.symm
      rw [show X.heap[Bx]? = _ from h2] at ho; cases ho; cases hc)
    ?assign ?body ?done ?stop
  case assign =>
    rintro l pre x W K ⟨⟨v, hv, hrow, hnil⟩, hB1⟩ hK
    have HB := hide (And.intro hv (And.intro hrow (And.intro hnil hB1)))
    clear hv hrow hnil hB1
    unfold pcA
    gi_wp2
    obtain ⟨hv, hrow, hnil, hB1⟩ := unhide HB
    exact hK _ _ ((KeepsOthers.alloc _ _).from _) ((Below.refl _ W).alloc hB1.size _) ⟨⟨v, hv.alloc _, hrow.alloc _, hnil⟩, hB1.alloc hB1.size _⟩ ⟨W.heap.size, hv.lt, Blk.new W (pcA bl x) 126, rfl⟩
  case body =>
    rintro l pre x a' W hl ⟨r, hr⟩ ⟨⟨v, hv, hrow, hnil⟩, hB1⟩ ⟨Bx, hBx, bX, rfl⟩ hlt
    have cB := hv.cell
    have x0 : W.cell? ⟨Bx, 0, none⟩ = some (.int .i64 (x.to : Int)) := bX.cell 0
    have x1 : W.cell? ⟨Bx, 1, none⟩ = some (.int .i64 (x.due : Int)) := bX.cell 1
    have x2 : W.cell? ⟨Bx, 2, none⟩ = some (.slice (some ⟨bl x.num, 0, none⟩) x.bytes.length x.bytes.length) := bX.cell 2
    have x3 : W.cell? ⟨Bx, 3, none⟩ = some (.int .i64 (x.num : Int)) := bX.cell 3
    have hbs := hB1.size
    have HR := hide (And.intro hrow (And.intro hB1 hv))
    clear hrow hnil hB1 bX
    obtain ⟨vp, vc, rfl⟩ : ∃ vp vc, v = .slice vp pre.length vc := by
      rcases (unhide HR).1.2 with ⟨h1, h2⟩ | ⟨g, cap, cur, h1, _⟩
      · exact ⟨none, 0, by rw [h1, h2]⟩
      · exact ⟨_, _, h1⟩
    gi_wp2_with (gi_at_builtin; refine wpListIn_append_own _ rfl (.tmp 8) (.tmp 10) 61 rfl w.heap.size 126 i0 _ 4 48 Tryz.underlying61 hi hz0 hz1 hz2 rfl (by decide) (.slice vp pre.length vc) pre.length _ rfl ((unhide HR).1.alloc _) ⟨W.heap.size, 0, none⟩ 1 1 (pcA bl x).toList rfl rfl (pcA_new bl x W) (by intro u hu; simp [pcA] at hu; rcases hu with rfl | rfl | rfl | rfl <;> rfl) (by unfold maxLen; omega) (by omega) (by simp; omega) ?_; intro v' w1 hown' hgrow hnil2; obtain ⟨g', cap', rfl⟩ := ownsRow_succ hown'; obtain ⟨hv1, hv2, hr2, hk2, hb2⟩ := (unhide HR).2.2.appended (by decide) (unhide HR).1 hbs (Nat.le_refl _) hown' hgrow; have hc1 := hv1.cell; have hf1 := hv1.frozen; have H1 := hide (And.intro hv2 (And.intro hr2 (And.intro hk2 hb2))); clear hown' hgrow hnil2 hv1 hv2 hr2 hk2 hb2)
    obtain ⟨hv2, hr2, hk2, hb2⟩ := unhide H1
    exact ⟨hk2.from _, hb2, ⟨_, hv2, by rw [pcls_snoc, List.length_append]; exact hr2, by simp⟩, (unhide HR).2.1.trans hb2⟩
  case done =>
    rintro D ys W hD rfl ⟨⟨v, hv, hrow, hnil⟩, hB1⟩ hK
    have cB := hv.cell
    gi_wp2
    refine ⟨by simp, .inl ⟨_, _, rfl, run_takeDeferred hK, ?_⟩⟩
    exact ⟨_, results_tmp rfl _ _ _, v, rfl, ownsRow_putObj hrow _ hK rfl, hnil, hB1.trans (belowK_b (w := w) (Nat.le_refl _) W D _ _ (by omega) hK rfl rfl)⟩
  case stop =>
    rintro D c pre W _ _ h _
    exact h.elim
set_option maxHeartbeats 1000000 in
theorem collect_any (Bs : Nat) (wv : Value) (bl : Nat → Nat) (zs : List FlyM) (hz : zs.length ≤ 1000000) (w : World) (hBs : Bs < w.heap.size) (hc : w.cell? ⟨Bs, 0, none⟩ = some wv) (hI : QV w.heap.size w wv bl zs) :
    Calls Tryz.prog 119 #[.func (.func 121) #[] #[.pointer (some ⟨Bs, 0, none⟩)]] w fun e W' => ∃ v, e = .returned v ∧ W'.ownsRow w.heap.size 126 4 v zs.length (pcls bl zs) ∧ (v = .slice none 0 0 ↔ zs = []) ∧ Below w.heap.size w W' := by
  have hcon := callsIn_wide.1 (appendSeq_in Fence.wide 3 trivial trivial rfl (by omega) Bs wv bl zs hz w hBs hc hI)
  clear hI hc
  go_enter Tryz.func119, Tryz.ntmps119
  go_wp2_with fail
  refine hcon.mono ?_
  rintro e w2 ⟨v, rfl, h1, h2, h3⟩
  go_wp2
  go_ret
  exact ⟨v, rfl, h1, h2, h3⟩
end Go.Proofs.YtandblanpafjoaaGreatDoor

namespace Go.Proofs.YtandblanpafjoaaGreatDoor
open Go.RowKit Go.Shelf Go.Sort Go.Extern.Stop Go.Stop Go.Extern
instance : Inhabited FlyM := ⟨fly0⟩
set_option maxRecDepth 10000 in
set_option maxHeartbeats 800000 in
theorem order_grow (to1 d1 n1 to2 d2 n2 : Int) (v1 v2 : Value) (w : World) :
    Calls Tryz.prog 101 #[.agg #[.int .i64 to1, .int .i64 d1, v1, .int .i64 n1], .agg #[.int .i64 to2, .int .i64 d2, v2, .int .i64 n2]] w fun e w' => e = .returned (.int .i64 (ordI d1 n1 d2 n2)) ∧ ∃ q os', w' = grow (w.drewN q) os' := by
  have x1 : Blk ((w.alloc (.cells #[.int .i64 to1, .int .i64 d1, v1, .int .i64 n1] 126)).alloc (.cells #[.int .i64 to2, .int .i64 d2, v2, .int .i64 n2] 126)) w.heap.size #[.int .i64 to1, .int .i64 d1, v1, .int .i64 n1] 126 := (Blk.new w _ _).alloc _
  have x2 : Blk ((w.alloc (.cells #[.int .i64 to1, .int .i64 d1, v1, .int .i64 n1] 126)).alloc (.cells #[.int .i64 to2, .int .i64 d2, v2, .int .i64 n2] 126)) (w.heap.size + 1) #[.int .i64 to2, .int .i64 d2, v2, .int .i64 n2] 126 := by
    have := Blk.new (w.alloc (.cells #[.int .i64 to1, .int .i64 d1, v1, .int .i64 n1] 126)) #[.int .i64 to2, .int .i64 d2, v2, .int .i64 n2] 126
    simpa using this
  obtain ⟨V, hV⟩ : ∃ V, (w.alloc (.cells #[.int .i64 to1, .int .i64 d1, v1, .int .i64 n1] 126)).alloc (.cells #[.int .i64 to2, .int .i64 d2, v2, .int .i64 n2] 126) = V := ⟨_, rfl⟩
  have hG : ∀ o : Obj, ∃ q os', V.drew.alloc o = grow (w.drewN q) os' := fun o => by
    refine ⟨1, (#[.cells #[.int .i64 to1, .int .i64 d1, v1, .int .i64 n1] 126] ++ #[.cells #[.int .i64 to2, .int .i64 d2, v2, .int .i64 n2] 126]) ++ #[o], ?_⟩
    rw [← hV, alloc_eq_grow w, alloc_eq_grow (grow w _), grow_grow, drew_grow, alloc_eq_grow, grow_grow]
    rfl
  rw [hV] at x1 x2
  go_enter Tryz.func101, Tryz.ntmps101
  go_wp2_with fail
  try rw [hV]
  clear hV
  have a1 : V.cell? ⟨w.heap.size, 1, none⟩ = some (.int .i64 d1) := x1.cell 1
  have a3 : V.cell? ⟨w.heap.size, 3, none⟩ = some (.int .i64 n1) := x1.cell 3
  have b1 : V.cell? ⟨w.heap.size + 1, 1, none⟩ = some (.int .i64 d2) := x2.cell 1
  have b3 : V.cell? ⟨w.heap.size + 1, 3, none⟩ = some (.int .i64 n2) := x2.cell 3
  have HX := hide hG
  clear hG x1 x2
  refine wp_moves_reads_tail0 12 (by kernel_rfl) (by kernel_rfl) (by kernel_rfl) (by kernel_rfl) ?_
  simp only [List.take_succ_cons, List.take_zero, List.drop_succ_cons, List.drop_zero]
  still_step
  still_step
  still_step
  still_step
  still_step
  still_step
  still_call (cmp_any d1 d2 V.drew)
  still_step
  still_step
  still_step
  still_step
  still_call (cmp_any n1 n2 V.drew)
  refine wpStill_nil ?_
  go_wp2_with fail
  refine (or_any V.heap.size (cmpI d1 d2) (cmpI n1 n2) _ (by simp) (by simp)).mono ?_
  rintro e w3 ⟨rfl, rfl⟩
  go_wp2
  go_ret
  exact ⟨rfl, unhide HX _⟩
def cfF (x y : FlyM) : Int := ordI x.due x.num y.due y.num
theorem ltF (x y : FlyM) : ltOf cfF x y = decide (before x y) := ordI_lt x.due x.num y.due y.num
theorem swoF : SWO (ltOf cfF) where
  irrefl x := by rw [ltF]; simp [before]
  trans x y z h1 h2 := by
    rw [ltF, decide_eq_true_eq] at h1 h2 ⊢
    unfold before at h1 h2 ⊢
    omega
  ntrans x y z h1 h2 := by
    rw [ltF, decide_eq_false_iff_not] at h1 h2 ⊢
    unfold before at h1 h2 ⊢
    omega
theorem cmpF (bl : Nat → Nat) (blk off size : Nat) (w : World) : CmpLays Tryz.prog 101 #[] (pcl bl) 4 cfF blk off size w :=
  fun _ _ _ _ x y => order_grow (x.to : Int) (x.due : Int) (x.num : Int) (y.to : Int) (y.due : Int) (y.num : Int) _ _ _
theorem fl_get (l : List FlyM) (i : Nat) (h : i < l.length) : l.toArray[i]! = fl l i := by
  rw [getElem!_pos l.toArray i (by simpa using h)]
  simp [fl, List.getD_eq_getElem?_getD, h]
theorem pcl_get! (bl : Nat → Nat) (f : FlyM) (j : Nat) (hj : j < 4) : (pcl bl f)[j]? = some ((pcl bl f)[j]!) := by
  rw [List.getElem?_eq_getElem (by rw [pcl_len]; exact hj), List.getElem!_eq_getElem?_getD, List.getElem?_eq_getElem (by rw [pcl_len]; exact hj)]; rfl
theorem holdsQ {w : World} {g cap : Nat} {bl : Nat → Nat} {l : List FlyM} (h : QAt w g cap bl l) : HoldsK (pcl bl) 4 w g 0 l.toArray := by
  intro t ht
  rw [size_flatK] at ht
  have ht2 : t < l.length * 4 := by simpa using ht
  rw [get_flatK _ _ _ _ ht, Nat.zero_add, fl_get l (t / 4) (by omega)]
  obtain ⟨cs, hB, _, _⟩ := h.blk
  refine ⟨?_, hB.frozen t⟩
  have := h.cell (t / 4) (t % 4) (by omega) (Nat.mod_lt _ (by omega))
  rw [show t / 4 * 4 + t % 4 = t by omega] at this
  rw [this]
  exact pcl_get! bl _ _ (Nat.mod_lt _ (by omega))
/-- Parcels in the cells of a block, to read. -/
def ParcAt (w : World) (b : Nat) (bl : Nat → Nat) (l : List FlyM) : Prop := ∀ i j, i < l.length → j < 4 → w.cell? ⟨b, i * 4 + j, none⟩ = (pcl bl (fl l i))[j]?
theorem ParcAt.same {w w' : World} {b : Nat} {bl : Nat → Nat} {l : List FlyM} (h : ParcAt w b bl l) (hs : w'.heap[b]? = w.heap[b]?) : ParcAt w' b bl l := fun i j hi hj => by
  rw [← h i j hi hj]
  simp only [World.cell?, hs]
theorem parc_of_holds {w : World} {b : Nat} {bl : Nat → Nat} {d : Array FlyM} (h : HoldsK (pcl bl) 4 w b 0 d) : ParcAt w b bl d.toList := fun i j hi hj => by
  have hi2 : i < d.size := by simpa using hi
  have := (h.cell (i := i) (c := j) hi2 hj).1
  rw [Nat.zero_add] at this
  rw [this, pcl_get! bl _ j hj]
  congr 3
  have := fl_get d.toList i hi
  simpa using this
theorem below_sorted (enc : FlyM → List Value) (w : World) (b n base : Nat) (d : Array FlyM) (os : Array Obj) (hb : base ≤ b) (hw : base ≤ w.heap.size) : Below base w (sortWorldK enc 4 w b 0 n d os) := by
  refine ⟨rfl, rfl, rfl, size_sortWorldK_c enc 4 w b 0 n d os, fun k hk => ?_⟩
  unfold sortWorldK grow putRowK putRow mapBlock
  show ((w.heap.modify b _) ++ os)[k]? = w.heap[k]?
  rw [Array.getElem?_append_left (by rw [Array.size_modify]; omega), Array.getElem?_modify, if_neg (by omega)]
theorem perm_of_in {d d' : Array FlyM} (h : PermIn 0 d.size d d') : d'.toList.Perm d.toList := by
  have h1 := h.2.2
  rw [← h.1] at h1
  conv at h1 => rhs; rw [h.1]
  simpa using h1
theorem sorted_of_in {d : Array FlyM} (h : SortedIn (ltOf cfF) 0 d.size d) : d.toList.Pairwise fun a b => ¬ before b a := by
  rw [List.pairwise_iff_getElem]
  intro i j hi hj hij
  have hi2 : i < d.size := by simpa using hi
  have hj2 : j < d.size := by simpa using hj
  have := h i j (Nat.zero_le _) hij hj2
  rw [ltF, getElem!_pos d i hi2, getElem!_pos d j hj2] at this
  simpa using this
end Go.Proofs.YtandblanpafjoaaGreatDoor

namespace Go.Proofs.YtandblanpafjoaaGreatDoor
open Go.RowKit Go.Shelf Go.Sort
def Tryz.sortRen : Go.Shelf.Ren where
  f := fun x => match x with
    | 6 => 120
    | 14 => 134
    | 15 => 135
    | 20 => 141
    | 21 => 142
    | 22 => 143
    | 23 => 144
    | 24 => 145
    | 25 => 146
    | 26 => 147
    | 27 => 148
    | 28 => 149
    | 29 => 150
    | 46 => 153
    | 47 => 154
    | 48 => 155
    | 49 => 156
    | 50 => 157
    | 57 => 158
    | n => n
  t := fun x => match x with
    | 0 => 0
    | 3 => 3
    | 4 => 4
    | 5 => 5
    | 9 => 9
    | 22 => 61
    | 24 => 126
    | 25 => 181
    | 39 => 176
    | 45 => 272
    | 46 => 273
    | 50 => 277
    | 53 => 102
    | 55 => 269
    | 66 => 283
    | 70 => 287
    | 76 => 289
    | 77 => 211
    | n => n
  g := fun x => x
theorem Tryz.sortP : SlLaysF0.n6 Tryz.prog Tryz.sortRen where
  mixed := by kernel_rfl
  f6 := Exists.intro "slices.SortFunc[[]rollback/wire.parcel,rollback/wire.parcel]" ⟨by decide, Tryz.func120.trans (by kernel_rfl)⟩
  f14 := Exists.intro "slices.pdqsortCmpFunc[rollback/wire.parcel]" ⟨by decide, Tryz.func134.trans (by kernel_rfl)⟩
  f15 := Tryz.func135.trans (by kernel_rfl)
  f20 := Exists.intro "slices.insertionSortCmpFunc[rollback/wire.parcel]" ⟨by decide, Tryz.func141.trans (by kernel_rfl)⟩
  f21 := Exists.intro "slices.heapSortCmpFunc[rollback/wire.parcel]" ⟨by decide, Tryz.func142.trans (by kernel_rfl)⟩
  f22 := Exists.intro "slices.breakPatternsCmpFunc[rollback/wire.parcel]" ⟨by decide, Tryz.func143.trans (by kernel_rfl)⟩
  f23 := Exists.intro "slices.choosePivotCmpFunc[rollback/wire.parcel]" ⟨by decide, Tryz.func144.trans (by kernel_rfl)⟩
  f24 := Exists.intro "slices.reverseRangeCmpFunc[rollback/wire.parcel]" ⟨by decide, Tryz.func145.trans (by kernel_rfl)⟩
  f25 := Exists.intro "slices.partialInsertionSortCmpFunc[rollback/wire.parcel]" ⟨by decide, Tryz.func146.trans (by kernel_rfl)⟩
  f26 := Exists.intro "slices.partitionEqualCmpFunc[rollback/wire.parcel]" ⟨by decide, Tryz.func147.trans (by kernel_rfl)⟩
  f27 := Exists.intro "slices.partitionCmpFunc[rollback/wire.parcel]" ⟨by decide, Tryz.func148.trans (by kernel_rfl)⟩
  f28 := Tryz.func149.trans (by kernel_rfl)
  f29 := Tryz.func150.trans (by kernel_rfl)
  f46 := Exists.intro "slices.siftDownCmpFunc[rollback/wire.parcel]" ⟨by decide, Tryz.func153.trans (by kernel_rfl)⟩
  f47 := Tryz.func154.trans (by kernel_rfl)
  f48 := Tryz.func155.trans (by kernel_rfl)
  f49 := Exists.intro "slices.medianAdjacentCmpFunc[rollback/wire.parcel]" ⟨by decide, Tryz.func156.trans (by kernel_rfl)⟩
  f50 := Exists.intro "slices.medianCmpFunc[rollback/wire.parcel]" ⟨by decide, Tryz.func157.trans (by kernel_rfl)⟩
  f57 := Exists.intro "slices.order2CmpFunc[rollback/wire.parcel]" ⟨by decide, Tryz.func158.trans (by kernel_rfl)⟩
  t0 := Tryz.underlying0
  a0 := Tryz.isAgg0
  z0 := Tryz.sizeOf0
  v0 := Tryz.zeroValue0
  t3 := Tryz.underlying3
  a3 := Tryz.isAgg3
  z3 := Tryz.sizeOf3
  v3 := Tryz.zeroValue3
  t4 := Tryz.underlying4
  a4 := Tryz.isAgg4
  z4 := Tryz.sizeOf4
  v4 := Tryz.zeroValue4
  t5 := Tryz.underlying5
  a5 := Tryz.isAgg5
  z5 := Tryz.sizeOf5
  v5 := Tryz.zeroValue5
  t9 := Tryz.underlying9
  a9 := Tryz.isAgg9
  z9 := Tryz.sizeOf9
  v9 := Tryz.zeroValue9
  t22 := Tryz.underlying61
  a22 := Tryz.isAgg61
  z22 := Tryz.sizeOf61
  v22 := Tryz.zeroValue61
  t25 := Tryz.underlying181
  a25 := Tryz.isAgg181
  z25 := Tryz.sizeOf181
  v25 := Tryz.zeroValue181
  t39 := Tryz.underlying176
  a39 := Tryz.isAgg176
  z39 := Tryz.sizeOf176
  v39 := Tryz.zeroValue176
  t45 := Tryz.underlying272
  a45 := Tryz.isAgg272
  z45 := Tryz.sizeOf272
  v45 := Tryz.zeroValue272
  t46 := Tryz.underlying273
  a46 := Tryz.isAgg273
  z46 := Tryz.sizeOf273
  v46 := Tryz.zeroValue273
  t50 := Tryz.underlying277
  a50 := Tryz.isAgg277
  z50 := Tryz.sizeOf277
  v50 := Tryz.zeroValue277
  t53 := Tryz.underlying102
  a53 := Tryz.isAgg102
  z53 := Tryz.sizeOf102
  v53 := Tryz.zeroValue102
  t55 := Tryz.underlying269
  a55 := Tryz.isAgg269
  z55 := Tryz.sizeOf269
  v55 := Tryz.zeroValue269
  t66 := Tryz.underlying283
  a66 := Tryz.isAgg283
  z66 := Tryz.sizeOf283
  v66 := Tryz.zeroValue283
  t70 := Tryz.underlying287
  a70 := Tryz.isAgg287
  z70 := Tryz.sizeOf287
  v70 := Tryz.zeroValue287
  t76 := Tryz.underlying289
  a76 := Tryz.isAgg289
  z76 := Tryz.sizeOf289
  v76 := Tryz.zeroValue289
  t77 := Tryz.underlying211
  a77 := Tryz.isAgg211
  z77 := Tryz.sizeOf211
  v77 := Tryz.zeroValue211
end Go.Proofs.YtandblanpafjoaaGreatDoor

namespace Go.Proofs.YtandblanpafjoaaGreatDoor
open Go.RowKit Go.Shelf Go.Sort Go.Extern.Stop Go.Stop Go.Extern
theorem Tryz.aggPcl (w : World) : (isAgg 126).run Tryz.prog w = .ok true w := by kernel_rfl
theorem Tryz.sizeOfPcl (w : World) : (Go.sizeOf 126).run Tryz.prog w = .ok 4 w := by kernel_rfl
theorem pcl_ones (bl : Nat → Nat) (x : FlyM) : ∀ v ∈ pcl bl x, v.oneCell' = true := by
  intro u hu; simp [pcl] at hu; rcases hu with rfl | rfl | rfl | rfl <;> rfl
/-- What SortedFunc gives: in a block of its own the parcels, in order; nil, where there is none. -/
def SortV (w : World) (base : Nat) (v : Value) (bl : Nat → Nat) (zs : List FlyM) : Prop := (v = .slice none 0 0 ∧ zs = []) ∨ ∃ b cap, v = .slice (some ⟨b, 0, none⟩) zs.length cap ∧ base ≤ b ∧ b < w.heap.size ∧ ParcAt w b bl zs
set_option maxRecDepth 10000 in
set_option maxHeartbeats 1000000 in
theorem sorted_any (Bs : Nat) (wv : Value) (bl : Nat → Nat) (zs : List FlyM) (hz : zs.length ≤ 1000000) (w : World) (hBs : Bs < w.heap.size) (hc : w.cell? ⟨Bs, 0, none⟩ = some wv) (hI : QV w.heap.size w wv bl zs) :
    Calls Tryz.prog 99 #[.func (.func 121) #[] #[.pointer (some ⟨Bs, 0, none⟩)], .func (.func 101) #[] #[]] w fun e W' => ∃ v ys, e = .returned v ∧ ys.Perm zs ∧ ys.Pairwise (fun a b => ¬ before b a) ∧ SortV W' w.heap.size v bl ys ∧ Below w.heap.size w W' := by
  have hcon := collect_any Bs wv bl zs hz w hBs hc hI
  clear hI hc
  go_enter Tryz.func99, Tryz.ntmps99
  go_wp2_with fail
  refine hcon.mono ?_
  clear hcon
  rintro e w2 ⟨v, rfl, h1, h2, h3⟩
  rcases h1.2 with ⟨rfl, h0⟩ | ⟨g, cap, cur, rfl, hbg, hg, hnc, hcm, hcs, ht⟩
  · have hz0 : zs = [] := List.length_eq_zero_iff.1 h0
    subst hz0
    have hcon := AnyF.slices_SortFunc_none Tryz.sortP none 0 (.func (.func 101) #[] #[]) w2
    change Calls Tryz.prog 120 _ _ _ at hcon
    have H := hide h3
    clear h1 h2 h3
    go_wp2_with fail
    refine hcon.mono ?_
    clear hcon
    rintro e w3 ⟨rfl, rfl⟩
    go_wp2
    go_ret
    exact ⟨_, [], rfl, List.Perm.refl _, List.Pairwise.nil, .inl ⟨rfl, rfl⟩, unhide H⟩
  · have hQ : QAt w2 g cap bl zs := ⟨⟨cur, hg, hcs, ht⟩, hcm, hnc⟩
    have eg : ∀ args w, (callFunc 101 args).run Tryz.prog w = .ok (.enter 101 args) w := enters_of Tryz.func101 (by kernel_rfl) rfl
    have hcon := AnyQ.slices_SortFunc Tryz.sortP 4 Tryz.aggPcl Tryz.sizeOfPcl (pcl bl) (fun _ => rfl) (pcl_ones bl) cfF swoF 101 #[] g 0 cap zs.toArray w2 eg (cmpF bl g 0 _ w2) (holdsQ hQ) hQ.lt (by simp; omega)
    change Calls Tryz.prog 120 _ _ _ at hcon
    rw [show zs.toArray.size = zs.length by simp] at hcon
    have H := hide (And.intro h3 (And.intro hQ hbg))
    clear h1 h2 h3 hQ hg hcs ht hnc hcm
    go_wp2_with fail
    refine hcon.mono ?_
    clear hcon
    rintro e w3 ⟨rfl, d', n, os, hp, hs, rfl⟩
    obtain ⟨h3, hQ, hbg⟩ := unhide H
    have hsz : d'.size = zs.length := by have := hp.1; simpa using this
    have hp2 : d'.toList.Perm zs := by
      have := perm_of_in (d := zs.toArray) (d' := d') (by simpa using hp)
      simpa using this
    have hs2 := sorted_of_in (d := d') (by rw [hsz]; exact hs)
    have hH := holdsK_sortWorldK_c (pcl bl) 4 w2 g 0 zs.toArray d' n os (holdsQ hQ) hQ.lt (by simpa using hsz)
    have hP := parc_of_holds hH
    have hb := below_sorted (pcl bl) w2 g n w.heap.size d' os hbg h3.size
    have hlt : g < (sortWorldK (pcl bl) 4 w2 g 0 n d' os).heap.size := Nat.lt_of_lt_of_le hQ.lt (size_sortWorldK_c (pcl bl) 4 w2 g 0 n d' os)
    generalize sortWorldK (pcl bl) 4 w2 g 0 n d' os = w4 at *
    have H2 := hide (And.intro hp2 (And.intro hs2 (And.intro hP (And.intro (h3.trans hb) hlt))))
    clear hp hs hp2 hs2 hH hP hb h3 hQ hlt
    go_wp2
    go_ret
    obtain ⟨hp2, hs2, hP, hb, hlt⟩ := unhide H2
    exact ⟨_, d'.toList, rfl, hp2, hs2, .inr ⟨g, cap, by rw [hp2.length_eq]; rfl, hbg, hlt, hP⟩, hb⟩
set_option maxRecDepth 100000 in
set_option maxHeartbeats 1000000 in
theorem sclone_any (b n c : Nat) (l : List Int) (w : World) (hl : l.length = n) (hn : n ≤ 100000) (hsrc : SrcAt w (some ⟨b, 0, none⟩) l) :
    Calls Tryz.prog 102 #[.slice (some ⟨b, 0, none⟩) n c] w fun e w' => ∃ g cap, e = .returned (.slice (some ⟨g, 0, none⟩) n cap) ∧ w.heap.size ≤ g ∧ g < w'.heap.size ∧ w'.ownsRow w.heap.size 5 1 (.slice (some ⟨g, 0, none⟩) n cap) n (l.map (Value.int .u8)) ∧ Below w.heap.size w w' := by
  obtain ⟨i8, hi8, hz8, hs8, hy8⟩ := info_parts Tryz.infoU8
  have HT := hide (And.intro hi8 (And.intro hz8 (And.intro hs8 hy8)))
  have HS := hide hsrc
  have HL := hide hl
  have hnn := not_nil
  clear hi8 hz8 hs8 hy8 hsrc hl
  go_enter Tryz.func102, Tryz.ntmps102
  go_wp2_with (at_builtin; refine wpList_append_src rfl _ _ 46 rfl w.heap.size 5 i8 (.int .u8 0) Tryz.underlying46 (unhide HT).1 (unhide HT).2.1 (unhide HT).2.2.1 (unhide HT).2.2.2 rfl _ 0 _ rfl (own_lit w _ 0 _ rfl (Nat.le_refl _) (by unfold maxLen; omega) rfl) _ n c l rfl (fun h => by cases h) (unhide HL) ((unhide HS).alloc _) (by omega) (by simp only [World.size_alloc]; omega) ?_; intro v4 w4 hown4 hgr4 hnil4)
  go_ret
  have hB : Below w.heap.size w w4 := ((Below.refl _ _).alloc (Nat.le_refl _) _).trans (below_grown hgr4 (by simp) (by simp))
  have hown : w4.ownsRow w.heap.size 5 1 v4 n (l.map (Value.int .u8)) := by simpa using hown4
  rcases hown.2 with ⟨h', _⟩ | ⟨g, cap, cur, h', hbg, hg, _⟩
  · have := (hnil4.1 h').1
    cases this
  · subst h'
    exact ⟨g, cap, rfl, hbg, (Array.getElem?_eq_some_iff.1 hg).1, hown, hB⟩
end Go.Proofs.YtandblanpafjoaaGreatDoor

