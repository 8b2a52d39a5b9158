import Derived.Test.YtandblanpafjoabGreatDoorPack21
import Derived.Shelf.SlSortCmp.WholeK
import Derived.Test.YtandblanpafjoabGreatDoorPack01
import Derived.Test.YtandblanpafjoabGreatDoorPack20
import Derived.Shelf.SlSortCmp.NoneTotal
namespace Go.Proofs.YtandblanpafjoabGreatDoor
open Go.RowKit Go.Shelf Go.Sort Go.Extern.Stop Go.Stop Go.Extern

/-! slices.SortFunc over parcels. -/
instance : Inhabited FlyM := ⟨fly0⟩
set_option maxRecDepth 10000 in
set_option maxHeartbeats 800000 in
theorem order_grow (to1 d1 n1 to2 d2 n2 : Int) (v1 v2 : Value) (w : World) :
    Calls Tryz.prog 58 #[.agg #[.int .i64 to1, .int .i64 d1, v1, .int .i64 n1], .agg #[.int .i64 to2, .int .i64 d2, v2, .int .i64 n2]] w fun e w' => e = .returned (.int .i64 (ordI d1 n1 d2 n2)) ∧ ∃ q os', w' = grow (w.drewN q) os' := by
  have x1 : Blk ((w.alloc (.cells #[.int .i64 to1, .int .i64 d1, v1, .int .i64 n1] 127)).alloc (.cells #[.int .i64 to2, .int .i64 d2, v2, .int .i64 n2] 127)) w.heap.size #[.int .i64 to1, .int .i64 d1, v1, .int .i64 n1] 127 := (Blk.new w _ _).alloc _
  have x2 : Blk ((w.alloc (.cells #[.int .i64 to1, .int .i64 d1, v1, .int .i64 n1] 127)).alloc (.cells #[.int .i64 to2, .int .i64 d2, v2, .int .i64 n2] 127)) (w.heap.size + 1) #[.int .i64 to2, .int .i64 d2, v2, .int .i64 n2] 127 := by
    have := Blk.new (w.alloc (.cells #[.int .i64 to1, .int .i64 d1, v1, .int .i64 n1] 127)) #[.int .i64 to2, .int .i64 d2, v2, .int .i64 n2] 127
    simpa using this
  obtain ⟨V, hV⟩ : ∃ V, (w.alloc (.cells #[.int .i64 to1, .int .i64 d1, v1, .int .i64 n1] 127)).alloc (.cells #[.int .i64 to2, .int .i64 d2, v2, .int .i64 n2] 127) = V := ⟨_, rfl⟩
  have hG : ∀ o : Obj, ∃ q os', V.drew.alloc o = grow (w.drewN q) os' := fun o => by
    refine ⟨1, (#[.cells #[.int .i64 to1, .int .i64 d1, v1, .int .i64 n1] 127] ++ #[.cells #[.int .i64 to2, .int .i64 d2, v2, .int .i64 n2] 127]) ++ #[o], ?_⟩
    rw [← hV, alloc_eq_grow w, alloc_eq_grow (grow w _), grow_grow, drew_grow, alloc_eq_grow, grow_grow]
    rfl
  rw [hV] at x1 x2
  go_enter Tryz.func58, Tryz.ntmps58
  go_wp2_with fail
  try rw [hV]
  clear hV
  have a1 : V.cell? ⟨w.heap.size, 1, none⟩ = some (.int .i64 d1) := x1.cell 1
  have a3 : V.cell? ⟨w.heap.size, 3, none⟩ = some (.int .i64 n1) := x1.cell 3
  have b1 : V.cell? ⟨w.heap.size + 1, 1, none⟩ = some (.int .i64 d2) := x2.cell 1
  have b3 : V.cell? ⟨w.heap.size + 1, 3, none⟩ = some (.int .i64 n2) := x2.cell 3
  have HX := hide hG
  clear hG x1 x2
  refine wp_moves_reads_tail0 12 (by kernel_rfl) (by kernel_rfl) (by kernel_rfl) (by kernel_rfl) ?_
  simp only [List.take_succ_cons, List.take_zero, List.drop_succ_cons, List.drop_zero]
  still_step
  still_step
  still_step
  still_step
  still_step
  still_step
  still_call (cmp_any d1 d2 V.drew)
  still_step
  still_step
  still_step
  still_step
  still_call (cmp_any n1 n2 V.drew)
  refine wpStill_nil ?_
  go_wp2_with fail
  refine (or_any V.heap.size (cmpI d1 d2) (cmpI n1 n2) _ (by simp) (by simp)).mono ?_
  rintro e w3 ⟨rfl, rfl⟩
  go_wp2
  go_ret
  exact ⟨rfl, unhide HX _⟩
def cfF (x y : FlyM) : Int := ordI x.due x.num y.due y.num
theorem ltF (x y : FlyM) : ltOf cfF x y = decide (before x y) := ordI_lt x.due x.num y.due y.num
theorem swoF : SWO (ltOf cfF) where
  irrefl x := by rw [ltF]; simp [before]
  trans x y z h1 h2 := by
    rw [ltF, decide_eq_true_eq] at h1 h2 ⊢
    unfold before at h1 h2 ⊢
    omega
  ntrans x y z h1 h2 := by
    rw [ltF, decide_eq_false_iff_not] at h1 h2 ⊢
    unfold before at h1 h2 ⊢
    omega
theorem cmpF (bl : Nat → Nat) (blk off size : Nat) (w : World) : CmpLays Tryz.prog 58 #[] (pcl bl) 4 cfF blk off size w :=
  fun _ _ _ _ x y => order_grow (x.to : Int) (x.due : Int) (x.num : Int) (y.to : Int) (y.due : Int) (y.num : Int) _ _ _
theorem fl_get (l : List FlyM) (i : Nat) (h : i < l.length) : l.toArray[i]! = fl l i := by
  rw [getElem!_pos l.toArray i (by simpa using h)]
  simp [fl, List.getD_eq_getElem?_getD, h]
theorem pcl_get! (bl : Nat → Nat) (f : FlyM) (j : Nat) (hj : j < 4) : (pcl bl f)[j]? = some ((pcl bl f)[j]!) := by
  rw [List.getElem?_eq_getElem (by rw [pcl_len]; exact hj), List.getElem!_eq_getElem?_getD, List.getElem?_eq_getElem (by rw [pcl_len]; exact hj)]; rfl
theorem holdsQ {w : World} {g cap : Nat} {bl : Nat → Nat} {l : List FlyM} (h : QAt w g cap bl l) : HoldsK (pcl bl) 4 w g 0 l.toArray := by
  intro t ht
  rw [size_flatK] at ht
  have ht2 : t < l.length * 4 := by simpa using ht
  rw [get_flatK _ _ _ _ ht, Nat.zero_add, fl_get l (t / 4) (by omega)]
  obtain ⟨cs, hB, _, _⟩ := h.blk
  refine ⟨?_, hB.frozen t⟩
  have := h.cell (t / 4) (t % 4) (by omega) (Nat.mod_lt _ (by omega))
  rw [show t / 4 * 4 + t % 4 = t by omega] at this
  rw [this]
  exact pcl_get! bl _ _ (Nat.mod_lt _ (by omega))
/-- Parcels in the cells of a block, to read. -/
def ParcAt (w : World) (b : Nat) (bl : Nat → Nat) (l : List FlyM) : Prop := ∀ i j, i < l.length → j < 4 → w.cell? ⟨b, i * 4 + j, none⟩ = (pcl bl (fl l i))[j]?
theorem ParcAt.same {w w' : World} {b : Nat} {bl : Nat → Nat} {l : List FlyM} (h : ParcAt w b bl l) (hs : w'.heap[b]? = w.heap[b]?) : ParcAt w' b bl l := fun i j hi hj => by
  rw [← h i j hi hj]
  simp only [World.cell?, hs]
theorem parc_of_holds {w : World} {b : Nat} {bl : Nat → Nat} {d : Array FlyM} (h : HoldsK (pcl bl) 4 w b 0 d) : ParcAt w b bl d.toList := fun i j hi hj => by
  have hi2 : i < d.size := by simpa using hi
  have := (h.cell (i := i) (c := j) hi2 hj).1
  rw [Nat.zero_add] at this
  rw [this, pcl_get! bl _ j hj]
  congr 3
  have := fl_get d.toList i hi
  simpa using this
theorem below_sorted (enc : FlyM → List Value) (w : World) (b n base : Nat) (d : Array FlyM) (os : Array Obj) (hb : base ≤ b) (hw : base ≤ w.heap.size) : Below base w (sortWorldK enc 4 w b 0 n d os) := by
  refine ⟨rfl, rfl, rfl, size_sortWorldK_c enc 4 w b 0 n d os, fun k hk => ?_⟩
  unfold sortWorldK grow putRowK putRow mapBlock
  show ((w.heap.modify b _) ++ os)[k]? = w.heap[k]?
  rw [Array.getElem?_append_left (by rw [Array.size_modify]; omega), Array.getElem?_modify, if_neg (by omega)]
theorem perm_of_in {d d' : Array FlyM} (h : PermIn 0 d.size d d') : d'.toList.Perm d.toList := by
  have h1 := h.2.2
  rw [← h.1] at h1
  conv at h1 => rhs; rw [h.1]
  simpa using h1
theorem sorted_of_in {d : Array FlyM} (h : SortedIn (ltOf cfF) 0 d.size d) : d.toList.Pairwise fun a b => ¬ before b a := by
  rw [List.pairwise_iff_getElem]
  intro i j hi hj hij
  have hi2 : i < d.size := by simpa using hi
  have hj2 : j < d.size := by simpa using hj
  have := h i j (Nat.zero_le _) hij hj2
  rw [ltF, getElem!_pos d i hi2, getElem!_pos d j hj2] at this
  simpa using this
end Go.Proofs.YtandblanpafjoabGreatDoor

namespace Go.Proofs.YtandblanpafjoabGreatDoor
open Go.RowKit Go.Shelf Go.Sort

/-! slices.SortFunc at parcels: which function and type is which. -/
def Tryz.sortRen : Go.Shelf.Ren where
  f := fun x => match x with
    | 6 => 88
    | 14 => 108
    | 15 => 109
    | 20 => 114
    | 21 => 115
    | 22 => 116
    | 23 => 117
    | 24 => 118
    | 25 => 119
    | 26 => 120
    | 27 => 121
    | 28 => 122
    | 29 => 123
    | 46 => 127
    | 47 => 128
    | 48 => 129
    | 49 => 130
    | 50 => 131
    | 57 => 132
    | n => n
  t := fun x => match x with
    | 0 => 0
    | 3 => 3
    | 4 => 4
    | 5 => 5
    | 9 => 9
    | 22 => 78
    | 24 => 127
    | 25 => 135
    | 39 => 207
    | 45 => 234
    | 46 => 235
    | 50 => 239
    | 53 => 46
    | 55 => 211
    | 66 => 258
    | 70 => 262
    | 76 => 264
    | 77 => 265
    | n => n
  g := fun x => x
theorem Tryz.sortP : SlLaysF0.n6 Tryz.prog Tryz.sortRen where
  mixed := by kernel_rfl
  f6 := Exists.intro "slices.SortFunc[[]rollback/wire.parcel,rollback/wire.parcel]" ⟨by decide, Tryz.func88.trans (by kernel_rfl)⟩
  f14 := Exists.intro "slices.pdqsortCmpFunc[rollback/wire.parcel]" ⟨by decide, Tryz.func108.trans (by kernel_rfl)⟩
  f15 := Tryz.func109.trans (by kernel_rfl)
  f20 := Exists.intro "slices.insertionSortCmpFunc[rollback/wire.parcel]" ⟨by decide, Tryz.func114.trans (by kernel_rfl)⟩
  f21 := Exists.intro "slices.heapSortCmpFunc[rollback/wire.parcel]" ⟨by decide, Tryz.func115.trans (by kernel_rfl)⟩
  f22 := Exists.intro "slices.breakPatternsCmpFunc[rollback/wire.parcel]" ⟨by decide, Tryz.func116.trans (by kernel_rfl)⟩
  f23 := Exists.intro "slices.choosePivotCmpFunc[rollback/wire.parcel]" ⟨by decide, Tryz.func117.trans (by kernel_rfl)⟩
  f24 := Exists.intro "slices.reverseRangeCmpFunc[rollback/wire.parcel]" ⟨by decide, Tryz.func118.trans (by kernel_rfl)⟩
  f25 := Exists.intro "slices.partialInsertionSortCmpFunc[rollback/wire.parcel]" ⟨by decide, Tryz.func119.trans (by kernel_rfl)⟩
  f26 := Exists.intro "slices.partitionEqualCmpFunc[rollback/wire.parcel]" ⟨by decide, Tryz.func120.trans (by kernel_rfl)⟩
  f27 := Exists.intro "slices.partitionCmpFunc[rollback/wire.parcel]" ⟨by decide, Tryz.func121.trans (by kernel_rfl)⟩
  f28 := Tryz.func122.trans (by kernel_rfl)
  f29 := Tryz.func123.trans (by kernel_rfl)
  f46 := Exists.intro "slices.siftDownCmpFunc[rollback/wire.parcel]" ⟨by decide, Tryz.func127.trans (by kernel_rfl)⟩
  f47 := Tryz.func128.trans (by kernel_rfl)
  f48 := Tryz.func129.trans (by kernel_rfl)
  f49 := Exists.intro "slices.medianAdjacentCmpFunc[rollback/wire.parcel]" ⟨by decide, Tryz.func130.trans (by kernel_rfl)⟩
  f50 := Exists.intro "slices.medianCmpFunc[rollback/wire.parcel]" ⟨by decide, Tryz.func131.trans (by kernel_rfl)⟩
  f57 := Exists.intro "slices.order2CmpFunc[rollback/wire.parcel]" ⟨by decide, Tryz.func132.trans (by kernel_rfl)⟩
  t0 := Tryz.underlying0
  a0 := Tryz.isAgg0
  z0 := Tryz.sizeOf0
  v0 := Tryz.zeroValue0
  t3 := Tryz.underlying3
  a3 := Tryz.isAgg3
  z3 := Tryz.sizeOf3
  v3 := Tryz.zeroValue3
  t4 := Tryz.underlying4
  a4 := Tryz.isAgg4
  z4 := Tryz.sizeOf4
  v4 := Tryz.zeroValue4
  t5 := Tryz.underlying5
  a5 := Tryz.isAgg5
  z5 := Tryz.sizeOf5
  v5 := Tryz.zeroValue5
  t9 := Tryz.underlying9
  a9 := Tryz.isAgg9
  z9 := Tryz.sizeOf9
  v9 := Tryz.zeroValue9
  t22 := Tryz.underlying78
  a22 := Tryz.isAgg78
  z22 := Tryz.sizeOf78
  v22 := Tryz.zeroValue78
  t25 := Tryz.underlying135
  a25 := Tryz.isAgg135
  z25 := Tryz.sizeOf135
  v25 := Tryz.zeroValue135
  t39 := Tryz.underlying207
  a39 := Tryz.isAgg207
  z39 := Tryz.sizeOf207
  v39 := Tryz.zeroValue207
  t45 := Tryz.underlying234
  a45 := Tryz.isAgg234
  z45 := Tryz.sizeOf234
  v45 := Tryz.zeroValue234
  t46 := Tryz.underlying235
  a46 := Tryz.isAgg235
  z46 := Tryz.sizeOf235
  v46 := Tryz.zeroValue235
  t50 := Tryz.underlying239
  a50 := Tryz.isAgg239
  z50 := Tryz.sizeOf239
  v50 := Tryz.zeroValue239
  t53 := Tryz.underlying46
  a53 := Tryz.isAgg46
  z53 := Tryz.sizeOf46
  v53 := Tryz.zeroValue46
  t55 := Tryz.underlying211
  a55 := Tryz.isAgg211
  z55 := Tryz.sizeOf211
  v55 := Tryz.zeroValue211
  t66 := Tryz.underlying258
  a66 := Tryz.isAgg258
  z66 := Tryz.sizeOf258
  v66 := Tryz.zeroValue258
  t70 := Tryz.underlying262
  a70 := Tryz.isAgg262
  z70 := Tryz.sizeOf262
  v70 := Tryz.zeroValue262
  t76 := Tryz.underlying264
  a76 := Tryz.isAgg264
  z76 := Tryz.sizeOf264
  v76 := Tryz.zeroValue264
  t77 := Tryz.underlying265
  a77 := Tryz.isAgg265
  z77 := Tryz.sizeOf265
  v77 := Tryz.zeroValue265
end Go.Proofs.YtandblanpafjoabGreatDoor

namespace Go.Proofs.YtandblanpafjoabGreatDoor
open Go.RowKit Go.Shelf Go.Sort Go.Extern.Stop Go.Stop Go.Extern

/-! slices.SortedFunc, slices.Clone, the wire's Flights. -/
theorem Tryz.aggPcl (w : World) : (isAgg 127).run Tryz.prog w = .ok true w := by kernel_rfl
theorem Tryz.sizeOfPcl (w : World) : (Go.sizeOf 127).run Tryz.prog w = .ok 4 w := by kernel_rfl
theorem pcl_ones (bl : Nat → Nat) (x : FlyM) : ∀ v ∈ pcl bl x, v.oneCell' = true := by
  intro u hu; simp [pcl] at hu; rcases hu with rfl | rfl | rfl | rfl <;> rfl
/-- What SortedFunc gives: in a block of its own the parcels, in order; nil, where there is none. -/
def SortV (w : World) (base : Nat) (v : Value) (bl : Nat → Nat) (zs : List FlyM) : Prop := (v = .slice none 0 0 ∧ zs = []) ∨ ∃ b cap, v = .slice (some ⟨b, 0, none⟩) zs.length cap ∧ base ≤ b ∧ b < w.heap.size ∧ ParcAt w b bl zs
set_option maxRecDepth 10000 in
set_option maxHeartbeats 1000000 in
theorem sorted_any (Bs : Nat) (wv : Value) (bl : Nat → Nat) (zs : List FlyM) (hz : zs.length ≤ 1000000) (w : World) (hBs : Bs < w.heap.size) (hc : w.cell? ⟨Bs, 0, none⟩ = some wv) (hI : QV w.heap.size w wv bl zs) :
    Calls Tryz.prog 56 #[.func (.func 89) #[] #[.pointer (some ⟨Bs, 0, none⟩)], .func (.func 58) #[] #[]] w fun e W' => ∃ v ys, e = .returned v ∧ ys.Perm zs ∧ ys.Pairwise (fun a b => ¬ before b a) ∧ SortV W' w.heap.size v bl ys ∧ Below w.heap.size w W' := by
  have hcon := collect_any Bs wv bl zs hz w hBs hc hI
  clear hI hc
  go_enter Tryz.func56, Tryz.ntmps56
  go_wp2_with fail
  refine hcon.mono ?_
  clear hcon
  rintro e w2 ⟨v, rfl, h1, h2, h3⟩
  rcases h1.2 with ⟨rfl, h0⟩ | ⟨g, cap, cur, rfl, hbg, hg, hnc, hcm, hcs, ht⟩
  · have hz0 : zs = [] := List.length_eq_zero_iff.1 h0
    subst hz0
    have hcon := AnyF.slices_SortFunc_none Tryz.sortP none 0 (.func (.func 58) #[] #[]) w2
    change Calls Tryz.prog 88 _ _ _ at hcon
    have H := hide h3
    clear h1 h2 h3
    go_wp2_with fail
    refine hcon.mono ?_
    clear hcon
    rintro e w3 ⟨rfl, rfl⟩
    go_wp2
    go_ret
    exact ⟨_, [], rfl, List.Perm.refl _, List.Pairwise.nil, .inl ⟨rfl, rfl⟩, unhide H⟩
  · have hQ : QAt w2 g cap bl zs := ⟨⟨cur, hg, hcs, ht⟩, hcm, hnc⟩
    have eg : ∀ args w, (callFunc 58 args).run Tryz.prog w = .ok (.enter 58 args) w := enters_of Tryz.func58 (by kernel_rfl) rfl
    have hcon := AnyQ.slices_SortFunc Tryz.sortP 4 Tryz.aggPcl Tryz.sizeOfPcl (pcl bl) (fun _ => rfl) (pcl_ones bl) cfF swoF 58 #[] g 0 cap zs.toArray w2 eg (cmpF bl g 0 _ w2) (holdsQ hQ) hQ.lt (by simp; omega)
    change Calls Tryz.prog 88 _ _ _ at hcon
    rw [show zs.toArray.size = zs.length by simp] at hcon
    have H := hide (And.intro h3 (And.intro hQ hbg))
    clear h1 h2 h3 hQ hg hcs ht hnc hcm
    go_wp2_with fail
    refine hcon.mono ?_
    clear hcon
    rintro e w3 ⟨rfl, d', n, os, hp, hs, rfl⟩
    obtain ⟨h3, hQ, hbg⟩ := unhide H
    have hsz : d'.size = zs.length := by have := hp.1; simpa using this
    have hp2 : d'.toList.Perm zs := by
      have := perm_of_in (d := zs.toArray) (d' := d') (by simpa using hp)
      simpa using this
    have hs2 := sorted_of_in (d := d') (by rw [hsz]; exact hs)
    have hH := holdsK_sortWorldK_c (pcl bl) 4 w2 g 0 zs.toArray d' n os (holdsQ hQ) hQ.lt (by simpa using hsz)
    have hP := parc_of_holds hH
    have hb := below_sorted (pcl bl) w2 g n w.heap.size d' os hbg h3.size
    have hlt : g < (sortWorldK (pcl bl) 4 w2 g 0 n d' os).heap.size := Nat.lt_of_lt_of_le hQ.lt (size_sortWorldK_c (pcl bl) 4 w2 g 0 n d' os)
    generalize sortWorldK (pcl bl) 4 w2 g 0 n d' os = w4 at *
    have H2 := hide (And.intro hp2 (And.intro hs2 (And.intro hP (And.intro (h3.trans hb) hlt))))
    clear hp hs hp2 hs2 hH hP hb h3 hQ hlt
    go_wp2
    go_ret
    obtain ⟨hp2, hs2, hP, hb, hlt⟩ := unhide H2
    exact ⟨_, d'.toList, rfl, hp2, hs2, .inr ⟨g, cap, by rw [hp2.length_eq]; rfl, hbg, hlt, hP⟩, hb⟩
set_option maxRecDepth 100000 in
set_option maxHeartbeats 1000000 in
theorem sclone_any (b n c : Nat) (l : List Int) (w : World) (hl : l.length = n) (hn : n ≤ 100000) (hsrc : SrcAt w (some ⟨b, 0, none⟩) l) :
    Calls Tryz.prog 59 #[.slice (some ⟨b, 0, none⟩) n c] w fun e w' => ∃ g cap, e = .returned (.slice (some ⟨g, 0, none⟩) n cap) ∧ w.heap.size ≤ g ∧ g < w'.heap.size ∧ w'.ownsRow w.heap.size 5 1 (.slice (some ⟨g, 0, none⟩) n cap) n (l.map (Value.int .u8)) ∧ Below w.heap.size w w' := by
  obtain ⟨i8, hi8, hz8, hs8, hy8⟩ := info_parts Tryz.infoU8
  have HT := hide (And.intro hi8 (And.intro hz8 (And.intro hs8 hy8)))
  have HS := hide hsrc
  have HL := hide hl
  have hnn := not_nil
  clear hi8 hz8 hs8 hy8 hsrc hl
  go_enter Tryz.func59, Tryz.ntmps59
  go_wp2_with (at_builtin; refine wpList_append_src rfl _ _ 35 rfl w.heap.size 5 i8 (.int .u8 0) Tryz.underlying35 (unhide HT).1 (unhide HT).2.1 (unhide HT).2.2.1 (unhide HT).2.2.2 rfl _ 0 _ rfl (own_lit w _ 0 _ rfl (Nat.le_refl _) (by unfold maxLen; omega) rfl) _ n c l rfl (fun h => by cases h) (unhide HL) ((unhide HS).alloc _) (by omega) (by simp only [World.size_alloc]; omega) ?_; intro v4 w4 hown4 hgr4 hnil4)
  go_ret
  have hB : Below w.heap.size w w4 := ((Below.refl _ _).alloc (Nat.le_refl _) _).trans (below_grown hgr4 (by simp) (by simp))
  have hown : w4.ownsRow w.heap.size 5 1 v4 n (l.map (Value.int .u8)) := by simpa using hown4
  rcases hown.2 with ⟨h', _⟩ | ⟨g, cap, cur, h', hbg, hg, _⟩
  · have := (hnil4.1 h').1
    cases this
  · subst h'
    exact ⟨g, cap, rfl, hbg, (Array.getElem?_eq_some_iff.1 hg).1, hown, hB⟩
end Go.Proofs.YtandblanpafjoabGreatDoor

