import Derived.Test.YtandblanpafjoabGreatDoorPack17
import Derived.Test.YtandblanpafjoabGreatDoorPack14
import Derived.Test.YtandblanpafjoabGreatDoorPack03
import Derived.Test.YtandblanpafjoabGreatDoorPack01
import Derived.Maps.RangeWalk
import Derived.Maps.Ext
import Derived.Maps.OwnSet
import Derived.MapKept
import Derived.ChangeKeysEq
namespace Go.Proofs.YtandblanpafjoabGreatDoor
open Go.RowKit Go.Extern.Stop Go.Stop Go.Extern

set_option maxRecDepth 10000 in
set_option maxHeartbeats 2000000 in
theorem fstate_any (sb n win lo frame pb rb f : Nat) (F : Nat → Prop) (fs : Nat → List Int) (w : World) (h : FullAt w sb F n win lo frame fs pb rb) (hn : n ≤ 4) (hW : 0 < win) (hl : lo ≤ f) (hf : f ≤ frame) :
    Calls Tryz.prog 188 #[.pointer (some ⟨sb, 0, none⟩), .int .i64 (f : Int)] w fun e w' => e = .returned (.agg (nums .u8 (stF n fs f))) ∧ Below w.heap.size w w' := by
  have hz := Tryz.zeroMem
  have hlt := h.blk.lt
  have hb1 : Below w.heap.size w (w.alloc (.cells (nums .u8 Z288) 106)) := (Below.refl _ w).alloc (Nat.le_refl _) _
  have hbx : Blk (w.alloc (.cells (nums .u8 Z288) 106)) w.heap.size (nums .u8 Z288) 106 := Blk.new _ _ _
  have hs1 : (w.alloc (.cells (nums .u8 Z288) 106)).heap.size = w.heap.size + 1 := by simp
  have hlen := stF_len hn fs f
  have HB := hide h
  clear h
  obtain ⟨W1, hW1⟩ : ∃ W1, w.alloc (.cells (nums .u8 Z288) 106) = W1 := ⟨_, rfl⟩
  rw [hW1] at hb1 hbx hs1
  have h1 : StBlk W1 sb 257 n frame (stF n fs frame) pb win rb win := (unhide HB).blk.same (hb1.block sb hlt)
  have k1 := h1.c1
  have k291 := h1.c291
  have hnow := h1.now
  by_cases he : f = frame
  · have hei : ((f : Int) == (frame : Int)) = true := by simp [he]
    go_enter Tryz.func188, Tryz.ntmps188
    go_wp2_with (first | (rw [hW1]) | (refine wpList_load_mid rfl 106 _ rfl sb 2 rfl ((stF n fs frame).map (Value.int .u8)) _ hnow Tryz.underlying106 rfl (by rw [List.length_map, stF_len hn]; exact (zero_of_info Tryz.infoMem).2) ?_) | (refine wpList_store_blk rfl 106 _ _ rfl w.heap.size 106 (nums .u8 Z288) (nums .u8 (stF n fs frame)) rfl rfl hbx (Tryz.sizeMem _ (stF_len hn fs frame)) (by rw [nums_size, nums_size, stF_len hn]; rfl) (nums_one _ _) ?_))
    rw [he] at *
    refine bodyPost_ret (v := .agg (nums .u8 (stF n fs frame))) ?_ rfl ⟨rfl, ?_⟩
    · exact results_cell_row Tryz.results188 _ _ w.heap.size 106 _ (0, 0) _ rfl (hbx.setRow _) Tryz.underlying106 rfl (Tryz.sizeMem _ (stF_len hn fs frame))
    · exact below_setRow hb1 (Nat.le_refl _) _
  · have hei : ((f : Int) == (frame : Int)) = false := by rw [beq_eq_false_iff_ne]; omega
    have hrg := rangeAt_same ((unhide HB).st.at_ f hl (by omega)) (hb1.block rb (unhide HB).st.lt)
    go_enter Tryz.func188, Tryz.ntmps188
    go_wp2_with fail
    refine (rat_mem rb win f (stF n fs f) _ hW hlen hrg).mono ?_
    rintro e w2 ⟨rfl, hb2⟩
    have hbx2 : Blk w2 w.heap.size (nums .u8 Z288) 106 := hbx.below (by omega) hb2
    have hbW : Below w.heap.size w w2 := hb1.trans (hb2.mono (by omega))
    go_wp2_with (first | (refine wpList_store_blk rfl 106 _ _ rfl w.heap.size 106 (nums .u8 Z288) (nums .u8 (stF n fs f)) rfl rfl hbx2 (Tryz.sizeMem _ hlen) (by rw [nums_size, nums_size, hlen]; rfl) (nums_one _ _) ?_))
    refine bodyPost_ret (v := .agg (nums .u8 (stF n fs f))) ?_ rfl ⟨rfl, ?_⟩
    · exact results_cell_row Tryz.results188 _ _ w.heap.size 106 _ (0, 0) _ rfl (hbx2.setRow _) Tryz.underlying106 rfl (Tryz.sizeMem _ hlen)
    · exact below_setRow hbW (Nat.le_refl _) _

set_option maxRecDepth 10000 in
set_option maxHeartbeats 2000000 in
theorem fback_any (sb n win lo frame pb rb f : Nat) (F : Nat → Prop) (fs : Nat → List Int) (w : World) (h : FullAt w sb F n win lo frame fs pb rb) (hn : n ≤ 4) (hW : 0 < win) (hl : lo ≤ f) (hf : f ≤ frame) :
    Calls Tryz.prog 186 #[.pointer (some ⟨sb, 0, none⟩), .int .i64 (f : Int)] w fun e w' => e = .returned (.tuple #[]) ∧ Chg F w w' ∧ FullAt w' sb F n win lo f fs pb rb := by
  have hlen := stF_len hn fs f
  have HB := hide h
  clear h
  go_enter Tryz.func186, Tryz.ntmps186
  go_wp2_with fail
  refine (fstate_any sb n win lo frame pb rb f F fs w (unhide HB) hn hW hl hf).mono ?_
  rintro e w2 ⟨rfl, hb2⟩
  have hlt := (unhide HB).blk.lt
  have h2 : StBlk w2 sb 257 n frame (stF n fs frame) pb win rb win := (unhide HB).blk.same (hb2.block sb hlt)
  have h5 : StBlk (w2.setCells sb 2 (nums .u8 (stF n fs f)).toList) sb 257 n frame (stF n fs f) pb win rb win := h2.putNow (stF n fs f) hlen
  have c5 := h5.c1
  have f5 := h5.frozen 1
  have HTH := hide h2.there
  have H5 := hide h5
  clear h2 h5
  go_wp2_with (first | (refine wpList_store_mid rfl 106 _ _ rfl sb 2 (nums .u8 (stF n fs f)) rfl rfl (by rw [nums_size, hlen]; exact unhide HTH) (Tryz.sizeMem _ hlen) (nums_one _ _) ?_))
  go_end0
  have g := unhide HB
  refine ⟨rfl, ((Chg.ofBelow hb2).thenCells sb _ _ g.f1).thenCell sb 1 _ g.f1, (unhide H5).putFrame f, ?_, ?_, g.ne1, g.ne2, g.ne3, g.f1, g.f2, g.f3⟩
  · refine (g.pl.less (Nat.le_refl _) hf).same ?_
    rw [heap_setCell_other _ _ _ _ (fun e => g.ne1 e.symm), heap_setCells_other (Ne.symm g.ne1), hb2.block pb g.pl.lt]
  · refine (g.st.less (Nat.le_refl _) hf).same ?_
    rw [heap_setCell_other _ _ _ _ (fun e => g.ne2 e.symm), heap_setCells_other (Ne.symm g.ne2), hb2.block rb g.st.lt]
end Go.Proofs.YtandblanpafjoabGreatDoor

namespace Go.Proofs.YtandblanpafjoabGreatDoor
open Go.RowKit Go.Extern.Stop Go.Stop Go.Extern

set_option maxRecDepth 10000 in
set_option maxHeartbeats 1000000 in
theorem rat_pg (g W f b : Nat) (w : World) (hW : 0 < W) (hr : w.cell? ⟨g, f % W, none⟩ = some (.map (some b))) :
    Calls Tryz.prog 184 #[.agg #[.slice (some ⟨g, 0, none⟩) W W], .int .i64 (f : Int)] w fun e w' => e = .returned (.map (some b)) ∧ Below w.heap.size w w' := by
  obtain ⟨m, hm⟩ : ∃ m, f % W = m := ⟨_, rfl⟩
  rw [hm] at hr
  have hmW : m < W := by rw [← hm]; exact Nat.mod_lt f hW
  have hmod : (f : Int) % (W : Int) = (m : Int) := by rw [← hm, Int.natCast_emod]
  have hmod2 : (f : Int).tmod (W : Int) = (m : Int) := by rw [Int.tmod_eq_emod_of_nonneg (by omega), hmod]
  have hlg : g < w.heap.size := World.block_lt_of_cell? w _ hr
  have hcell : (w.alloc (.cells #[.slice (some ⟨g, 0, none⟩) W W] 245)).cell? ⟨w.heap.size, 0, none⟩ = some (.slice (some ⟨g, 0, none⟩) W W) := by simp
  have hbel : Below w.heap.size w (w.alloc (.cells #[.slice (some ⟨g, 0, none⟩) W W] 245)) := (Below.refl _ _).alloc (Nat.le_refl _) _
  obtain ⟨W1, hW1⟩ : ∃ W1, w.alloc (.cells #[.slice (some ⟨g, 0, none⟩) W W] 245) = W1 := ⟨_, rfl⟩
  rw [hW1] at hcell hbel
  have d0 := (hbel.cell (p := ⟨g, m, none⟩) hlg).trans hr
  have hW0 : ¬ W = 0 := by omega
  have hW2 : ¬ (W : Int) = 0 := by omega
  have hm0 : (0 : Int) ≤ (m : Int) := by omega
  have hm1 : (m : Int) < (W : Int) := by omega
  go_enter Tryz.func184, Tryz.ntmps184
  go_wp2_with fail
  try rw [hW1]
  go_still (by kernel_rfl)
  go_wp2
  go_ret
  exact ⟨rfl, hbel.drew⟩

set_option maxRecDepth 10000 in
set_option maxHeartbeats 1000000 in
theorem rput_pg (g W f b : Nat) (old : Value) (w : World) (hW : 0 < W) (hr : w.cell? ⟨g, f % W, none⟩ = some old) (hfr : w.frozen? ⟨g, f % W, none⟩ = false) :
    Calls Tryz.prog 125 #[.agg #[.slice (some ⟨g, 0, none⟩) W W], .int .i64 (f : Int), .map (some b)] w fun e w' => e = .returned (.tuple #[]) ∧ ∃ W1, Below w.heap.size w W1 ∧ w' = W1.setCell ⟨g, f % W, none⟩ (.map (some b)) := by
  obtain ⟨m, hm⟩ : ∃ m, f % W = m := ⟨_, rfl⟩
  rw [hm] at hr hfr ⊢
  have hmW : m < W := by rw [← hm]; exact Nat.mod_lt f hW
  have hmod : (f : Int) % (W : Int) = (m : Int) := by rw [← hm, Int.natCast_emod]
  have hmod2 : (f : Int).tmod (W : Int) = (m : Int) := by rw [Int.tmod_eq_emod_of_nonneg (by omega), hmod]
  have hlg : g < w.heap.size := World.block_lt_of_cell? w _ hr
  have hcell : (w.alloc (.cells #[.slice (some ⟨g, 0, none⟩) W W] 245)).cell? ⟨w.heap.size, 0, none⟩ = some (.slice (some ⟨g, 0, none⟩) W W) := by simp
  have hbel : Below w.heap.size w (w.alloc (.cells #[.slice (some ⟨g, 0, none⟩) W W] 245)) := (Below.refl _ _).alloc (Nat.le_refl _) _
  obtain ⟨W1, hW1⟩ : ∃ W1, w.alloc (.cells #[.slice (some ⟨g, 0, none⟩) W W] 245) = W1 := ⟨_, rfl⟩
  rw [hW1] at hcell hbel
  have d0 := (hbel.cell (p := ⟨g, m, none⟩) hlg).trans hr
  have d1 := (hbel.frozen (p := ⟨g, m, none⟩) hlg).trans hfr
  have hW0 : ¬ W = 0 := by omega
  have hW2 : ¬ (W : Int) = 0 := by omega
  have hm0 : (0 : Int) ≤ (m : Int) := by omega
  have hm1 : (m : Int) < (W : Int) := by omega
  go_enter Tryz.func125, Tryz.ntmps125
  go_wp2_with fail
  try rw [hW1]
  refine wp_moves_reads_tail0 9 (by kernel_rfl) (by kernel_rfl) (by kernel_rfl) (by kernel_rfl) ?_
  simp only [List.take_succ_cons, List.take_zero, List.drop_succ_cons, List.drop_zero]
  repeat still_step
  refine wpStill_nil ?_
  go_wp2
  go_end0
  exact ⟨rfl, W1.drew, hbel.drew, rfl⟩
end Go.Proofs.YtandblanpafjoabGreatDoor

namespace Go.Proofs.YtandblanpafjoabGreatDoor
open Go.RowKit Go.Maps

/-! Maps of pages. -/
def numsOf : List Value → Option (List Int)
  | [] => some []
  | .int .u8 x :: r => (numsOf r).map (x :: ·)
  | _ => none
theorem numsOf_mk : ∀ l : List Int, numsOf (l.map (Value.int .u8)) = some l
  | [] => rfl
  | x :: l => by simp [numsOf, numsOf_mk l]
theorem numsOf_inv : ∀ (vs : List Value) (l : List Int), numsOf vs = some l → vs = l.map (Value.int .u8)
  | [], l, h => by simp [numsOf] at h; subst h; rfl
  | v :: vs, l, h => by
    unfold numsOf at h
    split at h
    · rename_i he; cases he
    · rename_i he
      cases he
      simp only [Option.map_eq_some_iff] at h
      obtain ⟨l', hq, rfl⟩ := h
      simp [numsOf_inv _ l' hq]
    · cases h
def pgElem (v : Value) : Option (DataW (List Int) × List MemPlace) :=
  match v with
  | .agg cs => (match numsOf cs.toList with
    | some l => if l.length = 16 then some (.held l, []) else none
    | none => none)
  | _ => none
theorem pgElem_mk (l : List Int) (h : l.length = 16) : pgElem (.agg (nums .u8 l)) = some (.held l, []) := by
  simp [pgElem, nums, numsOf_mk, h]
theorem pgElem_inv {v : Value} {y : DataW (List Int) × List MemPlace} (h : pgElem v = some y) : ∃ l, l.length = 16 ∧ v = .agg (nums .u8 l) ∧ y = (.held l, []) := by
  unfold pgElem at h
  split at h
  · rename_i cs
    split at h
    · rename_i l hl
      split at h
      · rename_i h16
        cases h
        refine ⟨l, h16, ?_, rfl⟩
        have := numsOf_inv _ _ hl
        unfold nums
        rw [← this]
      · cases h
    · cases h
  · cases h
theorem Tryz.keyedInt : Keyed Tryz.prog 3 := int_keyed Tryz.underlying3
def kI (i : Nat) : Lit := .int .i64 (i : Int)
theorem kI_inj {i j : Nat} (h : kI i = kI j) : i = j := by
  unfold kI at h; injection h with _ h; omega
/-- What a map of pages reads as. -/
structure PgD (D : DataW (List Int)) (M : Nat → Option (List Int)) : Prop where
  keys : ∀ kl, Maps.has D kl = true → ∃ i, i < 18 ∧ kl = kI i
  some_ : ∀ i l, M i = some l → i < 18 ∧ l.length = 16 ∧ Maps.has D (kI i) = true ∧ ∀ z, D.atKey (kI i) z = .held l
  none_ : ∀ i, M i = none → Maps.has D (kI i) = false
def PgMap (w : World) (b n : Nat) (M : Nat → Option (List Int)) : Prop := ∃ D, w.ownsMap Tryz.prog 3 pgElem b n D ∧ PgD D M
theorem PgD.empty : PgD (.map []) (fun _ => none) where
  keys := fun kl h => by simp [Maps.has] at h
  some_ := fun i l h => by simp at h
  none_ := fun i _ => by simp [Maps.has]
theorem PgMap.lt {w : World} {b n : Nat} {M : Nat → Option (List Int)} (h : PgMap w b n M) : b < w.heap.size := by
  obtain ⟨D, ⟨es, c, hb, _⟩, _⟩ := h
  exact (Array.getElem?_eq_some_iff.1 hb).1
theorem PgMap.same {w w' : World} {b n : Nat} {M : Nat → Option (List Int)} (h : PgMap w b n M) (hs : w'.heap[b]? = w.heap[b]?) : PgMap w' b n M := by
  obtain ⟨D, ⟨es, c, hb, hr⟩, hd⟩ := h
  exact ⟨D, ⟨es, c, hs.trans hb, hr⟩, hd⟩
theorem PgMap.mono {w : World} {b n m : Nat} {M : Nat → Option (List Int)} (h : PgMap w b n M) (hn : n ≤ m) : PgMap w b m M := by
  obtain ⟨D, ho, hd⟩ := h
  exact ⟨D, ho.mono hn, hd⟩
def updM (M : Nat → Option (List Int)) (i : Nat) (l : List Int) : Nat → Option (List Int) := fun j => if j = i then some l else M j
theorem PgD.put {D : DataW (List Int)} {M : Nat → Option (List Int)} (h : PgD D M) (hm : IsMap D) (i : Nat) (hi : i < 18) (l : List Int) (hl : l.length = 16) : PgD (D.put (kI i) (.held l)) (updM M i l) := by
  have hk : WideAt.IsKeyLit (kI i) := by simp [kI, WideAt.IsKeyLit]
  refine ⟨?_, ?_, ?_⟩
  · intro kl hk'
    by_cases e : kl = kI i
    · exact ⟨i, hi, e⟩
    · rw [has_put_other e] at hk'; exact h.keys kl hk'
  · intro j l' hj
    by_cases e : j = i
    · subst e
      simp [updM] at hj
      subst hj
      exact ⟨hi, hl, has_put_same hm hk _, fun z => atKey_put_same hm hk _ z⟩
    · simp [updM, e] at hj
      obtain ⟨h1, h2, h3, h4⟩ := h.some_ j l' hj
      have hne : kI j ≠ kI i := fun e' => e (kI_inj e')
      exact ⟨h1, h2, by rw [has_put_other hne]; exact h3, fun z => by rw [atKey_put_other hne]; exact h4 z⟩
  · intro j hj
    by_cases e : j = i
    · simp [updM, e] at hj
    · simp [updM, e] at hj
      rw [has_put_other (fun e' => e (kI_inj e'))]
      exact h.none_ j hj

section
variable {P : Program}
/-- clear(m). -/
theorem wpList_clear_own {H : Type} {ops : Array Oper} {rest : List Oper} {o : Oper} {a : Act} {w : World} {Q : Exit → Act → World → Prop} (hg : o.guard = none) (m : Operand) (t k e : TypeId) (hop : o.op = Op.call { callee := Callee.builtin Builtin.clear, args := #[m], argTypes := #[t] })
    (ht : P.underlying t = some (.map k e)) (R : Value → Option (DataW H × List MemPlace)) (b n : Nat) (D : DataW H) (hm : a.eval m = .map (some b)) (hown : w.ownsMap P k R b n D)
    (hK : ∀ w', w'.ownsMap P k R b 0 (.map []) → w.grownBy w' (some b) → w'.heap.size = w.heap.size → wpList P ops Q rest (a.put o.dst (.tuple #[])) w') : wpList P ops Q (o :: rest) a w := by
  refine wpList_plain hg fun K' hK' => ?_
  obtain ⟨es, clock, hb, F, _, _⟩ := hown
  unfold Oper.wp
  simp [execOp, hop, resolve, invoke, builtin, hm, Builtin.clear_, run_underlying ht, MapKept.run_getObj_map hb, MapKept.run_setObj_map _ hb, Result.andThen]
  have hset := MapKept.heap_set (o' := .map #[] clock) hb
  exact hK' _ _ (hK _ ⟨#[], clock, hset.1, ⟨by simp, MapKept.stamped_empty clock, by simp⟩, Nat.le_refl _, rfl⟩ ⟨rfl, rfl, rfl, by simp, fun k' _ hk' => hset.2 k' (fun e => hk' (by rw [e]))⟩ (by simp))
end
end Go.Proofs.YtandblanpafjoabGreatDoor

namespace Go.Proofs.YtandblanpafjoabGreatDoor
open Go.RowKit

/-! Arrays of numbers, compared as values. -/
section
variable {P : Program}
theorem run_part_num (w : World) (e : TypeId) (k : IntKind) (hue : P.underlying e = some (.int k)) (a : List Int) (i : Nat) (hi : i < a.length) :
    (part e (nums k a) i).run P w = .ok (.int k (a.getD i 0)) w := by
  have hagg : (isAgg e).run P w = .ok false w := by
    unfold isAgg
    rw [Sem.run_bind, run_underlying hue w]
    rfl
  have hg := nums_get k a i hi
  have hs : i < (nums k a).size := by rw [nums_size]; exact hi
  rw [Array.getElem?_eq_getElem hs] at hg
  simp [part, hagg]
  simp_all
theorem run_eqItems_nums (w : World) (d : Nat) (e : TypeId) (k : IntKind) (hue : P.underlying e = some (.int k)) (a b : List Int) : ∀ is : List Nat, (∀ i ∈ is, i < a.length ∧ i < b.length) →
    (Op.eqItems (d + 1) e 1 (nums k a) (nums k b) is).run P w = .ok (is.all fun i => a.getD i 0 == b.getD i 0) w
  | [], _ => by simp [Op.eqItems]
  | i :: is, h => by
    have hi := h i (by simp)
    simp only [Op.eqItems, Sem.run_bind, Nat.mul_one, run_part_num w e k hue a i hi.1, run_part_num w e k hue b i hi.2, Result.andThen_ok, run_equalIn_int w d e k k _ _ hue, List.all_cons]
    cases hq : (a.getD i 0 == b.getD i 0)
    · simp
    · simp only [Bool.not_true, Bool.false_eq_true, if_false, Bool.true_and]
      exact run_eqItems_nums w d e k hue a b is (fun j hj => h j (by simp [hj]))
theorem all_eq_iff (a b : List Int) (n : Nat) (ha : a.length = n) (hb : b.length = n) : ((List.range n).all fun i => a.getD i 0 == b.getD i 0) = decide (a = b) := by
  rw [Bool.eq_iff_iff]
  simp only [List.all_eq_true, List.mem_range, beq_iff_eq, decide_eq_true_eq]
  constructor
  · intro h
    apply List.ext_getElem (by omega)
    intro i h1 h2
    have := h i (by omega)
    simpa [h1, h2] using this
  · rintro rfl _ _; rfl
theorem run_eql_nums (w : World) (t e : TypeId) (k : IntKind) (n : Nat) (hu : P.underlying t = some (.array n e)) (hue : P.underlying e = some (.int k)) (hi : (P.info? e).map (·.size) = some 1)
    (a b : List Int) (ha : a.length = n) (hb : b.length = n) : (Op.equalIn 10000 t (.agg (nums k a)) (.agg (nums k b))).run P w = .ok (decide (a = b)) w := by
  cases hq : P.info? e with
  | none => simp [hq] at hi
  | some i =>
    have hc : P.cellsOf e = 1 := by simpa [Program.cellsOf, hq] using hi
    rw [run_equalIn_array w 9999 (nums k a) (nums k b) hu hq, hc, run_eqItems_nums w 9998 e k hue a b (List.range n) (fun i hi => by simp at hi; omega), all_eq_iff a b n ha hb]
theorem run_binneq_nums (w : World) (t e : TypeId) (k : IntKind) (n : Nat) (hu : P.underlying t = some (.array n e)) (hue : P.underlying e = some (.int k)) (hi : (P.info? e).map (·.size) = some 1)
    (a b : List Int) (ha : a.length = n) (hb : b.length = n) : (binOp .neq t (.agg (nums k a)) (.agg (nums k b))).run P w = .ok (.bool (!decide (a = b))) w := by
  rw [run_neq_struct, run_eql_nums w t e k n hu hue hi a b ha hb]
  rfl
end
end Go.Proofs.YtandblanpafjoabGreatDoor

namespace Go.Proofs.YtandblanpafjoabGreatDoor
open Go.RowKit Go.Extern.Stop Go.Stop Go.Extern Go.Maps

/-! The store that keeps pages. -/
structure DeltaAt (w : World) (sb : Nat) (F : Nat → Prop) (n win lo frame : Nat) (fs : Nat → List Int) (pb rb : Nat) (mb : Nat → Nat) : Prop where
  blk : StBlk w sb 250 n frame (stF n fs frame) pb win rb (win + 1)
  pl : RingAt w pb 187 win 4 lo frame (fun f => insV n (fs f))
  ring : ∃ t, Blk w rb ((List.range (win + 1)).map fun i => Value.map (some (mb i))).toArray t
  maps : ∀ i, i < win + 1 → ∃ M, PgMap w (mb i) 18 M
  past : ∀ f, lo ≤ f → f < frame → PgMap w (mb (f % (win + 1))) 18 (diffL (stF n fs f) (stF n fs (f + 1)))
  next : PgMap w (mb (frame % (win + 1))) 0 (fun _ => none)
  inj : ∀ i j, i < win + 1 → j < win + 1 → mb i = mb j → i = j
  far : ∀ i, i < win + 1 → mb i ≠ sb ∧ mb i ≠ pb ∧ mb i ≠ rb ∧ F (mb i)
  ne1 : sb ≠ pb
  ne2 : sb ≠ rb
  ne3 : pb ≠ rb
  f1 : F sb
  f2 : F pb
  f3 : F rb
theorem DeltaAt.same {w w' : World} {sb : Nat} {F : Nat → Prop} {n win lo frame : Nat} {fs : Nat → List Int} {pb rb : Nat} {mb : Nat → Nat} (h : DeltaAt w sb F n win lo frame fs pb rb mb) (hs : Same F w w') : DeltaAt w' sb F n win lo frame fs pb rb mb :=
  ⟨h.blk.same (hs _ h.f1), h.pl.same (hs _ h.f2), by obtain ⟨t, ht⟩ := h.ring; exact ⟨t, (hs _ h.f3).trans ht⟩,
   fun i hi => by obtain ⟨M, hM⟩ := h.maps i hi; exact ⟨M, hM.same (hs _ (h.far i hi).2.2.2)⟩,
   fun f h1 h2 => (h.past f h1 h2).same (hs _ (h.far _ (Nat.mod_lt f (by omega))).2.2.2), h.next.same (hs _ (h.far _ (Nat.mod_lt frame (by omega))).2.2.2), h.inj, h.far, h.ne1, h.ne2, h.ne3, h.f1, h.f2, h.f3⟩
theorem DeltaAt.congr {w : World} {sb : Nat} {F : Nat → Prop} {n win lo frame : Nat} {fs gs : Nat → List Int} {pb rb : Nat} {mb : Nat → Nat} (h : DeltaAt w sb F n win lo frame fs pb rb mb) (he : ∀ f, f < frame → gs f = fs f) : DeltaAt w sb F n win lo frame gs pb rb mb :=
  ⟨by rw [stF_congr (gs := fs) frame he]; exact h.blk, h.pl.congr (fun f _ hf => by rw [he f hf]), h.ring, h.maps,
   fun f h1 h2 => by rw [stF_congr (gs := fs) f (fun k hk => he k (by omega)), stF_congr (gs := fs) (f + 1) (fun k hk => he k (by omega))]; exact h.past f h1 h2, h.next, h.inj, h.far, h.ne1, h.ne2, h.ne3, h.f1, h.f2, h.f3⟩
theorem DeltaAt.lower {w : World} {sb : Nat} {F : Nat → Prop} {n win lo lo' frame : Nat} {fs : Nat → List Int} {pb rb : Nat} {mb : Nat → Nat} (h : DeltaAt w sb F n win lo frame fs pb rb mb) (hl : lo ≤ lo') : DeltaAt w sb F n win lo' frame fs pb rb mb :=
  ⟨h.blk, h.pl.less hl (Nat.le_refl _), h.ring, h.maps, fun f h1 h2 => h.past f (by omega) h2, h.next, h.inj, h.far, h.ne1, h.ne2, h.ne3, h.f1, h.f2, h.f3⟩
theorem DeltaAt.slot {w : World} {sb : Nat} {F : Nat → Prop} {n win lo frame : Nat} {fs : Nat → List Int} {pb rb : Nat} {mb : Nat → Nat} (h : DeltaAt w sb F n win lo frame fs pb rb mb) (f : Nat) : w.cell? ⟨rb, f % (win + 1), none⟩ = some (.map (some (mb (f % (win + 1))))) := by
  obtain ⟨t, ht⟩ := h.ring
  rw [ht.cell]
  have := Nat.mod_lt f (show 0 < win + 1 by omega)
  simp [this]
theorem DeltaAt.rlt {w : World} {sb : Nat} {F : Nat → Prop} {n win lo frame : Nat} {fs : Nat → List Int} {pb rb : Nat} {mb : Nat → Nat} (h : DeltaAt w sb F n win lo frame fs pb rb mb) : rb < w.heap.size := by
  obtain ⟨t, ht⟩ := h.ring; exact ht.lt

/-- Those pages are put back that are no longer to come. -/
def backL (m : List Int) (M : Nat → Option (List Int)) (left : Lit → Bool) : List Int := overL m (fun i => if left (kI i) then none else M i)
theorem backL_len (m : List Int) (M : Nat → Option (List Int)) (left : Lit → Bool) : (backL m M left).length = 288 := overL_len _ _
theorem backL_start {m : List Int} {M : Nat → Option (List Int)} {left : Lit → Bool} (hm : m.length = 288) (h : ∀ i, M i ≠ none → left (kI i) = true) : backL m M left = m := by
  refine list_ext288 (backL_len _ _ _) hm fun j hj => ?_
  unfold backL
  rw [overL_get _ _ _ hj]
  by_cases e : left (kI (j / 16)) = true
  · simp [e]
  · have : M (j / 16) = none := by
      apply Classical.byContradiction
      intro hx; exact e (h _ hx)
    simp [this]
theorem backL_end {m : List Int} {M : Nat → Option (List Int)} {left : Lit → Bool} (h : ∀ kl, left kl = false) : backL m M left = overL m M := by
  unfold backL
  congr 1
  funext i
  simp [h]
theorem getD_three (A l C : List Int) (j : Nat) : (A ++ (l ++ C)).getD j 0 = if j < A.length then A.getD j 0 else if j < A.length + l.length then l.getD (j - A.length) 0 else C.getD (j - A.length - l.length) 0 := by
  simp only [List.getD_eq_getElem?_getD]
  split
  · rw [List.getElem?_append_left (by assumption)]
  · split
    · rw [List.getElem?_append_right (by omega), List.getElem?_append_left (by omega)]
    · rw [List.getElem?_append_right (by omega), List.getElem?_append_right (by omega)]
theorem getD_takeL (A : List Int) (k j : Nat) (h : j < k) : (A.take k).getD j 0 = A.getD j 0 := by simp [List.getD_eq_getElem?_getD, h]
theorem getD_dropL (A : List Int) (k j : Nat) : (A.drop k).getD j 0 = A.getD (k + j) 0 := by simp [List.getD_eq_getElem?_getD, List.getElem?_drop]
theorem backL_step {m : List Int} {M : Nat → Option (List Int)} {left : Lit → Bool} {i : Nat} {l : List Int} (hi : i < 18) (hM : M i = some l) (hl : l.length = 16) :
    backL m M (fun z => left z && !z.sameKey (kI i)) = (backL m M left).take (16 * i) ++ (l ++ (backL m M left).drop (16 * i + 16)) := by
  have hk : ∀ j, (kI j).sameKey (kI i) = decide (j = i) := fun j => by
    by_cases e : j = i
    · subst e; simp [kI, Lit.sameKey]
    · simp [kI, Lit.sameKey, e]; omega
  refine list_ext288 (backL_len _ _ _) (by simp [backL_len, hl]; omega) fun j hj => ?_
  unfold backL
  rw [overL_get _ _ _ hj]
  simp only [hk]
  have hlen : (overL m fun i => if left (kI i) = true then none else M i).length = 288 := overL_len _ _
  have htl : ((overL m fun i => if left (kI i) = true then none else M i).take (16 * i)).length = 16 * i := by simp [hlen]; omega
  rw [getD_three, htl, hl]
  by_cases h1 : j < 16 * i
  · have hne : j / 16 ≠ i := by omega
    rw [if_pos h1, getD_takeL _ _ _ h1, overL_get _ _ _ hj]
    simp [hne]
  · rw [if_neg h1]
    by_cases h2 : j < 16 * i + 16
    · have he : j / 16 = i := by omega
      have hm' : j % 16 = j - 16 * i := by omega
      rw [if_pos h2, he, hM, hm']
      simp
    · have hne : j / 16 ≠ i := by omega
      rw [if_neg h2, getD_dropL, show 16 * i + 16 + (j - 16 * i - 16) = j by omega, overL_get _ _ _ hj]
      simp [hne]
theorem back_state (n : Nat) (hn : n ≤ 4) (fs : Nat → List Int) (f : Nat) : overL (stF n fs (f + 1)) (diffL (stF n fs f) (stF n fs (f + 1))) = stF n fs f := over_diff (stF_len hn fs f)
end Go.Proofs.YtandblanpafjoabGreatDoor

