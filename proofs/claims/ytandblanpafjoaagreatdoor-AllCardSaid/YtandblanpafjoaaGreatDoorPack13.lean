import Derived.Test.YtandblanpafjoaaGreatDoorPack01
import Derived.Maps.RangeWalk
import Derived.Maps.Ext
import Derived.Maps.OwnSet
import Derived.MapKept
import Derived.ChangeKeysEq
import Derived.Test.YtandblanpafjoaaGreatDoorPack12
namespace Go.Proofs.YtandblanpafjoaaGreatDoor
open Go.RowKit Go.Maps
def numsOf : List Value → Option (List Int)
  | [] => some []
  | .int .u8 x :: r => (numsOf r).map (x :: ·)
  | _ => none
theorem numsOf_mk : ∀ l : List Int, numsOf (l.map (Value.int .u8)) = some l
  | [] => rfl
  | x :: l => by simp [numsOf, numsOf_mk l]
theorem numsOf_inv : ∀ (vs : List Value) (l : List Int), numsOf vs = some l → vs = l.map (Value.int .u8)
  | [], l, h => by simp [numsOf] at h; subst h; rfl
  | v :: vs, l, h => by
    unfold numsOf at h
    split at h
    · rename_i he; cases he
    · rename_i he
      cases he
      simp only [Option.map_eq_some_iff] at h
      obtain ⟨l', hq, rfl⟩ := h
      simp [numsOf_inv _ l' hq]
    · cases h
def pgElem (v : Value) : Option (DataW (List Int) × List MemPlace) :=
  match v with
  | .agg cs => (match numsOf cs.toList with
    | some l => if l.length = 16 then some (.held l, []) else none
    | none => none)
  | _ => none
theorem pgElem_mk (l : List Int) (h : l.length = 16) : pgElem (.agg (nums .u8 l)) = some (.held l, []) := by
  simp [pgElem, nums, numsOf_mk, h]
theorem pgElem_inv {v : Value} {y : DataW (List Int) × List MemPlace} (h : pgElem v = some y) : ∃ l, l.length = 16 ∧ v = .agg (nums .u8 l) ∧ y = (.held l, []) := by
  unfold pgElem at h
  split at h
  · rename_i cs
    split at h
    · rename_i l hl
      split at h
      · rename_i h16
        cases h
        refine ⟨l, h16, ?_, rfl⟩
        have := numsOf_inv _ _ hl
        unfold nums
        rw [← this]
      · cases h
    · cases h
  · cases h
theorem Tryz.keyedInt : Keyed Tryz.prog 3 := int_keyed Tryz.underlying3
def kI (i : Nat) : Lit := .int .i64 (i : Int)
theorem kI_inj {i j : Nat} (h : kI i = kI j) : i = j := by
  unfold kI at h; injection h with _ h; omega
/-- What a map of pages reads as. -/
structure PgD (D : DataW (List Int)) (M : Nat → Option (List Int)) : Prop where
  keys : ∀ kl, Maps.has D kl = true → ∃ i, i < 18 ∧ kl = kI i
  some_ : ∀ i l, M i = some l → i < 18 ∧ l.length = 16 ∧ Maps.has D (kI i) = true ∧ ∀ z, D.atKey (kI i) z = .held l
  none_ : ∀ i, M i = none → Maps.has D (kI i) = false
def PgMap (w : World) (b n : Nat) (M : Nat → Option (List Int)) : Prop := ∃ D, w.ownsMap Tryz.prog 3 pgElem b n D ∧ PgD D M
theorem PgD.empty : PgD (.map []) (fun _ => none) where
  keys := fun kl h => by simp [Maps.has] at h
  some_ := fun i l h => by simp at h
  none_ := fun i _ => by simp [Maps.has]
theorem PgMap.lt {w : World} {b n : Nat} {M : Nat → Option (List Int)} (h : PgMap w b n M) : b < w.heap.size := by
  obtain ⟨D, ⟨es, c, hb, _⟩, _⟩ := h
  exact (Array.getElem?_eq_some_iff.1 hb).1
theorem PgMap.same {w w' : World} {b n : Nat} {M : Nat → Option (List Int)} (h : PgMap w b n M) (hs : w'.heap[b]? = w.heap[b]?) : PgMap w' b n M := by
  obtain ⟨D, ⟨es, c, hb, hr⟩, hd⟩ := h
  exact ⟨D, ⟨es, c, hs.trans hb, hr⟩, hd⟩
theorem PgMap.mono {w : World} {b n m : Nat} {M : Nat → Option (List Int)} (h : PgMap w b n M) (hn : n ≤ m) : PgMap w b m M := by
  obtain ⟨D, ho, hd⟩ := h
  exact ⟨D, ho.mono hn, hd⟩
def updM (M : Nat → Option (List Int)) (i : Nat) (l : List Int) : Nat → Option (List Int) := fun j => if j = i then some l else M j
theorem PgD.put {D : DataW (List Int)} {M : Nat → Option (List Int)} (h : PgD D M) (hm : IsMap D) (i : Nat) (hi : i < 18) (l : List Int) (hl : l.length = 16) : PgD (D.put (kI i) (.held l)) (updM M i l) := by
  have hk : WideAt.IsKeyLit (kI i) := by simp [kI, WideAt.IsKeyLit]
  refine ⟨?_, ?_, ?_⟩
  · intro kl hk'
    by_cases e : kl = kI i
    · exact ⟨i, hi, e⟩
    · rw [has_put_other e] at hk'; exact h.keys kl hk'
  · intro j l' hj
    by_cases e : j = i
    · subst e
      simp [updM] at hj
      subst hj
      exact ⟨hi, hl, has_put_same hm hk _, fun z => atKey_put_same hm hk _ z⟩
    · simp [updM, e] at hj
      obtain ⟨h1, h2, h3, h4⟩ := h.some_ j l' hj
      have hne : kI j ≠ kI i := fun e' => e (kI_inj e')
      exact ⟨h1, h2, by rw [has_put_other hne]; exact h3, fun z => by rw [atKey_put_other hne]; exact h4 z⟩
  · intro j hj
    by_cases e : j = i
    · simp [updM, e] at hj
    · simp [updM, e] at hj
      rw [has_put_other (fun e' => e (kI_inj e'))]
      exact h.none_ j hj
section
variable {P : Program}
/-- clear(m). -/
theorem wpList_clear_own {H : Type} {ops : Array Oper} {rest : List Oper} {o : Oper} {a : Act} {w : World} {Q : Exit → Act → World → Prop} (hg : o.guard = none) (m : Operand) (t k e : TypeId) (hop : o.op = Op.call { callee := Callee.builtin Builtin.clear, args := #[m], argTypes := #[t] })
    (ht : P.underlying t = some (.map k e)) (R : Value → Option (DataW H × List MemPlace)) (b n : Nat) (D : DataW H) (hm : a.eval m = .map (some b)) (hown : w.ownsMap P k R b n D)
    (hK : ∀ w', w'.ownsMap P k R b 0 (.map []) → w.grownBy w' (some b) → w'.heap.size = w.heap.size → wpList P ops Q rest (a.put o.dst (.tuple #[])) w') : wpList P ops Q (o :: rest) a w := by
  refine wpList_plain hg fun K' hK' => ?_
  obtain ⟨es, clock, hb, F, _, _⟩ := hown
  unfold Oper.wp
  simp [execOp, hop, resolve, invoke, builtin, hm, Builtin.clear_, run_underlying ht, MapKept.run_getObj_map hb, MapKept.run_setObj_map _ hb, Result.andThen]
  have hset := MapKept.heap_set (o' := .map #[] clock) hb
  exact hK' _ _ (hK _ ⟨#[], clock, hset.1, ⟨by simp, MapKept.stamped_empty clock, by simp⟩, Nat.le_refl _, rfl⟩ ⟨rfl, rfl, rfl, by simp, fun k' _ hk' => hset.2 k' (fun e => hk' (by rw [e]))⟩ (by simp))
end
end Go.Proofs.YtandblanpafjoaaGreatDoor

namespace Go.Proofs.YtandblanpafjoaaGreatDoor
open Go.RowKit
section
variable {P : Program}
theorem run_part_num (w : World) (e : TypeId) (k : IntKind) (hue : P.underlying e = some (.int k)) (a : List Int) (i : Nat) (hi : i < a.length) :
    (part e (nums k a) i).run P w = .ok (.int k (a.getD i 0)) w := by
  have hagg : (isAgg e).run P w = .ok false w := by
    unfold isAgg
    rw [Sem.run_bind, run_underlying hue w]
    rfl
  have hg := nums_get k a i hi
  have hs : i < (nums k a).size := by rw [nums_size]; exact hi
  rw [Array.getElem?_eq_getElem hs] at hg
  simp [part, hagg]
  simp_all
theorem run_eqItems_nums (w : World) (d : Nat) (e : TypeId) (k : IntKind) (hue : P.underlying e = some (.int k)) (a b : List Int) : ∀ is : List Nat, (∀ i ∈ is, i < a.length ∧ i < b.length) →
    (Op.eqItems (d + 1) e 1 (nums k a) (nums k b) is).run P w = .ok (is.all fun i => a.getD i 0 == b.getD i 0) w
  | [], _ => by simp [Op.eqItems]
  | i :: is, h => by
    have hi := h i (by simp)
    simp only [Op.eqItems, Sem.run_bind, Nat.mul_one, run_part_num w e k hue a i hi.1, run_part_num w e k hue b i hi.2, Result.andThen_ok, run_equalIn_int w d e k k _ _ hue, List.all_cons]
    cases hq : (a.getD i 0 == b.getD i 0)
    · simp
    · simp only [Bool.not_true, Bool.false_eq_true, if_false, Bool.true_and]
      exact run_eqItems_nums w d e k hue a b is (fun j hj => h j (by simp [hj]))
theorem all_eq_iff (a b : List Int) (n : Nat) (ha : a.length = n) (hb : b.length = n) : ((List.range n).all fun i => a.getD i 0 == b.getD i 0) = decide (a = b) := by
  rw [Bool.eq_iff_iff]
  simp only [List.all_eq_true, List.mem_range, beq_iff_eq, decide_eq_true_eq]
  constructor
  · intro h
    apply List.ext_getElem (by omega)
    intro i h1 h2
    have := h i (by omega)
    simpa [h1, h2] using this
  · rintro rfl _ _; rfl
theorem run_eql_nums (w : World) (t e : TypeId) (k : IntKind) (n : Nat) (hu : P.underlying t = some (.array n e)) (hue : P.underlying e = some (.int k)) (hi : (P.info? e).map (·.size) = some 1)
    (a b : List Int) (ha : a.length = n) (hb : b.length = n) : (Op.equalIn 10000 t (.agg (nums k a)) (.agg (nums k b))).run P w = .ok (decide (a = b)) w := by
  cases hq : P.info? e with
  | none => simp [hq] at hi
  | some i =>
    have hc : P.cellsOf e = 1 := by simpa [Program.cellsOf, hq] using hi
    rw [run_equalIn_array w 9999 (nums k a) (nums k b) hu hq, hc, run_eqItems_nums w 9998 e k hue a b (List.range n) (fun i hi => by simp at hi; omega), all_eq_iff a b n ha hb]
theorem run_binneq_nums (w : World) (t e : TypeId) (k : IntKind) (n : Nat) (hu : P.underlying t = some (.array n e)) (hue : P.underlying e = some (.int k)) (hi : (P.info? e).map (·.size) = some 1)
    (a b : List Int) (ha : a.length = n) (hb : b.length = n) : (binOp .neq t (.agg (nums k a)) (.agg (nums k b))).run P w = .ok (.bool (!decide (a = b))) w := by
  rw [run_neq_struct, run_eql_nums w t e k n hu hue hi a b ha hb]
  rfl
end
end Go.Proofs.YtandblanpafjoaaGreatDoor

namespace Go.Proofs.YtandblanpafjoaaGreatDoor
open Go.RowKit Go.Extern.Stop Go.Stop Go.Extern Go.Maps
structure DeltaAt (w : World) (sb : Nat) (F : Nat → Prop) (n win lo frame : Nat) (fs : Nat → List Int) (pb rb : Nat) (mb : Nat → Nat) : Prop where
  blk : StBlk w sb 261 n frame (stF n fs frame) pb win rb (win + 1)
  pl : RingAt w pb 199 win 4 lo frame (fun f => insV n (fs f))
  ring : ∃ t, Blk w rb ((List.range (win + 1)).map fun i => Value.map (some (mb i))).toArray t
  maps : ∀ i, i < win + 1 → ∃ M, PgMap w (mb i) 18 M
  past : ∀ f, lo ≤ f → f < frame → PgMap w (mb (f % (win + 1))) 18 (diffL (stF n fs f) (stF n fs (f + 1)))
  next : PgMap w (mb (frame % (win + 1))) 0 (fun _ => none)
  inj : ∀ i j, i < win + 1 → j < win + 1 → mb i = mb j → i = j
  far : ∀ i, i < win + 1 → mb i ≠ sb ∧ mb i ≠ pb ∧ mb i ≠ rb ∧ F (mb i)
  ne1 : sb ≠ pb
  ne2 : sb ≠ rb
  ne3 : pb ≠ rb
  f1 : F sb
  f2 : F pb
  f3 : F rb
theorem DeltaAt.same {w w' : World} {sb : Nat} {F : Nat → Prop} {n win lo frame : Nat} {fs : Nat → List Int} {pb rb : Nat} {mb : Nat → Nat} (h : DeltaAt w sb F n win lo frame fs pb rb mb) (hs : Same F w w') : DeltaAt w' sb F n win lo frame fs pb rb mb :=
  ⟨h.blk.same (hs _ h.f1), h.pl.same (hs _ h.f2), by obtain ⟨t, ht⟩ := h.ring; exact ⟨t, (hs _ h.f3).trans ht⟩,
   fun i hi => by obtain ⟨M, hM⟩ := h.maps i hi; exact ⟨M, hM.same (hs _ (h.far i hi).2.2.2)⟩,
   fun f h1 h2 => (h.past f h1 h2).same (hs _ (h.far _ (Nat.mod_lt f (by omega))).2.2.2), h.next.same (hs _ (h.far _ (Nat.mod_lt frame (by omega))).2.2.2), h.inj, h.far, h.ne1, h.ne2, h.ne3, h.f1, h.f2, h.f3⟩
theorem DeltaAt.congr {w : World} {sb : Nat} {F : Nat → Prop} {n win lo frame : Nat} {fs gs : Nat → List Int} {pb rb : Nat} {mb : Nat → Nat} (h : DeltaAt w sb F n win lo frame fs pb rb mb) (he : ∀ f, f < frame → gs f = fs f) : DeltaAt w sb F n win lo frame gs pb rb mb :=
  ⟨by rw [stF_congr (gs := fs) frame he]; exact h.blk, h.pl.congr (fun f _ hf => by rw [he f hf]), h.ring, h.maps,
   fun f h1 h2 => by rw [stF_congr (gs := fs) f (fun k hk => he k (by omega)), stF_congr (gs := fs) (f + 1) (fun k hk => he k (by omega))]; exact h.past f h1 h2, h.next, h.inj, h.far, h.ne1, h.ne2, h.ne3, h.f1, h.f2, h.f3⟩
theorem DeltaAt.slot {w : World} {sb : Nat} {F : Nat → Prop} {n win lo frame : Nat} {fs : Nat → List Int} {pb rb : Nat} {mb : Nat → Nat} (h : DeltaAt w sb F n win lo frame fs pb rb mb) (f : Nat) : w.cell? ⟨rb, f % (win + 1), none⟩ = some (.map (some (mb (f % (win + 1))))) := by
  obtain ⟨t, ht⟩ := h.ring
  rw [ht.cell]
  have := Nat.mod_lt f (show 0 < win + 1 by omega)
  simp [this]
theorem DeltaAt.rlt {w : World} {sb : Nat} {F : Nat → Prop} {n win lo frame : Nat} {fs : Nat → List Int} {pb rb : Nat} {mb : Nat → Nat} (h : DeltaAt w sb F n win lo frame fs pb rb mb) : rb < w.heap.size := by
  obtain ⟨t, ht⟩ := h.ring; exact ht.lt
/-- Those pages are put back that are no longer to come. -/
def backL (m : List Int) (M : Nat → Option (List Int)) (left : Lit → Bool) : List Int := overL m (fun i => if left (kI i) then none else M i)
theorem backL_len (m : List Int) (M : Nat → Option (List Int)) (left : Lit → Bool) : (backL m M left).length = 288 := overL_len _ _
theorem backL_start {m : List Int} {M : Nat → Option (List Int)} {left : Lit → Bool} (hm : m.length = 288) (h : ∀ i, M i ≠ none → left (kI i) = true) : backL m M left = m := by
  refine list_ext288 (backL_len _ _ _) hm fun j hj => ?_
  unfold backL
  rw [overL_get _ _ _ hj]
  by_cases e : left (kI (j / 16)) = true
  · simp [e]
  · have : M (j / 16) = none := by
      apply Classical.byContradiction
      intro hx; exact e (h _ hx)
    simp [this]
theorem backL_end {m : List Int} {M : Nat → Option (List Int)} {left : Lit → Bool} (h : ∀ kl, left kl = false) : backL m M left = overL m M := by
  unfold backL
  congr 1
  funext i
  simp [h]
theorem getD_three (A l C : List Int) (j : Nat) : (A ++ (l ++ C)).getD j 0 = if j < A.length then A.getD j 0 else if j < A.length + l.length then l.getD (j - A.length) 0 else C.getD (j - A.length - l.length) 0 := by
  simp only [List.getD_eq_getElem?_getD]
  split
  · rw [List.getElem?_append_left (by assumption)]
  · split
    · rw [List.getElem?_append_right (by omega), List.getElem?_append_left (by omega)]
    · rw [List.getElem?_append_right (by omega), List.getElem?_append_right (by omega)]
theorem getD_takeL (A : List Int) (k j : Nat) (h : j < k) : (A.take k).getD j 0 = A.getD j 0 := by simp [List.getD_eq_getElem?_getD, h]
theorem getD_dropL (A : List Int) (k j : Nat) : (A.drop k).getD j 0 = A.getD (k + j) 0 := by simp [List.getD_eq_getElem?_getD, List.getElem?_drop]
theorem backL_step {m : List Int} {M : Nat → Option (List Int)} {left : Lit → Bool} {i : Nat} {l : List Int} (hi : i < 18) (hM : M i = some l) (hl : l.length = 16) :
    backL m M (fun z => left z && !z.sameKey (kI i)) = (backL m M left).take (16 * i) ++ (l ++ (backL m M left).drop (16 * i + 16)) := by
  have hk : ∀ j, (kI j).sameKey (kI i) = decide (j = i) := fun j => by
    by_cases e : j = i
    · subst e; simp [kI, Lit.sameKey]
    · simp [kI, Lit.sameKey, e]; omega
  refine list_ext288 (backL_len _ _ _) (by simp [backL_len, hl]; omega) fun j hj => ?_
  unfold backL
  rw [overL_get _ _ _ hj]
  simp only [hk]
  have hlen : (overL m fun i => if left (kI i) = true then none else M i).length = 288 := overL_len _ _
  have htl : ((overL m fun i => if left (kI i) = true then none else M i).take (16 * i)).length = 16 * i := by simp [hlen]; omega
  rw [getD_three, htl, hl]
  by_cases h1 : j < 16 * i
  · have hne : j / 16 ≠ i := by omega
    rw [if_pos h1, getD_takeL _ _ _ h1, overL_get _ _ _ hj]
    simp [hne]
  · rw [if_neg h1]
    by_cases h2 : j < 16 * i + 16
    · have he : j / 16 = i := by omega
      have hm' : j % 16 = j - 16 * i := by omega
      rw [if_pos h2, he, hM, hm']
      simp
    · have hne : j / 16 ≠ i := by omega
      rw [if_neg h2, getD_dropL, show 16 * i + 16 + (j - 16 * i - 16) = j by omega, overL_get _ _ _ hj]
      simp [hne]
theorem back_state (n : Nat) (hn : n ≤ 4) (fs : Nat → List Int) (f : Nat) : overL (stF n fs (f + 1)) (diffL (stF n fs f) (stF n fs (f + 1))) = stF n fs f := over_diff (stF_len hn fs f)
end Go.Proofs.YtandblanpafjoaaGreatDoor

namespace Go.Proofs.YtandblanpafjoaaGreatDoor
open Go.RowKit Go.Extern.Stop Go.Stop Go.Extern Go.Maps
theorem Tryz.infoPg : (Tryz.prog.info? 207).map (fun i => (i.zero, i.size)) = some (some (.agg (nums .u8 (List.replicate 16 0))), 16) := by kernel_rfl
theorem Tryz.zeroPg (w : World) : (zeroValue 207).run Tryz.prog w = .ok (.agg (nums .u8 (List.replicate 16 0))) w := (zero_of_info Tryz.infoPg).1 w
theorem Tryz.sizePg (l : List Int) (hl : l.length = 16) : (Tryz.prog.info? 207).map (·.size) = some (nums .u8 l).size := by
  rw [nums_size, hl]; exact (zero_of_info Tryz.infoPg).2
theorem Blk.page {w : World} {g : Nat} {m : List Int} {t : TypeId} (h : Blk w g (nums .u8 m) t) (hm : m.length = 288) (i : Nat) (hi : i < 18) (l : List Int) (hl : l.length = 16) :
    Blk (w.setCells g (i * 16) (l.map (Value.int .u8))) g (nums .u8 (m.take (16 * i) ++ (l ++ m.drop (16 * i + 16)))) t := by
  have e : m = m.take (16 * i) ++ ((m.drop (16 * i)).take 16 ++ m.drop (16 * i + 16)) := by
    rw [← List.drop_drop, List.take_append_drop, List.take_append_drop]
  have h' : Blk w g ((m.take (16 * i)).map (Value.int .u8) ++ (((m.drop (16 * i)).take 16).map (Value.int .u8) ++ (m.drop (16 * i + 16)).map (Value.int .u8))).toArray t := by
    rw [← List.map_append, ← List.map_append, ← e]; exact h
  have := h'.mid (l.map (Value.int .u8)) (by simp [hl, hm]; omega)
  have hlen : ((m.take (16 * i)).map (Value.int .u8)).length = i * 16 := by simp [hm]; omega
  rw [hlen] at this
  rw [nums, List.map_append, List.map_append]
  exact this
set_option maxRecDepth 10000 in
set_option maxHeartbeats 2000000 in
theorem dstate_any (sb n win lo frame pb rb f : Nat) (mb : Nat → Nat) (F : Nat → Prop) (fs : Nat → List Int) (w : World) (h : DeltaAt w sb F n win lo frame fs pb rb mb) (hn : n ≤ 4) (hl : lo ≤ f) (hf : f ≤ frame) (hfr : frame ≤ 1000) :
    Calls Tryz.prog 197 #[.pointer (some ⟨sb, 0, none⟩), .int .i64 (f : Int)] w fun e w' => e = .returned (.agg (nums .u8 (stF n fs f))) ∧ Below w.heap.size w w' := by
  have hz := Tryz.zeroMem
  have hz2 := Tryz.zeroPg
  have hlt := h.blk.lt
  have HB := hide h
  have hlenF := stF_len hn fs frame
  have e1 : ((w.alloc (.cells (nums .u8 Z288) 209)).alloc (.cells (nums .u8 Z288) 209)).heap.size = w.heap.size + 2 := by simp
  have b1 : Below w.heap.size w ((w.alloc (.cells (nums .u8 Z288) 209)).alloc (.cells (nums .u8 Z288) 209)) := ((Below.refl _ w).alloc (Nat.le_refl _) _).alloc (by simp) _
  have x1 : Blk ((w.alloc (.cells (nums .u8 Z288) 209)).alloc (.cells (nums .u8 Z288) 209)) w.heap.size (nums .u8 Z288) 209 := (Blk.new w _ _).alloc _
  have y1 : Blk ((w.alloc (.cells (nums .u8 Z288) 209)).alloc (.cells (nums .u8 Z288) 209)) (w.heap.size + 1) (nums .u8 Z288) 209 := by
    have := Blk.new (w.alloc (.cells (nums .u8 Z288) 209)) (nums .u8 Z288) 209
    simpa using this
  have c1 : ((w.alloc (.cells (nums .u8 Z288) 209))).rangeAt sb 2 ((stF n fs frame).map (Value.int .u8)) := World.rangeAt_alloc h.blk.now _
  have s1 : StBlk (((w.alloc (.cells (nums .u8 Z288) 209)).alloc (.cells (nums .u8 Z288) 209)).setRow (w.heap.size + 1) (nums .u8 (stF n fs frame))) sb 261 n frame (stF n fs frame) pb win rb (win + 1) := ⟨h.blk.1, ((h.blk.2.alloc _).alloc _).setRowOther _ _ (by omega)⟩
  have k1 := s1.c1
  have b2 := below_setRow b1 (show w.heap.size ≤ w.heap.size + 1 by omega) (nums .u8 (stF n fs frame))
  have x2 := x1.setRowOther (w.heap.size + 1) (nums .u8 (stF n fs frame)) (by omega)
  have y2 := y1.setRow (nums .u8 (stF n fs frame))
  have e2 : (((w.alloc (.cells (nums .u8 Z288) 209)).alloc (.cells (nums .u8 Z288) 209)).setRow (w.heap.size + 1) (nums .u8 (stF n fs frame))).heap.size = w.heap.size + 2 := by
    rw [← e1]; simp [World.setRow]
  clear x1 b1 s1 e1
  clear h
  go_enter Tryz.func197, Tryz.ntmps197
  go_wp2_with (first | (refine wpList_load_mid rfl 209 _ rfl sb 2 rfl ((stF n fs frame).map (Value.int .u8)) _ c1 Tryz.underlying209 rfl (by rw [List.length_map, hlenF]; exact (zero_of_info Tryz.infoMem).2) ?_) | (refine wpList_store_blk rfl 209 _ _ rfl (w.heap.size + 1) 209 (nums .u8 Z288) (nums .u8 (stF n fs frame)) rfl rfl y1 (Tryz.sizeMem _ hlenF) (by rw [nums_size, nums_size, hlenF]; rfl) (nums_one _ _) ?_))
  obtain ⟨V, hV⟩ : ∃ V, ((w.alloc (.cells (nums .u8 Z288) 209)).alloc (.cells (nums .u8 Z288) 209)).setRow (w.heap.size + 1) (nums .u8 (stF n fs frame)) = V := ⟨_, rfl⟩
  rw [hV] at k1 b2 x2 y2 e2 ⊢
  clear hV y1 c1
  have hsub : IntKind.i64.wrap ((frame : Int) - 1) = (frame : Int) - 1 := i64_id _ (by omega) (by omega)
  go_loopw [6] (fun p wr => ∃ k : Nat, f ≤ k ∧ k ≤ frame ∧ p = .int .i64 ((k : Int) - 1) ∧ Below w.heap.size w wr ∧ w.heap.size + 2 ≤ wr.heap.size ∧ Blk wr w.heap.size (nums .u8 Z288) 209 ∧ Blk wr (w.heap.size + 1) (nums .u8 (stF n fs k)) 209) (fun p _ => (intOf p + 1).toNat)
  case atStart => exact ⟨frame, hf, Nat.le_refl _, by first | rfl | (simp [hsub]), b2, by omega, x2, y2⟩
  case round =>
    clear b2 x2 y2 e2 k1 hlenF
    obtain ⟨k, hk1, hk2, rfl, hb, hsz, hx, hy⟩ := hrel
    have hs := (unhide HB).blk.same (hb.block sb hlt)
    have k291 := hs.c291
    by_cases hlt2 : f < k
    · obtain ⟨q, rfl⟩ : ∃ q, k = q + 1 := ⟨k - 1, by omega⟩
      have hq : (((q + 1 : Nat) : Int) - 1) = (q : Int) := by omega
      rw [hq]
      have hge : decide ((f : Int) ≤ (q : Int)) = true := by simp; omega
      obtain ⟨D, hown, hD⟩ := (unhide HB).past q (by omega) (by omega)
      have hml : mb (q % (win + 1)) < w.heap.size := by obtain ⟨es, c, hbb, _⟩ := hown; exact (Array.getElem?_eq_some_iff.1 hbb).1
      have hsl := (unhide HB).slot q
      have hrl := (unhide HB).rlt
      have hsl2 : wr.cell? ⟨rb, q % (win + 1), none⟩ = some (.map (some (mb (q % (win + 1))))) := (hb.cell (p := ⟨rb, q % (win + 1), none⟩) hrl).trans hsl
      go_wp2_with fail
      refine (rat_pg rb (win + 1) q (mb (q % (win + 1))) wr (by omega) hsl2).mono ?_
      rintro e w3 ⟨rfl, hb3⟩
      have hb13 : Below w.heap.size w w3 := hb.trans (hb3.mono (by omega))
      have hown3 : w3.ownsMap Tryz.prog 3 pgElem (mb (q % (win + 1))) 18 D := by
        obtain ⟨es, c, hbb, hr⟩ := hown
        exact ⟨es, c, (hb13.block _ hml).trans hbb, hr⟩
      go_wp2_with (first | (at_range; refine wpList_range_own _ rfl _ 259 rfl 3 207 Tryz.keyedInt Tryz.underlying259 pgElem (mb (q % (win + 1))) 18 D rfl hown3 ?_; intro w4 hrg4 hg4 hs4))
      go_frame
      have hne1 : mb (q % (win + 1)) ≠ w.heap.size + 1 := by omega
      have z3 := hb3.size
      have hb14 : Below w.heap.size w w4 := ⟨hg4.os.trans hb13.os, hg4.tape.trans hb13.tape, hg4.output.trans hb13.output, Nat.le_trans hb13.size hg4.size, fun k hk => (hg4.block k (by have := hb13.size; omega) (by simp)).trans (hb13.block k hk)⟩
      have hx4 : Blk w4 w.heap.size (nums .u8 Z288) 209 := (hg4.block _ (by omega) (by simp)).trans (hx.below (by omega) hb3)
      have hy4 : Blk w4 (w.heap.size + 1) (nums .u8 (stF n fs (q + 1))) 209 := (hg4.block _ (by omega) (by simp)).trans (hy.below (by omega) hb3)
      have hlq := stF_len hn fs (q + 1)
      have HD := hide hD
      have hMn : ∀ i, diffL (stF n fs q) (stF n fs (q + 1)) i ≠ none → Maps.has D (kI i) = true := fun i hi => by
        cases hq : diffL (stF n fs q) (stF n fs (q + 1)) i with
        | none => exact absurd hq hi
        | some l => exact (hD.some_ i l hq).2.2.1
      have st0 := backL_start (m := stF n fs (q + 1)) (M := diffL (stF n fs q) (stF n fs (q + 1))) (left := Maps.has D) hlq hMn
      clear hD hown hown3 hg4 hb13 hb3 hx hy hb hs k291 hsl hsl2 hMn
      generalize mb (q % (win + 1)) = B at *
      obtain ⟨R, hR⟩ : ∃ R, w3.heap.size = R := ⟨_, rfl⟩
      rw [hR] at hrg4 hs4 z3
      rw [hR]
      have hRB : w.heap.size + 2 ≤ R := by omega
      clear hR
      go_loopw [7] (fun _ wr2 => ∃ left cnt, wr2.ranges Tryz.prog 3 pgElem B R 18 D left cnt ∧ (∀ kl, left kl = true → Maps.has D kl = true) ∧ Below w.heap.size w wr2 ∧ R + 1 ≤ wr2.heap.size ∧ Blk wr2 w.heap.size (nums .u8 Z288) 209 ∧ Blk wr2 (w.heap.size + 1) (nums .u8 (backL (stF n fs (q + 1)) (diffL (stF n fs q) (stF n fs (q + 1))) left)) 209) (fun _ wr2 => wr2.rangeLeft B R)
      case atStart => exact ⟨_, _, hrg4, fun _ h => h, hb14, by omega, hx4, by rw [st0]; exact hy4⟩
      case round =>
        clear hrg4 hb14 hx4 hy4 st0 hs4 z3
        obtain ⟨left, cnt, hrg, hleft, hb, hsz2, hx, hy⟩ := hrel
        go_wp2_with (first | (at_next; refine wpList_next_ranges _ rfl _ rfl 3 Tryz.keyedInt pgElem (Value.int .i64) (fun l : List Int => Value.agg (nums .u8 l)) (fun key kl hkey => by obtain ⟨x, rfl, _⟩ := Maps.keyOf_int_inv Tryz.underlying3 hkey; exact ⟨x, rfl⟩) (fun v y hv => by obtain ⟨l, _, rfl, _⟩ := pgElem_inv hv; exact ⟨l, rfl⟩) B R 18 D left cnt rfl hrg ?_ ?_))
        · intro _ hl0
          have hy' : Blk wr (w.heap.size + 1) (nums .u8 (stF n fs q)) 209 := by
            rw [backL_end hl0, back_state n hn fs q] at hy; exact hy
          clear hy hrg
          have hsq : IntKind.i64.wrap ((q : Int) - 1) = (q : Int) - 1 := i64_id _ (by omega) (by omega)
          go_wp2_with fail
          exact ⟨⟨q, by omega, by omega, rfl, hb, by omega, hx, hy'⟩, by simp [intOf]⟩
        · intro x c kl y ps w5 cnt5 hkey hlk hv hat hrg5 hlt5 hg5 hs5 hen
          obtain ⟨x', ex, rfl, _⟩ := Maps.keyOf_int_inv Tryz.underlying3 hkey
          cases ex
          obtain ⟨i, hi, hki⟩ := (unhide HD).keys _ (hleft _ hlk)
          have hxi : x = (i : Int) := by unfold kI at hki; injection hki
          subst hxi
          have hMi : diffL (stF n fs q) (stF n fs (q + 1)) i = some c ∧ c.length = 16 := by
            cases hq2 : diffL (stF n fs q) (stF n fs (q + 1)) i with
            | none => have := (unhide HD).none_ i hq2; rw [hleft _ (show left (kI i) = true from hlk)] at this; cases this
            | some l =>
              obtain ⟨_, hl16, _, hat'⟩ := (unhide HD).some_ i l hq2
              obtain ⟨l2, hl2, e2, e3⟩ := pgElem_inv hv
              have h1 := hat .nil
              have h2 := hat' .nil
              have h3 : y = .held l := h1.symm.trans h2
              have h4 : y = .held l2 := by injection e3
              have h5 : l = l2 := by rw [h3] at h4; injection h4
              have h6 : c = l2 := by
                have : nums .u8 c = nums .u8 l2 := by injection e2
                unfold nums at this
                have h7 := congrArg Array.toList this
                simp at h7
                exact List.map_inj_right (fun a b hab => by injection hab) |>.1 h7
              subst h5 h6
              exact ⟨rfl, hl16⟩
          obtain ⟨hMi, hc16⟩ := hMi
          have hst := backL_step (m := stF n fs (q + 1)) (M := diffL (stF n fs q) (stF n fs (q + 1))) (left := left) hi hMi hc16
          have hlb := backL_len (stF n fs (q + 1)) (diffL (stF n fs q) (stF n fs (q + 1))) left
          have hx5 : Blk w5 w.heap.size (nums .u8 Z288) 209 := hx.grown hg5 (by omega)
          have hy5 := hy.grown hg5 (show w.heap.size + 1 ≠ R by omega)
          have hb5 : Below w.heap.size w w5 := hb.trans (below_grown hg5 hb.size (by omega))
          have hy6 := hy5.alloc (.cells (nums .u8 c) 207)
          have hi0 : (0 : Int) ≤ (i : Int) := by omega
          have hi1 : (i : Int) < 18 := by omega
          have hth6 : (w5.alloc (.cells (nums .u8 c) 207)).there (w.heap.size + 1) (i * 16) 16 := hy6.there (by rw [nums_size, hlb]; omega)
          have HY := hide (And.intro hy6 hst)
          have HC := hide hrg.left_eq
          have HR5 := hide (And.intro hrg5 hs5)
          clear hs5
          clear hy hy5 hy6 hst hrg hrg5 hv hat hkey hMi hg5 hb hx
          go_wp2_with (first | (refine wpList_store_new rfl 207 _ _ rfl (nums .u8 (List.replicate 16 0)) (nums .u8 c) rfl rfl (Tryz.sizePg _ hc16) (by rw [nums_size, nums_size, hc16]; rfl) (nums_one _ _) ?_) | (refine wpList_load_blk rfl 207 _ rfl w5.heap.size rfl 207 (nums .u8 c) _ (Blk.new _ _ _) Tryz.underlying207 rfl (Tryz.sizePg _ hc16) ?_) | (refine wpList_store_mid rfl 207 _ _ rfl (w.heap.size + 1) (i * 16) (nums .u8 c) (by simp [Act.eval]) rfl (by rw [nums_size, hc16]; exact hth6) (Tryz.sizePg _ hc16) (nums_one _ _) ?_))
          go_frame
          go_roundw
          case rel =>
            obtain ⟨hy6, hst⟩ := unhide HY
            obtain ⟨hr5, hs5⟩ := unhide HR5
            refine ⟨_, cnt5, (hr5.alloc (.cells (nums .u8 c) 207)).kept (grown_setCells (w.heap.size + 1) _ _ _) (by simp; omega) (by simp; omega), fun kl hkl => hleft kl (by simp at hkl; exact hkl.1), below_setCells (hb5.alloc hb5.size _) _ _ _ (by omega), by rw [size_setCells]; simp; omega, ?_, ?_⟩
            · exact (heap_setCells_other (by omega) _ _ _).trans (hx5.alloc _)
            · rw [show backL (stF n fs (q + 1)) (diffL (stF n fs q) (stF n fs (q + 1))) (fun z => left z && !z.sameKey (Lit.int .i64 (i : Int))) = _ from hst]
              exact Blk.page hy6 hlb i hi c hc16
          case measure =>
            obtain ⟨hr5, hs5⟩ := unhide HR5
            have h1 := ((hr5.alloc (.cells (nums .u8 c) 207)).kept (grown_setCells (w.heap.size + 1) (nums .u8 c).toList (i * 16) _) (by simp; omega) (by simp; omega)).left_eq
            rw [h1, unhide HC]; exact hlt5
    · have hkf : k = f := by omega
      subst hkf
      have hge : decide ((k : Int) ≤ (k : Int) - 1) = false := by simp; omega
      have hlk := stF_len hn fs k
      go_wp2_with (first | (refine wpList_load_blk rfl 209 _ rfl (w.heap.size + 1) rfl 209 (nums .u8 (stF n fs k)) _ hy Tryz.underlying209 rfl (Tryz.sizeMem _ hlk) ?_) | (refine wpList_store_blk rfl 209 _ _ rfl w.heap.size 209 (nums .u8 Z288) (nums .u8 (stF n fs k)) rfl rfl hx (Tryz.sizeMem _ hlk) (by rw [nums_size, nums_size, hlk]; rfl) (nums_one _ _) ?_))
      refine bodyPost_ret (v := .agg (nums .u8 (stF n fs k))) ?_ rfl ⟨rfl, ?_⟩
      · exact results_cell_row Tryz.results197 _ _ w.heap.size 209 _ (0, 0) _ rfl (hx.setRow _) Tryz.underlying209 rfl (Tryz.sizeMem _ hlk)
      · exact below_setRow hb (Nat.le_refl _) _
end Go.Proofs.YtandblanpafjoaaGreatDoor

