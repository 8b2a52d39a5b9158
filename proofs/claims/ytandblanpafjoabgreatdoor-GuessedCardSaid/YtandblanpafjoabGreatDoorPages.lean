import Derived.Test.YtandblanpafjoabGreatDoorMid
import Derived.Maps.RangeWalk
import Derived.Maps.Ext
import Derived.Maps.OwnSet
import Derived.MapKept
namespace Go.Proofs.YtandblanpafjoabGreatDoor
open Go.RowKit Go.Maps

/-! Maps of pages. -/
def numsOf : List Value → Option (List Int)
  | [] => some []
  | .int .u8 x :: r => (numsOf r).map (x :: ·)
  | _ => none
theorem numsOf_mk : ∀ l : List Int, numsOf (l.map (Value.int .u8)) = some l
  | [] => rfl
  | x :: l => by simp [numsOf, numsOf_mk l]
theorem numsOf_inv : ∀ (vs : List Value) (l : List Int), numsOf vs = some l → vs = l.map (Value.int .u8)
  | [], l, h => by simp [numsOf] at h; subst h; rfl
  | v :: vs, l, h => by
    unfold numsOf at h
    split at h
    · rename_i he; cases he
    · rename_i he
      cases he
      simp only [Option.map_eq_some_iff] at h
      obtain ⟨l', hq, rfl⟩ := h
      simp [numsOf_inv _ l' hq]
    · cases h
def pgElem (v : Value) : Option (DataW (List Int) × List MemPlace) :=
  match v with
  | .agg cs => (match numsOf cs.toList with
    | some l => if l.length = 16 then some (.held l, []) else none
    | none => none)
  | _ => none
theorem pgElem_mk (l : List Int) (h : l.length = 16) : pgElem (.agg (nums .u8 l)) = some (.held l, []) := by
  simp [pgElem, nums, numsOf_mk, h]
theorem pgElem_inv {v : Value} {y : DataW (List Int) × List MemPlace} (h : pgElem v = some y) : ∃ l, l.length = 16 ∧ v = .agg (nums .u8 l) ∧ y = (.held l, []) := by
  unfold pgElem at h
  split at h
  · rename_i cs
    split at h
    · rename_i l hl
      split at h
      · rename_i h16
        cases h
        refine ⟨l, h16, ?_, rfl⟩
        have := numsOf_inv _ _ hl
        unfold nums
        rw [← this]
      · cases h
    · cases h
  · cases h
theorem Tryz.keyedInt : Keyed Tryz.prog 3 := int_keyed Tryz.underlying3
def kI (i : Nat) : Lit := .int .i64 (i : Int)
theorem kI_inj {i j : Nat} (h : kI i = kI j) : i = j := by
  unfold kI at h; injection h with _ h; omega
/-- What a map of pages reads as. -/
structure PgD (D : DataW (List Int)) (M : Nat → Option (List Int)) : Prop where
  keys : ∀ kl, Maps.has D kl = true → ∃ i, i < 18 ∧ kl = kI i
  some_ : ∀ i l, M i = some l → i < 18 ∧ l.length = 16 ∧ Maps.has D (kI i) = true ∧ ∀ z, D.atKey (kI i) z = .held l
  none_ : ∀ i, M i = none → Maps.has D (kI i) = false
def PgMap (w : World) (b n : Nat) (M : Nat → Option (List Int)) : Prop := ∃ D, w.ownsMap Tryz.prog 3 pgElem b n D ∧ PgD D M
theorem PgD.empty : PgD (.map []) (fun _ => none) where
  keys := fun kl h => by simp [Maps.has] at h
  some_ := fun i l h => by simp at h
  none_ := fun i _ => by simp [Maps.has]
theorem PgMap.lt {w : World} {b n : Nat} {M : Nat → Option (List Int)} (h : PgMap w b n M) : b < w.heap.size := by
  obtain ⟨D, ⟨es, c, hb, _⟩, _⟩ := h
  exact (Array.getElem?_eq_some_iff.1 hb).1
theorem PgMap.same {w w' : World} {b n : Nat} {M : Nat → Option (List Int)} (h : PgMap w b n M) (hs : w'.heap[b]? = w.heap[b]?) : PgMap w' b n M := by
  obtain ⟨D, ⟨es, c, hb, hr⟩, hd⟩ := h
  exact ⟨D, ⟨es, c, hs.trans hb, hr⟩, hd⟩
theorem PgMap.mono {w : World} {b n m : Nat} {M : Nat → Option (List Int)} (h : PgMap w b n M) (hn : n ≤ m) : PgMap w b m M := by
  obtain ⟨D, ho, hd⟩ := h
  exact ⟨D, ho.mono hn, hd⟩
def updM (M : Nat → Option (List Int)) (i : Nat) (l : List Int) : Nat → Option (List Int) := fun j => if j = i then some l else M j
theorem PgD.put {D : DataW (List Int)} {M : Nat → Option (List Int)} (h : PgD D M) (hm : IsMap D) (i : Nat) (hi : i < 18) (l : List Int) (hl : l.length = 16) : PgD (D.put (kI i) (.held l)) (updM M i l) := by
  have hk : WideAt.IsKeyLit (kI i) := by simp [kI, WideAt.IsKeyLit]
  refine ⟨?_, ?_, ?_⟩
  · intro kl hk'
    by_cases e : kl = kI i
    · exact ⟨i, hi, e⟩
    · rw [has_put_other e] at hk'; exact h.keys kl hk'
  · intro j l' hj
    by_cases e : j = i
    · subst e
      simp [updM] at hj
      subst hj
      exact ⟨hi, hl, has_put_same hm hk _, fun z => atKey_put_same hm hk _ z⟩
    · simp [updM, e] at hj
      obtain ⟨h1, h2, h3, h4⟩ := h.some_ j l' hj
      have hne : kI j ≠ kI i := fun e' => e (kI_inj e')
      exact ⟨h1, h2, by rw [has_put_other hne]; exact h3, fun z => by rw [atKey_put_other hne]; exact h4 z⟩
  · intro j hj
    by_cases e : j = i
    · simp [updM, e] at hj
    · simp [updM, e] at hj
      rw [has_put_other (fun e' => e (kI_inj e'))]
      exact h.none_ j hj

section
variable {P : Program}
/-- clear(m). -/
theorem wpList_clear_own {H : Type} {ops : Array Oper} {rest : List Oper} {o : Oper} {a : Act} {w : World} {Q : Exit → Act → World → Prop} (hg : o.guard = none) (m : Operand) (t k e : TypeId) (hop : o.op = Op.call { callee := Callee.builtin Builtin.clear, args := #[m], argTypes := #[t] })
    (ht : P.underlying t = some (.map k e)) (R : Value → Option (DataW H × List MemPlace)) (b n : Nat) (D : DataW H) (hm : a.eval m = .map (some b)) (hown : w.ownsMap P k R b n D)
    (hK : ∀ w', w'.ownsMap P k R b 0 (.map []) → w.grownBy w' (some b) → w'.heap.size = w.heap.size → wpList P ops Q rest (a.put o.dst (.tuple #[])) w') : wpList P ops Q (o :: rest) a w := by
  refine wpList_plain hg fun K' hK' => ?_
  obtain ⟨es, clock, hb, F, _, _⟩ := hown
  unfold Oper.wp
  simp [execOp, hop, resolve, invoke, builtin, hm, Builtin.clear_, run_underlying ht, MapKept.run_getObj_map hb, MapKept.run_setObj_map _ hb, Result.andThen]
  have hset := MapKept.heap_set (o' := .map #[] clock) hb
  exact hK' _ _ (hK _ ⟨#[], clock, hset.1, ⟨by simp, MapKept.stamped_empty clock, by simp⟩, Nat.le_refl _, rfl⟩ ⟨rfl, rfl, rfl, by simp, fun k' _ hk' => hset.2 k' (fun e => hk' (by rw [e]))⟩ (by simp))
end
end Go.Proofs.YtandblanpafjoabGreatDoor
