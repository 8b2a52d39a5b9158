import Derived.Test.YtandblanpafjoabGreatDoorBase
import Derived.ChangeKeysEq
namespace Go.Proofs.YtandblanpafjoabGreatDoor
open Go.RowKit

/-! Arrays of numbers, compared as values. -/
section
variable {P : Program}
theorem run_part_num (w : World) (e : TypeId) (k : IntKind) (hue : P.underlying e = some (.int k)) (a : List Int) (i : Nat) (hi : i < a.length) :
    (part e (nums k a) i).run P w = .ok (.int k (a.getD i 0)) w := by
  have hagg : (isAgg e).run P w = .ok false w := by
    unfold isAgg
    rw [Sem.run_bind, run_underlying hue w]
    rfl
  have hg := nums_get k a i hi
  have hs : i < (nums k a).size := by rw [nums_size]; exact hi
  rw [Array.getElem?_eq_getElem hs] at hg
  simp [part, hagg]
  simp_all
theorem run_eqItems_nums (w : World) (d : Nat) (e : TypeId) (k : IntKind) (hue : P.underlying e = some (.int k)) (a b : List Int) : ∀ is : List Nat, (∀ i ∈ is, i < a.length ∧ i < b.length) →
    (Op.eqItems (d + 1) e 1 (nums k a) (nums k b) is).run P w = .ok (is.all fun i => a.getD i 0 == b.getD i 0) w
  | [], _ => by simp [Op.eqItems]
  | i :: is, h => by
    have hi := h i (by simp)
    simp only [Op.eqItems, Sem.run_bind, Nat.mul_one, run_part_num w e k hue a i hi.1, run_part_num w e k hue b i hi.2, Result.andThen_ok, run_equalIn_int w d e k k _ _ hue, List.all_cons]
    cases hq : (a.getD i 0 == b.getD i 0)
    · simp
    · simp only [Bool.not_true, Bool.false_eq_true, if_false, Bool.true_and]
      exact run_eqItems_nums w d e k hue a b is (fun j hj => h j (by simp [hj]))
theorem all_eq_iff (a b : List Int) (n : Nat) (ha : a.length = n) (hb : b.length = n) : ((List.range n).all fun i => a.getD i 0 == b.getD i 0) = decide (a = b) := by
  rw [Bool.eq_iff_iff]
  simp only [List.all_eq_true, List.mem_range, beq_iff_eq, decide_eq_true_eq]
  constructor
  · intro h
    apply List.ext_getElem (by omega)
    intro i h1 h2
    have := h i (by omega)
    simpa [h1, h2] using this
  · rintro rfl _ _; rfl
theorem run_eql_nums (w : World) (t e : TypeId) (k : IntKind) (n : Nat) (hu : P.underlying t = some (.array n e)) (hue : P.underlying e = some (.int k)) (hi : (P.info? e).map (·.size) = some 1)
    (a b : List Int) (ha : a.length = n) (hb : b.length = n) : (Op.equalIn 10000 t (.agg (nums k a)) (.agg (nums k b))).run P w = .ok (decide (a = b)) w := by
  cases hq : P.info? e with
  | none => simp [hq] at hi
  | some i =>
    have hc : P.cellsOf e = 1 := by simpa [Program.cellsOf, hq] using hi
    rw [run_equalIn_array w 9999 (nums k a) (nums k b) hu hq, hc, run_eqItems_nums w 9998 e k hue a b (List.range n) (fun i hi => by simp at hi; omega), all_eq_iff a b n ha hb]
theorem run_binneq_nums (w : World) (t e : TypeId) (k : IntKind) (n : Nat) (hu : P.underlying t = some (.array n e)) (hue : P.underlying e = some (.int k)) (hi : (P.info? e).map (·.size) = some 1)
    (a b : List Int) (ha : a.length = n) (hb : b.length = n) : (binOp .neq t (.agg (nums k a)) (.agg (nums k b))).run P w = .ok (.bool (!decide (a = b))) w := by
  rw [run_neq_struct, run_eql_nums w t e k n hu hue hi a b ha hb]
  rfl
end
end Go.Proofs.YtandblanpafjoabGreatDoor
