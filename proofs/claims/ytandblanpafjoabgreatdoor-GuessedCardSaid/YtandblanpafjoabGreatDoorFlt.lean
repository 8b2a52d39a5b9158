import Derived.Test.YtandblanpafjoabGreatDoorBase
import Derived.Test.YtandblanpafjoabGreatDoorChecked
import Derived.Laws.ComplexArith
import Derived.Laws.Cover2
/-! Small whole numbers as floats: exact. -/
namespace Go.Proofs.YtandblanpafjoabGreatDoor
open Go.RowKit

/-- A number as a float64's bits. -/
def fo (n : Int) : Nat := floatOfInt .f64 n
/-- A heading's parts, and those behind a turn (1: left, 2: right). -/
def hre : Nat → Nat | 0 => 4607182418800017408 | 2 => 13830554455654793216 | _ => 0
def him : Nat → Nat | 1 => 4607182418800017408 | 3 => 13830554455654793216 | _ => 0
def tre : Nat → Nat → Nat
  | 0, 1 => 0 | 1, 1 => 13830554455654793216 | 2, 1 => 9223372036854775808 | 3, 1 => 4607182418800017408
  | 0, 2 => 0 | 1, 2 => 4607182418800017408 | 2, 2 => 0 | 3, 2 => 13830554455654793216
  | h, _ => hre h
def tim : Nat → Nat → Nat
  | 0, 1 => 4607182418800017408 | 1, 1 => 0 | 2, 1 => 13830554455654793216 | 3, 1 => 0
  | 0, 2 => 13830554455654793216 | 1, 2 => 0 | 2, 2 => 4607182418800017408 | 3, 2 => 9223372036854775808
  | h, _ => him h
def newHead (h t : Nat) : Nat := if t = 1 then (h + 1) % 4 else if t = 2 then (h + 3) % 4 else h
def dxI : Nat → Int | 0 => 1 | 2 => -1 | _ => 0
def dyI : Nat → Int | 1 => 1 | 3 => -1 | _ => 0
theorem newHead_lt (h t : Nat) (hh : h < 4) : newHead h t < 4 := by unfold newHead; repeat (first | omega | split)

theorem mul_table : ∀ h : Fin 4, cMulBits (hre h) (him h) 0 4607182418800017408 = some (tre h 1, tim h 1) ∧ cMulBits (hre h) (him h) 0 13830554455654793216 = some (tre h 2, tim h 2) := by decide +kernel
theorem addx_table : ∀ (x : Fin 16) (h t : Fin 4), floatBits .add .f64 (fo (x.val : Int)) (tre h t) = some (fo ((x.val : Int) + dxI (newHead h t))) := by decide +kernel
theorem addy_table : ∀ (x : Fin 16) (h t : Fin 4), floatBits .add .f64 (fo (x.val : Int)) (tim h t) = some (fo ((x.val : Int) + dyI (newHead h t))) := by decide +kernel
theorem eq_table : ∀ x y : Fin 16, (FloatKind.f64.format.order (fo (x.val : Int)) (fo (y.val : Int)) == some .eq) = decide (x.val = y.val) := by decide +kernel
theorem num_table : ∀ (h t : Fin 4), ((FloatKind.f64.format.order (tre h t) 0 == some .eq) && (FloatKind.f64.format.order (tim h t) 4607182418800017408 == some .eq)) = decide (newHead h t = 1) ∧
    ((FloatKind.f64.format.order (tre h t) 13830554455654793216 == some .eq) && (FloatKind.f64.format.order (tim h t) 0 == some .eq)) = decide (newHead h t = 2) ∧
    ((FloatKind.f64.format.order (tre h t) 0 == some .eq) && (FloatKind.f64.format.order (tim h t) 13830554455654793216 == some .eq)) = decide (newHead h t = 3) := by decide +kernel
theorem toI_table : ∀ n : Fin 18, floatToIntVal .f64 (fo ((n.val : Int) - 1)) .i64 = some ((n.val : Int) - 1) := by decide +kernel
theorem toU8_table : ∀ n : Fin 16, floatToIntVal .f64 (fo (n.val : Int)) .u8 = some (n.val : Int) := by decide +kernel

theorem cmul_left (h : Nat) (hh : h < 4) (t : TypeId) (w : World) : (binOp .mul t (.complex .f64 (hre h) (him h)) (.complex .f64 0 4607182418800017408)).run Tryz.prog w = .ok (.complex .f64 (tre h 1) (tim h 1)) w :=
  run_complex_mul w t _ _ _ _ _ _ (mul_table ⟨h, hh⟩).1
theorem cmul_right (h : Nat) (hh : h < 4) (t : TypeId) (w : World) : (binOp .mul t (.complex .f64 (hre h) (him h)) (.complex .f64 0 13830554455654793216)).run Tryz.prog w = .ok (.complex .f64 (tre h 2) (tim h 2)) w :=
  run_complex_mul w t _ _ _ _ _ _ (mul_table ⟨h, hh⟩).2
theorem cadd (x y h t : Nat) (hx : x < 16) (hy : y < 16) (hh : h < 4) (ht : t < 4) (ty : TypeId) (w : World) :
    (binOp .add ty (.complex .f64 (fo (x : Int)) (fo (y : Int))) (.complex .f64 (tre h t) (tim h t))).run Tryz.prog w = .ok (.complex .f64 (fo ((x : Int) + dxI (newHead h t))) (fo ((y : Int) + dyI (newHead h t)))) w :=
  run_complex_sum w .add (Or.inl rfl) ty .f64 _ _ _ _ _ _ (by
    unfold cSumBits
    rw [addx_table ⟨x, hx⟩ ⟨h, hh⟩ ⟨t, ht⟩, addy_table ⟨y, hy⟩ ⟨h, hh⟩ ⟨t, ht⟩]; rfl)
theorem ceq (x y a b : Nat) (hx : x < 16) (hy : y < 16) (ha : a < 16) (hb : b < 16) (ty : TypeId) (w : World) :
    (binOp .eql ty (.complex .f64 (fo (x : Int)) (fo (y : Int))) (.complex .f64 (fo (a : Int)) (fo (b : Int)))).run Tryz.prog w = .ok (.bool (decide (x = a) && decide (y = b))) w := by
  rw [run_eql_complex, eq_table ⟨x, hx⟩ ⟨a, ha⟩, eq_table ⟨y, hy⟩ ⟨b, hb⟩]
theorem toInt (n : Int) (h0 : -1 ≤ n) (h1 : n ≤ 16) (w : World) : (convert 156 3 (.float .f64 (fo n))).run Tryz.prog w = .ok (.int .i64 n) w := by
  have := toI_table ⟨(n + 1).toNat, by omega⟩
  simp only at this
  rw [show (((n + 1).toNat : Nat) : Int) - 1 = n by omega] at this
  exact run_convert_float_int w 156 3 .f64 .i64 _ n (by rw [Tryz.underlying156]; rfl) Tryz.underlying3 this
theorem toByte (n : Nat) (h1 : n < 16) (w : World) : (convert 156 5 (.float .f64 (fo (n : Int)))).run Tryz.prog w = .ok (.int .u8 (n : Int)) w :=
  run_convert_float_int w 156 5 .f64 .u8 _ n (by rw [Tryz.underlying156]; rfl) Tryz.underlying5 (toU8_table ⟨n, h1⟩)
theorem store_complex (k : FloatKind) (x y : Nat) (a : Addr) (m : Mode) (w : World) : (store a (.complex k x y) m).run Tryz.prog w = stored Tryz.prog w a (.complex k x y) m := run_store _ w a _ m rfl
end Go.Proofs.YtandblanpafjoabGreatDoor
