import Derived.Test.YtandblanpafjoabGreatDoorFlt
import Derived.Deep.RegionHeld3
namespace Go.Proofs.YtandblanpafjoabGreatDoor
open Go.RowKit Go.Extern.Stop Go.Stop Go.Extern

set_option maxHeartbeats 400000 in
theorem headingOf_any (n : Nat) (w : World) (hn : n < 4) :
    Calls Tryz.prog 100 #[.int .u8 (n : Int)] w fun e w' => e = .returned (.complex .f64 (hre n) (him n)) ∧ w' = w := by
  match n, hn with
  | 0, _ | 1, _ | 2, _ | 3, _ =>
    go_enter Tryz.func100, Tryz.ntmps100
    go_wp2
    go_ret
    exact ⟨rfl, rfl⟩

set_option maxHeartbeats 400000 in
theorem numberOf_any (h t : Nat) (w : World) (hh : h < 4) (ht : t < 4) :
    Calls Tryz.prog 99 #[.complex .f64 (tre h t) (tim h t)] w fun e w' => e = .returned (.int .u8 (newHead h t : Int)) ∧ w' = w := by
  obtain ⟨e1, e2, e3⟩ := num_table ⟨h, hh⟩ ⟨t, ht⟩
  have hlt := newHead_lt h t hh
  simp only at e1 e2 e3
  have r1 : ∀ ty w, (binOp .eql ty (.complex .f64 (tre h t) (tim h t)) (.complex .f64 0 4607182418800017408)).run Tryz.prog w = .ok (.bool (decide (newHead h t = 1))) w := fun ty w => by rw [run_eql_complex, e1]
  have r2 : ∀ ty w, (binOp .eql ty (.complex .f64 (tre h t) (tim h t)) (.complex .f64 13830554455654793216 0)).run Tryz.prog w = .ok (.bool (decide (newHead h t = 2))) w := fun ty w => by rw [run_eql_complex, e2]
  have r3 : ∀ ty w, (binOp .eql ty (.complex .f64 (tre h t) (tim h t)) (.complex .f64 0 13830554455654793216)).run Tryz.prog w = .ok (.bool (decide (newHead h t = 3))) w := fun ty w => by rw [run_eql_complex, e3]
  clear e1 e2 e3
  generalize newHead h t = n at *
  generalize tre h t = a at *
  generalize tim h t = b at *
  match n, hlt with
  | 0, _ | 1, _ | 2, _ | 3, _ =>
    simp at r1 r2 r3
    go_enter Tryz.func99, Tryz.ntmps99
    go_wp2
    go_ret
    exact ⟨rfl, rfl⟩

set_option maxHeartbeats 400000 in
theorem wrapped_any (n : Int) (w : World) (h0 : -1 ≤ n) (h1 : n ≤ 16) :
    Calls Tryz.prog 101 #[.float .f64 (fo n)] w fun e w' => e = .returned (.float .f64 (fo (n % 16))) ∧ w' = w := by
  have hc := toInt n h0 h1
  go_enter Tryz.func101, Tryz.ntmps101
  go_wp2
  go_ret
  exact ⟨rfl, rfl⟩

set_option maxHeartbeats 400000 in
theorem cell_any (g x y : Nat) (w : World) (hx : x < 16) (hy : y < 16) :
    Calls Tryz.prog 102 #[.pointer (some ⟨g, 0, none⟩), .complex .f64 (fo (x : Int)) (fo (y : Int))] w fun e w' => e = .returned (.pointer (some ⟨g, 16 * y + x, none⟩)) ∧ w' = w := by
  have hcx := toInt (x : Int) (by omega) (by omega)
  have hcy := toInt (y : Int) (by omega) (by omega)
  have hy2 : (y : Int) < 18 := by omega
  have hx2 : (x : Int) < 16 := by omega
  go_enter Tryz.func102, Tryz.ntmps102
  go_wp2
  go_ret
  exact ⟨by rw [Nat.mul_comm 16 y]; rfl, rfl⟩

def scap : Nat → Nat | 0 => 16 | 2 => 16 | _ => 8
set_option maxHeartbeats 400000 in
theorem shipBytes_any (g k : Nat) (w : World) (hk : k < 4) :
    Calls Tryz.prog 98 #[.pointer (some ⟨g, 0, none⟩), .int .i64 (k : Int)] w fun e w' => e = .returned (.slice (some ⟨g, 256 + 8 * k, none⟩) 8 (scap k)) ∧ w' = w := by
  match k, hk with
  | 0, _ | 1, _ | 2, _ | 3, _ =>
    go_enter Tryz.func98, Tryz.ntmps98
    go_wp2
    go_ret
    exact ⟨rfl, rfl⟩

theorem and3_table : ∀ i : Fin 256, bits .and .u8 (i.val : Int) 3 = ((i.val % 4 : Nat) : Int) := by decide +kernel
theorem and4_table : ∀ i : Fin 256, bits .and .u8 (i.val : Int) 4 = ((4 * (i.val / 4 % 2) : Nat) : Int) := by decide +kernel

set_option maxHeartbeats 400000 in
theorem turned_any (a b h i : Nat) (s : Int) (w : World) (hh : h < 4) (hi : i < 256) :
    Calls Tryz.prog 72 #[.agg #[.complex .f64 a b, .complex .f64 (hre h) (him h), .int .u16 s], .int .u8 (i : Int)] w fun e w' => e = .returned (.agg #[.complex .f64 a b, .complex .f64 (tre h (i % 4)) (tim h (i % 4)), .int .u16 s]) ∧ Below w.heap.size w w' := by
  have hand := and3_table ⟨i, hi⟩
  simp only at hand
  have r1 := cmul_left h hh
  have r2 := cmul_right h hh
  have hsc := store_complex
  have hlt : i % 4 < 4 := Nat.mod_lt _ (by omega)
  have H0 : Hid (∀ t, t ≠ 1 → t ≠ 2 → tre h t = hre h ∧ tim h t = him h) := hide (fun t h1 h2 => by
    unfold tre tim
    split <;> simp_all)
  generalize i % 4 = t at *
  match t, hlt with
  | 0, _ | 3, _ =>
    first | rw [(unhide H0 0 (by decide) (by decide)).1, (unhide H0 0 (by decide) (by decide)).2] | rw [(unhide H0 3 (by decide) (by decide)).1, (unhide H0 3 (by decide) (by decide)).2]
    simp at hand
    clear H0
    go_enter Tryz.func72, Tryz.ntmps72
    go_wp2
    exact bodyPost_ret (v := .agg #[.complex .f64 a b, .complex .f64 (hre h) (him h), .int .u16 s]) (by simp [results, Tryz.results72, go_sem]) rfl ⟨rfl, ((Below.refl _ _).alloc (Nat.le_refl _) _).alloc (by simp) _⟩
  | 1, _ =>
    simp at hand
    clear H0
    go_enter Tryz.func72, Tryz.ntmps72
    go_wp2
    exact bodyPost_ret (v := .agg #[.complex .f64 a b, .complex .f64 (tre h 1) (tim h 1), .int .u16 s]) (by simp [results, Tryz.results72, go_sem]) rfl ⟨rfl, ((Below.refl _ _).alloc (Nat.le_refl _) _).alloc (by simp) _⟩
  | 2, _ =>
    simp at hand
    clear H0
    go_enter Tryz.func72, Tryz.ntmps72
    go_wp2
    exact bodyPost_ret (v := .agg #[.complex .f64 a b, .complex .f64 (tre h 2) (tim h 2), .int .u16 s]) (by simp [results, Tryz.results72, go_sem]) rfl ⟨rfl, ((Below.refl _ _).alloc (Nat.le_refl _) _).alloc (by simp) _⟩

/-- Where a ship would go. -/
def goX (x h t : Nat) : Nat := if t = 3 then x else (((x : Int) + dxI (newHead h t)) % 16).toNat
def goY (y h t : Nat) : Nat := if t = 3 then y else (((y : Int) + dyI (newHead h t)) % 16).toNat
theorem goX_lt (x h t : Nat) (hx : x < 16) : goX x h t < 16 := by unfold goX; split <;> omega
theorem goY_lt (x h t : Nat) (hx : x < 16) : goY x h t < 16 := by unfold goY; split <;> omega
theorem dxI_range (h : Nat) : -1 ≤ dxI h ∧ dxI h ≤ 1 := by unfold dxI; split <;> omega
theorem dyI_range (h : Nat) : -1 ≤ dyI h ∧ dyI h ≤ 1 := by unfold dyI; split <;> omega

set_option maxHeartbeats 400000 in
theorem target_any (x y h i : Nat) (s : Int) (w : World) (hx : x < 16) (hy : y < 16) (hh : h < 4) (hi : i < 256) :
    Calls Tryz.prog 73 #[.agg #[.complex .f64 (fo (x : Int)) (fo (y : Int)), .complex .f64 (tre h (i % 4)) (tim h (i % 4)), .int .u16 s], .int .u8 (i : Int)] w fun e w' => e = .returned (.complex .f64 (fo (goX x h (i % 4) : Int)) (fo (goY y h (i % 4) : Int))) ∧ Below w.heap.size w w' := by
  have hand := and3_table ⟨i, hi⟩
  simp only at hand
  have hlt : i % 4 < 4 := Nat.mod_lt _ (by omega)
  generalize i % 4 = t at *
  have ha := cadd x y h t hx hy hh hlt
  have hdx := dxI_range (newHead h t)
  have hdy := dyI_range (newHead h t)
  by_cases h3 : t = 3
  · subst h3
    simp at hand
    have ex : goX x h 3 = x := rfl
    have ey : goY y h 3 = y := rfl
    rw [ex, ey]
    clear ha ex ey
    go_enter Tryz.func73, Tryz.ntmps73
    go_wp2
    go_ret
    exact ⟨rfl, (Below.refl _ _).alloc (Nat.le_refl _) _⟩
  · have hne : ((t : Int) == 3) = false := by rw [beq_eq_false_iff_ne]; omega
    have ex : ((goX x h t : Nat) : Int) = ((x : Int) + dxI (newHead h t)) % 16 := by unfold goX; rw [if_neg h3]; omega
    have ey : ((goY y h t : Nat) : Int) = ((y : Int) + dyI (newHead h t)) % 16 := by unfold goY; rw [if_neg h3]; omega
    rw [ex, ey]
    clear ex ey
    go_enter Tryz.func73, Tryz.ntmps73
    go_wp2_with fail
    refine (wrapped_any _ _ (by omega) (by omega)).mono ?_
    rintro e w1 ⟨rfl, rfl⟩
    go_wp2_with fail
    refine (wrapped_any _ _ (by omega) (by omega)).mono ?_
    rintro e w1 ⟨rfl, rfl⟩
    go_wp2
    go_ret
    exact ⟨rfl, (Below.refl _ _).alloc (Nat.le_refl _) _⟩
end Go.Proofs.YtandblanpafjoabGreatDoor
