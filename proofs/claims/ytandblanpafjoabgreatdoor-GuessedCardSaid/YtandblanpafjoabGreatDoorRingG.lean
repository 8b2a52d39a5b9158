import Derived.Test.YtandblanpafjoabGreatDoorRingW
import Derived.Test.YtandblanpafjoabGreatDoorTail
namespace Go.Proofs.YtandblanpafjoabGreatDoor
open Go.RowKit Go.Extern.Stop Go.Stop Go.Extern

set_option maxRecDepth 10000 in
set_option maxHeartbeats 1000000 in
theorem rat_pg (g W f b : Nat) (w : World) (hW : 0 < W) (hr : w.cell? ⟨g, f % W, none⟩ = some (.map (some b))) :
    Calls Tryz.prog 184 #[.agg #[.slice (some ⟨g, 0, none⟩) W W], .int .i64 (f : Int)] w fun e w' => e = .returned (.map (some b)) ∧ Below w.heap.size w w' := by
  obtain ⟨m, hm⟩ : ∃ m, f % W = m := ⟨_, rfl⟩
  rw [hm] at hr
  have hmW : m < W := by rw [← hm]; exact Nat.mod_lt f hW
  have hmod : (f : Int) % (W : Int) = (m : Int) := by rw [← hm, Int.natCast_emod]
  have hmod2 : (f : Int).tmod (W : Int) = (m : Int) := by rw [Int.tmod_eq_emod_of_nonneg (by omega), hmod]
  have hlg : g < w.heap.size := World.block_lt_of_cell? w _ hr
  have hcell : (w.alloc (.cells #[.slice (some ⟨g, 0, none⟩) W W] 245)).cell? ⟨w.heap.size, 0, none⟩ = some (.slice (some ⟨g, 0, none⟩) W W) := by simp
  have hbel : Below w.heap.size w (w.alloc (.cells #[.slice (some ⟨g, 0, none⟩) W W] 245)) := (Below.refl _ _).alloc (Nat.le_refl _) _
  obtain ⟨W1, hW1⟩ : ∃ W1, w.alloc (.cells #[.slice (some ⟨g, 0, none⟩) W W] 245) = W1 := ⟨_, rfl⟩
  rw [hW1] at hcell hbel
  have d0 := (hbel.cell (p := ⟨g, m, none⟩) hlg).trans hr
  have hW0 : ¬ W = 0 := by omega
  have hW2 : ¬ (W : Int) = 0 := by omega
  have hm0 : (0 : Int) ≤ (m : Int) := by omega
  have hm1 : (m : Int) < (W : Int) := by omega
  go_enter Tryz.func184, Tryz.ntmps184
  go_wp2_with fail
  try rw [hW1]
  go_still (by kernel_rfl)
  go_wp2
  go_ret
  exact ⟨rfl, hbel.drew⟩

set_option maxRecDepth 10000 in
set_option maxHeartbeats 1000000 in
theorem rput_pg (g W f b : Nat) (old : Value) (w : World) (hW : 0 < W) (hr : w.cell? ⟨g, f % W, none⟩ = some old) (hfr : w.frozen? ⟨g, f % W, none⟩ = false) :
    Calls Tryz.prog 125 #[.agg #[.slice (some ⟨g, 0, none⟩) W W], .int .i64 (f : Int), .map (some b)] w fun e w' => e = .returned (.tuple #[]) ∧ ∃ W1, Below w.heap.size w W1 ∧ w' = W1.setCell ⟨g, f % W, none⟩ (.map (some b)) := by
  obtain ⟨m, hm⟩ : ∃ m, f % W = m := ⟨_, rfl⟩
  rw [hm] at hr hfr ⊢
  have hmW : m < W := by rw [← hm]; exact Nat.mod_lt f hW
  have hmod : (f : Int) % (W : Int) = (m : Int) := by rw [← hm, Int.natCast_emod]
  have hmod2 : (f : Int).tmod (W : Int) = (m : Int) := by rw [Int.tmod_eq_emod_of_nonneg (by omega), hmod]
  have hlg : g < w.heap.size := World.block_lt_of_cell? w _ hr
  have hcell : (w.alloc (.cells #[.slice (some ⟨g, 0, none⟩) W W] 245)).cell? ⟨w.heap.size, 0, none⟩ = some (.slice (some ⟨g, 0, none⟩) W W) := by simp
  have hbel : Below w.heap.size w (w.alloc (.cells #[.slice (some ⟨g, 0, none⟩) W W] 245)) := (Below.refl _ _).alloc (Nat.le_refl _) _
  obtain ⟨W1, hW1⟩ : ∃ W1, w.alloc (.cells #[.slice (some ⟨g, 0, none⟩) W W] 245) = W1 := ⟨_, rfl⟩
  rw [hW1] at hcell hbel
  have d0 := (hbel.cell (p := ⟨g, m, none⟩) hlg).trans hr
  have d1 := (hbel.frozen (p := ⟨g, m, none⟩) hlg).trans hfr
  have hW0 : ¬ W = 0 := by omega
  have hW2 : ¬ (W : Int) = 0 := by omega
  have hm0 : (0 : Int) ≤ (m : Int) := by omega
  have hm1 : (m : Int) < (W : Int) := by omega
  go_enter Tryz.func125, Tryz.ntmps125
  go_wp2_with fail
  try rw [hW1]
  refine wp_moves_reads_tail0 9 (by kernel_rfl) (by kernel_rfl) (by kernel_rfl) (by kernel_rfl) ?_
  simp only [List.take_succ_cons, List.take_zero, List.drop_succ_cons, List.drop_zero]
  repeat still_step
  refine wpStill_nil ?_
  go_wp2
  go_end0
  exact ⟨rfl, W1.drew, hbel.drew, rfl⟩
end Go.Proofs.YtandblanpafjoabGreatDoor
