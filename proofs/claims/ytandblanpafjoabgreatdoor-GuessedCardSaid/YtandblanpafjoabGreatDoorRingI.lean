import Derived.Test.YtandblanpafjoabGreatDoorRingW
namespace Go.Proofs.YtandblanpafjoabGreatDoor
open Go.RowKit Go.Extern.Stop Go.Stop Go.Extern

theorem range4 {w : World} {g o : Nat} {a b c d : Int} (h : w.rangeAt g o ([a, b, c, d].map (Value.int .u8))) : w.cell? ⟨g, o, none⟩ = some (.int .u8 a) ∧ w.cell? ⟨g, o + 1, none⟩ = some (.int .u8 b) ∧ w.cell? ⟨g, o + 2, none⟩ = some (.int .u8 c) ∧ w.cell? ⟨g, o + 3, none⟩ = some (.int .u8 d) :=
  ⟨h 0 _ rfl, h 1 _ rfl, h 2 _ rfl, h 3 _ rfl⟩
set_option maxRecDepth 10000 in
set_option maxHeartbeats 1000000 in
theorem rat_in (g W f : Nat) (a b c d : Int) (w : World) (hW : 0 < W) (hr : w.rangeAt g (f % W * 4) ([a, b, c, d].map (Value.int .u8))) :
    Calls Tryz.prog 177 #[.agg #[.slice (some ⟨g, 0, none⟩) W W], .int .i64 (f : Int)] w fun e w' => e = .returned (.agg (nums .u8 [a, b, c, d])) ∧ Below w.heap.size w w' := by
  have hz := Tryz.zeroIn
  obtain ⟨m, hm⟩ : ∃ m, f % W = m := ⟨_, rfl⟩
  rw [hm] at hr
  have hmW : m < W := by rw [← hm]; exact Nat.mod_lt f hW
  have hmod : (f : Int) % (W : Int) = (m : Int) := by rw [← hm, Int.natCast_emod]
  have hmod2 : (f : Int).tmod (W : Int) = (m : Int) := by rw [Int.tmod_eq_emod_of_nonneg (by omega), hmod]
  obtain ⟨c0, c1, c2, c3⟩ := range4 hr
  have hlg : g < w.heap.size := World.block_lt_of_cell? w _ c0
  clear hr
  go_enter Tryz.func177, Tryz.ntmps177
  go_wp2_with fail
  have hcell : ((w.alloc (.cells #[.slice (some ⟨g, 0, none⟩) W W] 225)).alloc (.cells (nums .u8 Z4u) 187)).cell? ⟨w.heap.size, 0, none⟩ = some (.slice (some ⟨g, 0, none⟩) W W) := by simp
  have hblk := Blk.new (w.alloc (.cells #[.slice (some ⟨g, 0, none⟩) W W] 225)) (nums .u8 Z4u) 187
  have hbel : Below w.heap.size w ((w.alloc (.cells #[.slice (some ⟨g, 0, none⟩) W W] 225)).alloc (.cells (nums .u8 Z4u) 187)) := ((Below.refl _ _).alloc (Nat.le_refl _) _).alloc (by simp) _
  simp only [World.size_alloc] at hblk
  generalize (w.alloc (.cells #[.slice (some ⟨g, 0, none⟩) W W] 225)).alloc (.cells (nums .u8 Z4u) 187) = W1 at *
  have d0 := (hbel.cell (p := ⟨g, m * 4, none⟩) hlg).trans c0
  have d1 := (hbel.cell (p := ⟨g, m * 4 + 1, none⟩) hlg).trans c1
  have d2 := (hbel.cell (p := ⟨g, m * 4 + 2, none⟩) hlg).trans c2
  have d3 := (hbel.cell (p := ⟨g, m * 4 + 3, none⟩) hlg).trans c3
  have r0 : W1.cell? ⟨w.heap.size + 1, 0, none⟩ = some (.int .u8 0) := hblk.cell 0
  have r1 : W1.cell? ⟨w.heap.size + 1, 1, none⟩ = some (.int .u8 0) := hblk.cell 1
  have r2 : W1.cell? ⟨w.heap.size + 1, 2, none⟩ = some (.int .u8 0) := hblk.cell 2
  have r3 : W1.cell? ⟨w.heap.size + 1, 3, none⟩ = some (.int .u8 0) := hblk.cell 3
  have f0 := hblk.frozen 0
  have f1 := hblk.frozen 1
  have f2 := hblk.frozen 2
  have f3 := hblk.frozen 3
  have hg0 : ¬ g = w.heap.size := by omega
  have hg1 : ¬ g = w.heap.size + 1 := by omega
  have hg2 : ¬ w.heap.size + 1 = g := by omega
  have hg3 : ¬ w.heap.size = g := by omega
  have hW0 : ¬ W = 0 := by omega
  have hW1 : ¬ (W : Int) = 0 := by omega
  have hm0 : (0 : Int) ≤ (m : Int) := by omega
  have hm1 : (m : Int) < (W : Int) := by omega
  go_region_held3 (fun W' => W'.cell? ⟨w.heap.size, 0, none⟩ = some (.slice (some ⟨g, 0, none⟩) W W) ∧ W'.cell? ⟨g, m * 4, none⟩ = some (.int .u8 a) ∧ W'.cell? ⟨g, m * 4 + 1, none⟩ = some (.int .u8 b) ∧ W'.cell? ⟨g, m * 4 + 2, none⟩ = some (.int .u8 c) ∧ W'.cell? ⟨g, m * 4 + 3, none⟩ = some (.int .u8 d)) (go_keep) (fail)
  go_wp2
  have hb4 := (((hblk.set 0 (.int .u8 a)).set 1 (.int .u8 b)).set 2 (.int .u8 c)).set 3 (.int .u8 d)
  have e4 : (((((nums .u8 Z4u).setIfInBounds 0 (.int .u8 a)).setIfInBounds 1 (.int .u8 b)).setIfInBounds 2 (.int .u8 c)).setIfInBounds 3 (.int .u8 d)) = nums .u8 [a, b, c, d] := rfl
  rw [e4] at hb4
  refine bodyPost_ret (v := .agg (nums .u8 [a, b, c, d])) ?_ rfl ⟨rfl, ?_⟩
  · exact results_cell_row Tryz.results177 _ _ (w.heap.size + 1) 187 _ (0, 0) _ rfl hb4.drew Tryz.underlying187 rfl (Tryz.sizeIn _ rfl)
  · exact ((((hbel.setCell (p := ⟨w.heap.size + 1, 0, none⟩) (by simp) _).setCell (p := ⟨w.heap.size + 1, 1, none⟩) (by simp) _).setCell (p := ⟨w.heap.size + 1, 2, none⟩) (by simp) _).setCell (p := ⟨w.heap.size + 1, 3, none⟩) (by simp) _).drew

set_option maxRecDepth 10000 in
set_option maxHeartbeats 1000000 in
theorem rput_in (g W f : Nat) (a b c d : Int) (w : World) (hW : 0 < W) (hth : w.there g (f % W * 4) 4) (hlg : g < w.heap.size) :
    Calls Tryz.prog 178 #[.agg #[.slice (some ⟨g, 0, none⟩) W W], .int .i64 (f : Int), .agg (nums .u8 [a, b, c, d])] w fun e w' => e = .returned (.tuple #[]) ∧ ∃ W1, Below w.heap.size w W1 ∧ w' = W1.setCells g (f % W * 4) ([a, b, c, d].map (Value.int .u8)) := by
  obtain ⟨m, hm⟩ : ∃ m, f % W = m := ⟨_, rfl⟩
  rw [hm] at hth ⊢
  have hmW : m < W := by rw [← hm]; exact Nat.mod_lt f hW
  have hmod : (f : Int) % (W : Int) = (m : Int) := by rw [← hm, Int.natCast_emod]
  have hmod2 : (f : Int).tmod (W : Int) = (m : Int) := by rw [Int.tmod_eq_emod_of_nonneg (by omega), hmod]
  go_enter Tryz.func178, Tryz.ntmps178
  go_wp2_with fail
  have hcell : ((w.alloc (.cells #[.slice (some ⟨g, 0, none⟩) W W] 225)).alloc (.cells (nums .u8 [a, b, c, d]) 187)).cell? ⟨w.heap.size, 0, none⟩ = some (.slice (some ⟨g, 0, none⟩) W W) := by simp
  have hth1 := World.there_alloc (World.there_alloc hth (.cells #[.slice (some ⟨g, 0, none⟩) W W] 225)) (.cells (nums .u8 [a, b, c, d]) 187)
  have hblk := Blk.new (w.alloc (.cells #[.slice (some ⟨g, 0, none⟩) W W] 225)) (nums .u8 [a, b, c, d]) 187
  have hbel : Below w.heap.size w ((w.alloc (.cells #[.slice (some ⟨g, 0, none⟩) W W] 225)).alloc (.cells (nums .u8 [a, b, c, d]) 187)) := ((Below.refl _ _).alloc (Nat.le_refl _) _).alloc (by simp) _
  simp only [World.size_alloc] at hblk
  generalize (w.alloc (.cells #[.slice (some ⟨g, 0, none⟩) W W] 225)).alloc (.cells (nums .u8 [a, b, c, d]) 187) = W1 at *
  have r0 : W1.cell? ⟨w.heap.size + 1, 0, none⟩ = some (.int .u8 a) := hblk.cell 0
  have r1 : W1.cell? ⟨w.heap.size + 1, 1, none⟩ = some (.int .u8 b) := hblk.cell 1
  have r2 : W1.cell? ⟨w.heap.size + 1, 2, none⟩ = some (.int .u8 c) := hblk.cell 2
  have r3 : W1.cell? ⟨w.heap.size + 1, 3, none⟩ = some (.int .u8 d) := hblk.cell 3
  obtain ⟨x0, d0⟩ := Option.isSome_iff_exists.1 (hth1 0 (by omega)).1
  obtain ⟨x1, d1⟩ := Option.isSome_iff_exists.1 (hth1 1 (by omega)).1
  obtain ⟨x2, d2⟩ := Option.isSome_iff_exists.1 (hth1 2 (by omega)).1
  obtain ⟨x3, d3⟩ := Option.isSome_iff_exists.1 (hth1 3 (by omega)).1
  have f0 := (hth1 0 (by omega)).2
  have f1 := (hth1 1 (by omega)).2
  have f2 := (hth1 2 (by omega)).2
  have f3 := (hth1 3 (by omega)).2
  rw [Nat.add_zero] at d0 f0
  clear hth hth1
  have hg0 : ¬ g = w.heap.size := by omega
  have hg1 : ¬ g = w.heap.size + 1 := by omega
  have hg2 : ¬ w.heap.size + 1 = g := by omega
  have hg3 : ¬ w.heap.size = g := by omega
  have hW0 : ¬ W = 0 := by omega
  have hW1 : ¬ (W : Int) = 0 := by omega
  have hm0 : (0 : Int) ≤ (m : Int) := by omega
  have hm1 : (m : Int) < (W : Int) := by omega
  go_region_held3 (fun W' => W'.cell? ⟨w.heap.size, 0, none⟩ = some (.slice (some ⟨g, 0, none⟩) W W) ∧ W'.cell? ⟨w.heap.size + 1, 0, none⟩ = some (.int .u8 a) ∧ W'.cell? ⟨w.heap.size + 1, 1, none⟩ = some (.int .u8 b) ∧ W'.cell? ⟨w.heap.size + 1, 2, none⟩ = some (.int .u8 c) ∧ W'.cell? ⟨w.heap.size + 1, 3, none⟩ = some (.int .u8 d)) (go_keep) (fail)
  go_wp2
  go_end0
  exact ⟨rfl, W1.drew, hbel.drew, rfl⟩
end Go.Proofs.YtandblanpafjoabGreatDoor
