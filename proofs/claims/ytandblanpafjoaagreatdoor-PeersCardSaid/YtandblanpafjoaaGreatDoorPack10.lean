import Derived.Test.YtandblanpafjoaaGreatDoorPack01
import Derived.Test.YtandblanpafjoaaGreatDoorPack09
import Derived.Deep.RegionHeld3
import Derived.Deep.MidRow
import Derived.Test.YtandblanpafjoaaGreatDoorChecked
import Derived.Laws.ComplexArith
import Derived.Laws.Cover2
import Derived.Lib.EndianBits
import Derived.Laws.BitsAllLaws
namespace Go.Proofs.YtandblanpafjoaaGreatDoor
open Go.RowKit Go.Extern.Stop Go.Stop Go.Extern
theorem keep_at {W' : World} {b r g o p n : Nat} {v : Value} {cs x : List Value} (h : W'.cell? ⟨b, 0, none⟩ = some v ∧ W'.rangeAt g o cs ∧ W'.there r p n) (hb : b ≠ r) (hg : g ≠ r) :
    (W'.setCells r p x).cell? ⟨b, 0, none⟩ = some v ∧ (W'.setCells r p x).rangeAt g o cs ∧ (W'.setCells r p x).there r p n :=
  ⟨by rw [World.cell?_setCells_out r x p W' _ (fun e => absurd e hb)]; exact h.1, World.rangeAt_setCells_apart h.2.1 r p x (.inl hg), World.there_setCells h.2.2 r p x⟩
theorem Blk.whole {w : World} {g : Nat} {k : IntKind} {l : List Int} {t : TypeId} (h : Blk w g (nums k l) t) (l' : List Int) (hl : l'.length = l.length) : Blk (w.setCells g 0 (l'.map (Value.int k))) g (nums k l') t := by
  have := Blk.mid (a := []) (b := l.map (Value.int k)) (c := []) (by simpa [nums] using h) (l'.map (Value.int k)) (by simp [hl])
  simpa [nums] using this
theorem below_setCells {B : Nat} {w w' : World} (h : Below B w w') (g o : Nat) (vs : List Value) (hB : B ≤ g) : Below B w (w'.setCells g o vs) :=
  ⟨(grown_setCells g vs o w').os.trans h.os, (grown_setCells g vs o w').tape.trans h.tape, (grown_setCells g vs o w').output.trans h.output, Nat.le_trans h.size (grown_setCells g vs o w').size,
   fun k hk => (heap_setCells_other (by omega) vs o w').trans (h.block k hk)⟩
def Z4u : List Int := List.replicate 4 0
theorem Tryz.infoIn : (Tryz.prog.info? 199).map (fun i => (i.zero, i.size)) = some (some (.agg (nums .u8 Z4u)), 4) := by kernel_rfl
theorem Tryz.zeroIn (w : World) : (zeroValue 199).run Tryz.prog w = .ok (.agg (nums .u8 Z4u)) w := (zero_of_info Tryz.infoIn).1 w
theorem Tryz.sizeIn (l : List Int) (hl : l.length = 4) : (Tryz.prog.info? 199).map (·.size) = some (nums .u8 l).size := by
  rw [nums_size, hl]; exact (zero_of_info Tryz.infoIn).2
set_option maxRecDepth 10000 in
set_option maxHeartbeats 1000000 in
theorem rat_mem (g W f : Nat) (cs : List Int) (w : World) (hW : 0 < W) (hl : cs.length = 288) (hr : w.rangeAt g (f % W * 288) (cs.map (Value.int .u8))) :
    Calls Tryz.prog 212 #[.agg #[.slice (some ⟨g, 0, none⟩) W W], .int .i64 (f : Int)] w fun e w' => e = .returned (.agg (nums .u8 cs)) ∧ Below w.heap.size w w' := by
  have hz := Tryz.zeroMem
  obtain ⟨m, hm⟩ : ∃ m, f % W = m := ⟨_, rfl⟩
  rw [hm] at hr
  have hmW : m < W := by rw [← hm]; exact Nat.mod_lt f hW
  have hmod : (f : Int) % (W : Int) = (m : Int) := by rw [← hm, Int.natCast_emod]
  have hmod2 : (f : Int).tmod (W : Int) = (m : Int) := by rw [Int.tmod_eq_emod_of_nonneg (by omega), hmod]
  go_enter Tryz.func212, Tryz.ntmps212
  go_wp2_with fail
  have hlg : g < w.heap.size := World.block_lt_of_cell? w _ (hr 0 _ (by rw [List.getElem?_map, List.getElem?_eq_getElem (by omega)]; rfl))
  have hcell : ((w.alloc (.cells #[.slice (some ⟨g, 0, none⟩) W W] 265)).alloc (.cells (nums .u8 Z288) 209)).cell? ⟨w.heap.size, 0, none⟩ = some (.slice (some ⟨g, 0, none⟩) W W) := by simp
  have hrange := World.rangeAt_alloc (World.rangeAt_alloc hr (.cells #[.slice (some ⟨g, 0, none⟩) W W] 265)) (.cells (nums .u8 Z288) 209)
  have hblk := Blk.new (w.alloc (.cells #[.slice (some ⟨g, 0, none⟩) W W] 265)) (nums .u8 Z288) 209
  have hbel : Below w.heap.size w ((w.alloc (.cells #[.slice (some ⟨g, 0, none⟩) W W] 265)).alloc (.cells (nums .u8 Z288) 209)) := ((Below.refl _ _).alloc (Nat.le_refl _) _).alloc (by simp) _
  simp only [World.size_alloc] at hblk
  generalize (w.alloc (.cells #[.slice (some ⟨g, 0, none⟩) W W] 265)).alloc (.cells (nums .u8 Z288) 209) = W1 at *
  have hth : W1.there (w.heap.size + 1) 0 288 := hblk.there (by simp [nums_size, Z288])
  have hW0 : ¬ W = 0 := by omega
  have hW1 : ¬ (W : Int) = 0 := by omega
  have hm0 : (0 : Int) ≤ (m : Int) := by omega
  have hm1 : (m : Int) < (W : Int) := by omega
  have hu := Tryz.underlying209
  have hsz : (Tryz.prog.info? 209).map (·.size) = some (cs.map (Value.int .u8)).length := by rw [List.length_map, hl]; exact (zero_of_info Tryz.infoMem).2
  have hl' : (cs.map (Value.int .u8)).length = 288 := by rw [List.length_map, hl]
  have hone := nums_ones .u8 cs
  go_region_held3 (fun W' => W'.cell? ⟨w.heap.size, 0, none⟩ = some (.slice (some ⟨g, 0, none⟩) W W) ∧ W'.rangeAt g (m * 288) (cs.map (Value.int .u8)) ∧ W'.there (w.heap.size + 1) 0 288) (first | go_keep | exact keep_at (by assumption) (by omega) (by omega)) (fail)
  go_wp2
  refine bodyPost_ret (v := .agg (nums .u8 cs)) ?_ rfl ⟨rfl, ?_⟩
  · exact results_cell_row Tryz.results212 _ _ (w.heap.size + 1) 209 _ (0, 0) _ rfl (hblk.drew.whole cs (by rw [hl]; simp [Z288])) Tryz.underlying209 rfl (Tryz.sizeMem _ hl)
  · exact below_setCells hbel.drew _ _ _ (by omega)
set_option maxRecDepth 10000 in
set_option maxHeartbeats 1000000 in
theorem rput_mem (g W f : Nat) (cs : List Int) (w : World) (hW : 0 < W) (hl : cs.length = 288) (hth : w.there g (f % W * 288) 288) (hlg : g < w.heap.size) :
    Calls Tryz.prog 211 #[.agg #[.slice (some ⟨g, 0, none⟩) W W], .int .i64 (f : Int), .agg (nums .u8 cs)] w fun e w' => e = .returned (.tuple #[]) ∧ ∃ W1, Below w.heap.size w W1 ∧ w' = W1.setCells g (f % W * 288) (cs.map (Value.int .u8)) := by
  obtain ⟨m, hm⟩ : ∃ m, f % W = m := ⟨_, rfl⟩
  rw [hm] at hth ⊢
  have hmW : m < W := by rw [← hm]; exact Nat.mod_lt f hW
  have hmod : (f : Int) % (W : Int) = (m : Int) := by rw [← hm, Int.natCast_emod]
  have hmod2 : (f : Int).tmod (W : Int) = (m : Int) := by rw [Int.tmod_eq_emod_of_nonneg (by omega), hmod]
  have hz0 : (zeroValue 209).run Tryz.prog w = .ok (.agg (nums .u8 Z288)) w := Tryz.zeroMem w
  clear hz0
  go_enter Tryz.func211, Tryz.ntmps211
  go_wp2_with fail
  have hcell : ((w.alloc (.cells #[.slice (some ⟨g, 0, none⟩) W W] 265)).alloc (.cells (nums .u8 cs) 209)).cell? ⟨w.heap.size, 0, none⟩ = some (.slice (some ⟨g, 0, none⟩) W W) := by simp
  have hth1 := World.there_alloc (World.there_alloc hth (.cells #[.slice (some ⟨g, 0, none⟩) W W] 265)) (.cells (nums .u8 cs) 209)
  have hblk := Blk.new (w.alloc (.cells #[.slice (some ⟨g, 0, none⟩) W W] 265)) (nums .u8 cs) 209
  have hbel : Below w.heap.size w ((w.alloc (.cells #[.slice (some ⟨g, 0, none⟩) W W] 265)).alloc (.cells (nums .u8 cs) 209)) := ((Below.refl _ _).alloc (Nat.le_refl _) _).alloc (by simp) _
  simp only [World.size_alloc] at hblk
  generalize (w.alloc (.cells #[.slice (some ⟨g, 0, none⟩) W W] 265)).alloc (.cells (nums .u8 cs) 209) = W1 at *
  have hrange : W1.rangeAt (w.heap.size + 1) 0 (cs.map (Value.int .u8)) := Blk.rangeAt (a := []) (b := cs.map (Value.int .u8)) (c := []) (by simpa [nums] using hblk)
  have hW0 : ¬ W = 0 := by omega
  have hW1 : ¬ (W : Int) = 0 := by omega
  have hm0 : (0 : Int) ≤ (m : Int) := by omega
  have hm1 : (m : Int) < (W : Int) := by omega
  have hu := Tryz.underlying209
  have hsz : (Tryz.prog.info? 209).map (·.size) = some (cs.map (Value.int .u8)).length := by rw [List.length_map, hl]; exact (zero_of_info Tryz.infoMem).2
  have hl' : (cs.map (Value.int .u8)).length = 288 := by rw [List.length_map, hl]
  have hone := nums_ones .u8 cs
  go_region_held3 (fun W' => W'.cell? ⟨w.heap.size, 0, none⟩ = some (.slice (some ⟨g, 0, none⟩) W W) ∧ W'.rangeAt (w.heap.size + 1) 0 (cs.map (Value.int .u8)) ∧ W'.there g (m * 288) 288) (first | go_keep | exact keep_at (by assumption) (by omega) (by omega)) (fail)
  go_wp2
  go_end0
  exact ⟨rfl, W1.drew, hbel.drew, rfl⟩
end Go.Proofs.YtandblanpafjoaaGreatDoor

namespace Go.Proofs.YtandblanpafjoaaGreatDoor
open Go.RowKit Go.Extern.Stop Go.Stop Go.Extern
theorem range4 {w : World} {g o : Nat} {a b c d : Int} (h : w.rangeAt g o ([a, b, c, d].map (Value.int .u8))) : w.cell? ⟨g, o, none⟩ = some (.int .u8 a) ∧ w.cell? ⟨g, o + 1, none⟩ = some (.int .u8 b) ∧ w.cell? ⟨g, o + 2, none⟩ = some (.int .u8 c) ∧ w.cell? ⟨g, o + 3, none⟩ = some (.int .u8 d) :=
  ⟨h 0 _ rfl, h 1 _ rfl, h 2 _ rfl, h 3 _ rfl⟩
set_option maxRecDepth 10000 in
set_option maxHeartbeats 1000000 in
theorem rat_in (g W f : Nat) (a b c d : Int) (w : World) (hW : 0 < W) (hr : w.rangeAt g (f % W * 4) ([a, b, c, d].map (Value.int .u8))) :
    Calls Tryz.prog 191 #[.agg #[.slice (some ⟨g, 0, none⟩) W W], .int .i64 (f : Int)] w fun e w' => e = .returned (.agg (nums .u8 [a, b, c, d])) ∧ Below w.heap.size w w' := by
  have hz := Tryz.zeroIn
  obtain ⟨m, hm⟩ : ∃ m, f % W = m := ⟨_, rfl⟩
  rw [hm] at hr
  have hmW : m < W := by rw [← hm]; exact Nat.mod_lt f hW
  have hmod : (f : Int) % (W : Int) = (m : Int) := by rw [← hm, Int.natCast_emod]
  have hmod2 : (f : Int).tmod (W : Int) = (m : Int) := by rw [Int.tmod_eq_emod_of_nonneg (by omega), hmod]
  obtain ⟨c0, c1, c2, c3⟩ := range4 hr
  have hlg : g < w.heap.size := World.block_lt_of_cell? w _ c0
  clear hr
  go_enter Tryz.func191, Tryz.ntmps191
  go_wp2_with fail
  have hcell : ((w.alloc (.cells #[.slice (some ⟨g, 0, none⟩) W W] 221)).alloc (.cells (nums .u8 Z4u) 199)).cell? ⟨w.heap.size, 0, none⟩ = some (.slice (some ⟨g, 0, none⟩) W W) := by simp
  have hblk := Blk.new (w.alloc (.cells #[.slice (some ⟨g, 0, none⟩) W W] 221)) (nums .u8 Z4u) 199
  have hbel : Below w.heap.size w ((w.alloc (.cells #[.slice (some ⟨g, 0, none⟩) W W] 221)).alloc (.cells (nums .u8 Z4u) 199)) := ((Below.refl _ _).alloc (Nat.le_refl _) _).alloc (by simp) _
  simp only [World.size_alloc] at hblk
  generalize (w.alloc (.cells #[.slice (some ⟨g, 0, none⟩) W W] 221)).alloc (.cells (nums .u8 Z4u) 199) = W1 at *
  have d0 := (hbel.cell (p := ⟨g, m * 4, none⟩) hlg).trans c0
  have d1 := (hbel.cell (p := ⟨g, m * 4 + 1, none⟩) hlg).trans c1
  have d2 := (hbel.cell (p := ⟨g, m * 4 + 2, none⟩) hlg).trans c2
  have d3 := (hbel.cell (p := ⟨g, m * 4 + 3, none⟩) hlg).trans c3
  have r0 : W1.cell? ⟨w.heap.size + 1, 0, none⟩ = some (.int .u8 0) := hblk.cell 0
  have r1 : W1.cell? ⟨w.heap.size + 1, 1, none⟩ = some (.int .u8 0) := hblk.cell 1
  have r2 : W1.cell? ⟨w.heap.size + 1, 2, none⟩ = some (.int .u8 0) := hblk.cell 2
  have r3 : W1.cell? ⟨w.heap.size + 1, 3, none⟩ = some (.int .u8 0) := hblk.cell 3
  have f0 := hblk.frozen 0
  have f1 := hblk.frozen 1
  have f2 := hblk.frozen 2
  have f3 := hblk.frozen 3
  have hg0 : ¬ g = w.heap.size := by omega
  have hg1 : ¬ g = w.heap.size + 1 := by omega
  have hg2 : ¬ w.heap.size + 1 = g := by omega
  have hg3 : ¬ w.heap.size = g := by omega
  have hW0 : ¬ W = 0 := by omega
  have hW1 : ¬ (W : Int) = 0 := by omega
  have hm0 : (0 : Int) ≤ (m : Int) := by omega
  have hm1 : (m : Int) < (W : Int) := by omega
  go_region_held3 (fun W' => W'.cell? ⟨w.heap.size, 0, none⟩ = some (.slice (some ⟨g, 0, none⟩) W W) ∧ W'.cell? ⟨g, m * 4, none⟩ = some (.int .u8 a) ∧ W'.cell? ⟨g, m * 4 + 1, none⟩ = some (.int .u8 b) ∧ W'.cell? ⟨g, m * 4 + 2, none⟩ = some (.int .u8 c) ∧ W'.cell? ⟨g, m * 4 + 3, none⟩ = some (.int .u8 d)) (go_keep) (fail)
  go_wp2
  have hb4 := (((hblk.set 0 (.int .u8 a)).set 1 (.int .u8 b)).set 2 (.int .u8 c)).set 3 (.int .u8 d)
  have e4 : (((((nums .u8 Z4u).setIfInBounds 0 (.int .u8 a)).setIfInBounds 1 (.int .u8 b)).setIfInBounds 2 (.int .u8 c)).setIfInBounds 3 (.int .u8 d)) = nums .u8 [a, b, c, d] := rfl
  rw [e4] at hb4
  refine bodyPost_ret (v := .agg (nums .u8 [a, b, c, d])) ?_ rfl ⟨rfl, ?_⟩
  · exact results_cell_row Tryz.results191 _ _ (w.heap.size + 1) 199 _ (0, 0) _ rfl hb4.drew Tryz.underlying199 rfl (Tryz.sizeIn _ rfl)
  · exact ((((hbel.setCell (p := ⟨w.heap.size + 1, 0, none⟩) (by simp) _).setCell (p := ⟨w.heap.size + 1, 1, none⟩) (by simp) _).setCell (p := ⟨w.heap.size + 1, 2, none⟩) (by simp) _).setCell (p := ⟨w.heap.size + 1, 3, none⟩) (by simp) _).drew
set_option maxRecDepth 10000 in
set_option maxHeartbeats 1000000 in
theorem rput_in (g W f : Nat) (a b c d : Int) (w : World) (hW : 0 < W) (hth : w.there g (f % W * 4) 4) (hlg : g < w.heap.size) :
    Calls Tryz.prog 192 #[.agg #[.slice (some ⟨g, 0, none⟩) W W], .int .i64 (f : Int), .agg (nums .u8 [a, b, c, d])] w fun e w' => e = .returned (.tuple #[]) ∧ ∃ W1, Below w.heap.size w W1 ∧ w' = W1.setCells g (f % W * 4) ([a, b, c, d].map (Value.int .u8)) := by
  obtain ⟨m, hm⟩ : ∃ m, f % W = m := ⟨_, rfl⟩
  rw [hm] at hth ⊢
  have hmW : m < W := by rw [← hm]; exact Nat.mod_lt f hW
  have hmod : (f : Int) % (W : Int) = (m : Int) := by rw [← hm, Int.natCast_emod]
  have hmod2 : (f : Int).tmod (W : Int) = (m : Int) := by rw [Int.tmod_eq_emod_of_nonneg (by omega), hmod]
  go_enter Tryz.func192, Tryz.ntmps192
  go_wp2_with fail
  have hcell : ((w.alloc (.cells #[.slice (some ⟨g, 0, none⟩) W W] 221)).alloc (.cells (nums .u8 [a, b, c, d]) 199)).cell? ⟨w.heap.size, 0, none⟩ = some (.slice (some ⟨g, 0, none⟩) W W) := by simp
  have hth1 := World.there_alloc (World.there_alloc hth (.cells #[.slice (some ⟨g, 0, none⟩) W W] 221)) (.cells (nums .u8 [a, b, c, d]) 199)
  have hblk := Blk.new (w.alloc (.cells #[.slice (some ⟨g, 0, none⟩) W W] 221)) (nums .u8 [a, b, c, d]) 199
  have hbel : Below w.heap.size w ((w.alloc (.cells #[.slice (some ⟨g, 0, none⟩) W W] 221)).alloc (.cells (nums .u8 [a, b, c, d]) 199)) := ((Below.refl _ _).alloc (Nat.le_refl _) _).alloc (by simp) _
  simp only [World.size_alloc] at hblk
  generalize (w.alloc (.cells #[.slice (some ⟨g, 0, none⟩) W W] 221)).alloc (.cells (nums .u8 [a, b, c, d]) 199) = W1 at *
  have r0 : W1.cell? ⟨w.heap.size + 1, 0, none⟩ = some (.int .u8 a) := hblk.cell 0
  have r1 : W1.cell? ⟨w.heap.size + 1, 1, none⟩ = some (.int .u8 b) := hblk.cell 1
  have r2 : W1.cell? ⟨w.heap.size + 1, 2, none⟩ = some (.int .u8 c) := hblk.cell 2
  have r3 : W1.cell? ⟨w.heap.size + 1, 3, none⟩ = some (.int .u8 d) := hblk.cell 3
  obtain ⟨x0, d0⟩ := Option.isSome_iff_exists.1 (hth1 0 (by omega)).1
  obtain ⟨x1, d1⟩ := Option.isSome_iff_exists.1 (hth1 1 (by omega)).1
  obtain ⟨x2, d2⟩ := Option.isSome_iff_exists.1 (hth1 2 (by omega)).1
  obtain ⟨x3, d3⟩ := Option.isSome_iff_exists.1 (hth1 3 (by omega)).1
  have f0 := (hth1 0 (by omega)).2
  have f1 := (hth1 1 (by omega)).2
  have f2 := (hth1 2 (by omega)).2
  have f3 := (hth1 3 (by omega)).2
  rw [Nat.add_zero] at d0 f0
  clear hth hth1
  have hg0 : ¬ g = w.heap.size := by omega
  have hg1 : ¬ g = w.heap.size + 1 := by omega
  have hg2 : ¬ w.heap.size + 1 = g := by omega
  have hg3 : ¬ w.heap.size = g := by omega
  have hW0 : ¬ W = 0 := by omega
  have hW1 : ¬ (W : Int) = 0 := by omega
  have hm0 : (0 : Int) ≤ (m : Int) := by omega
  have hm1 : (m : Int) < (W : Int) := by omega
  go_region_held3 (fun W' => W'.cell? ⟨w.heap.size, 0, none⟩ = some (.slice (some ⟨g, 0, none⟩) W W) ∧ W'.cell? ⟨w.heap.size + 1, 0, none⟩ = some (.int .u8 a) ∧ W'.cell? ⟨w.heap.size + 1, 1, none⟩ = some (.int .u8 b) ∧ W'.cell? ⟨w.heap.size + 1, 2, none⟩ = some (.int .u8 c) ∧ W'.cell? ⟨w.heap.size + 1, 3, none⟩ = some (.int .u8 d)) (go_keep) (fail)
  go_wp2
  go_end0
  exact ⟨rfl, W1.drew, hbel.drew, rfl⟩
end Go.Proofs.YtandblanpafjoaaGreatDoor

namespace Go.Proofs.YtandblanpafjoaaGreatDoor
open Go.RowKit
/-- A number as a float64's bits. -/
def fo (n : Int) : Nat := floatOfInt .f64 n
/-- A heading's parts, and those behind a turn (1: left, 2: right). -/
def hre : Nat → Nat | 0 => 4607182418800017408 | 2 => 13830554455654793216 | _ => 0
def him : Nat → Nat | 1 => 4607182418800017408 | 3 => 13830554455654793216 | _ => 0
def tre : Nat → Nat → Nat
  | 0, 1 => 0 | 1, 1 => 13830554455654793216 | 2, 1 => 9223372036854775808 | 3, 1 => 4607182418800017408
  | 0, 2 => 0 | 1, 2 => 4607182418800017408 | 2, 2 => 0 | 3, 2 => 13830554455654793216
  | h, _ => hre h
def tim : Nat → Nat → Nat
  | 0, 1 => 4607182418800017408 | 1, 1 => 0 | 2, 1 => 13830554455654793216 | 3, 1 => 0
  | 0, 2 => 13830554455654793216 | 1, 2 => 0 | 2, 2 => 4607182418800017408 | 3, 2 => 9223372036854775808
  | h, _ => him h
def newHead (h t : Nat) : Nat := if t = 1 then (h + 1) % 4 else if t = 2 then (h + 3) % 4 else h
def dxI : Nat → Int | 0 => 1 | 2 => -1 | _ => 0
def dyI : Nat → Int | 1 => 1 | 3 => -1 | _ => 0
theorem newHead_lt (h t : Nat) (hh : h < 4) : newHead h t < 4 := by unfold newHead; repeat (first | omega | split)
theorem mul_table : ∀ h : Fin 4, cMulBits (hre h) (him h) 0 4607182418800017408 = some (tre h 1, tim h 1) ∧ cMulBits (hre h) (him h) 0 13830554455654793216 = some (tre h 2, tim h 2) := by decide +kernel
theorem addx_table : ∀ (x : Fin 16) (h t : Fin 4), floatBits .add .f64 (fo (x.val : Int)) (tre h t) = some (fo ((x.val : Int) + dxI (newHead h t))) := by decide +kernel
theorem addy_table : ∀ (x : Fin 16) (h t : Fin 4), floatBits .add .f64 (fo (x.val : Int)) (tim h t) = some (fo ((x.val : Int) + dyI (newHead h t))) := by decide +kernel
theorem eq_table : ∀ x y : Fin 16, (FloatKind.f64.format.order (fo (x.val : Int)) (fo (y.val : Int)) == some .eq) = decide (x.val = y.val) := by decide +kernel
theorem num_table : ∀ (h t : Fin 4), ((FloatKind.f64.format.order (tre h t) 0 == some .eq) && (FloatKind.f64.format.order (tim h t) 4607182418800017408 == some .eq)) = decide (newHead h t = 1) ∧
    ((FloatKind.f64.format.order (tre h t) 13830554455654793216 == some .eq) && (FloatKind.f64.format.order (tim h t) 0 == some .eq)) = decide (newHead h t = 2) ∧
    ((FloatKind.f64.format.order (tre h t) 0 == some .eq) && (FloatKind.f64.format.order (tim h t) 13830554455654793216 == some .eq)) = decide (newHead h t = 3) := by decide +kernel
theorem toI_table : ∀ n : Fin 18, floatToIntVal .f64 (fo ((n.val : Int) - 1)) .i64 = some ((n.val : Int) - 1) := by decide +kernel
theorem toU8_table : ∀ n : Fin 16, floatToIntVal .f64 (fo (n.val : Int)) .u8 = some (n.val : Int) := by decide +kernel
theorem cmul_left (h : Nat) (hh : h < 4) (t : TypeId) (w : World) : (binOp .mul t (.complex .f64 (hre h) (him h)) (.complex .f64 0 4607182418800017408)).run Tryz.prog w = .ok (.complex .f64 (tre h 1) (tim h 1)) w :=
  run_complex_mul w t _ _ _ _ _ _ (mul_table ⟨h, hh⟩).1
theorem cmul_right (h : Nat) (hh : h < 4) (t : TypeId) (w : World) : (binOp .mul t (.complex .f64 (hre h) (him h)) (.complex .f64 0 13830554455654793216)).run Tryz.prog w = .ok (.complex .f64 (tre h 2) (tim h 2)) w :=
  run_complex_mul w t _ _ _ _ _ _ (mul_table ⟨h, hh⟩).2
theorem cadd (x y h t : Nat) (hx : x < 16) (hy : y < 16) (hh : h < 4) (ht : t < 4) (ty : TypeId) (w : World) :
    (binOp .add ty (.complex .f64 (fo (x : Int)) (fo (y : Int))) (.complex .f64 (tre h t) (tim h t))).run Tryz.prog w = .ok (.complex .f64 (fo ((x : Int) + dxI (newHead h t))) (fo ((y : Int) + dyI (newHead h t)))) w :=
  run_complex_sum w .add (Or.inl rfl) ty .f64 _ _ _ _ _ _ (by
    unfold cSumBits
    rw [addx_table ⟨x, hx⟩ ⟨h, hh⟩ ⟨t, ht⟩, addy_table ⟨y, hy⟩ ⟨h, hh⟩ ⟨t, ht⟩]; rfl)
theorem ceq (x y a b : Nat) (hx : x < 16) (hy : y < 16) (ha : a < 16) (hb : b < 16) (ty : TypeId) (w : World) :
    (binOp .eql ty (.complex .f64 (fo (x : Int)) (fo (y : Int))) (.complex .f64 (fo (a : Int)) (fo (b : Int)))).run Tryz.prog w = .ok (.bool (decide (x = a) && decide (y = b))) w := by
  rw [run_eql_complex, eq_table ⟨x, hx⟩ ⟨a, ha⟩, eq_table ⟨y, hy⟩ ⟨b, hb⟩]
theorem toInt (n : Int) (h0 : -1 ≤ n) (h1 : n ≤ 16) (w : World) : (convert 250 3 (.float .f64 (fo n))).run Tryz.prog w = .ok (.int .i64 n) w := by
  have := toI_table ⟨(n + 1).toNat, by omega⟩
  simp only at this
  rw [show (((n + 1).toNat : Nat) : Int) - 1 = n by omega] at this
  exact run_convert_float_int w 250 3 .f64 .i64 _ n (by rw [Tryz.underlying250]; rfl) Tryz.underlying3 this
theorem toByte (n : Nat) (h1 : n < 16) (w : World) : (convert 250 5 (.float .f64 (fo (n : Int)))).run Tryz.prog w = .ok (.int .u8 (n : Int)) w :=
  run_convert_float_int w 250 5 .f64 .u8 _ n (by rw [Tryz.underlying250]; rfl) Tryz.underlying5 (toU8_table ⟨n, h1⟩)
theorem store_complex (k : FloatKind) (x y : Nat) (a : Addr) (m : Mode) (w : World) : (store a (.complex k x y) m).run Tryz.prog w = stored Tryz.prog w a (.complex k x y) m := run_store _ w a _ m rfl
end Go.Proofs.YtandblanpafjoaaGreatDoor

namespace Go.Proofs.YtandblanpafjoaaGreatDoor
open Go.RowKit Go.Extern.Stop Go.Stop Go.Extern
set_option maxHeartbeats 400000 in
theorem headingOf_any (n : Nat) (w : World) (hn : n < 4) :
    Calls Tryz.prog 205 #[.int .u8 (n : Int)] w fun e w' => e = .returned (.complex .f64 (hre n) (him n)) ∧ w' = w := by
  match n, hn with
  | 0, _ | 1, _ | 2, _ | 3, _ =>
    go_enter Tryz.func205, Tryz.ntmps205
    go_wp2
    go_ret
    exact ⟨rfl, rfl⟩
set_option maxHeartbeats 400000 in
theorem numberOf_any (h t : Nat) (w : World) (hh : h < 4) (ht : t < 4) :
    Calls Tryz.prog 152 #[.complex .f64 (tre h t) (tim h t)] w fun e w' => e = .returned (.int .u8 (newHead h t : Int)) ∧ w' = w := by
  obtain ⟨e1, e2, e3⟩ := num_table ⟨h, hh⟩ ⟨t, ht⟩
  have hlt := newHead_lt h t hh
  simp only at e1 e2 e3
  have r1 : ∀ ty w, (binOp .eql ty (.complex .f64 (tre h t) (tim h t)) (.complex .f64 0 4607182418800017408)).run Tryz.prog w = .ok (.bool (decide (newHead h t = 1))) w := fun ty w => by rw [run_eql_complex, e1]
  have r2 : ∀ ty w, (binOp .eql ty (.complex .f64 (tre h t) (tim h t)) (.complex .f64 13830554455654793216 0)).run Tryz.prog w = .ok (.bool (decide (newHead h t = 2))) w := fun ty w => by rw [run_eql_complex, e2]
  have r3 : ∀ ty w, (binOp .eql ty (.complex .f64 (tre h t) (tim h t)) (.complex .f64 0 13830554455654793216)).run Tryz.prog w = .ok (.bool (decide (newHead h t = 3))) w := fun ty w => by rw [run_eql_complex, e3]
  clear e1 e2 e3
  generalize newHead h t = n at *
  generalize tre h t = a at *
  generalize tim h t = b at *
  match n, hlt with
  | 0, _ | 1, _ | 2, _ | 3, _ =>
    simp at r1 r2 r3
    go_enter Tryz.func152, Tryz.ntmps152
    go_wp2
    go_ret
    exact ⟨rfl, rfl⟩
set_option maxHeartbeats 400000 in
theorem wrapped_any (n : Int) (w : World) (h0 : -1 ≤ n) (h1 : n ≤ 16) :
    Calls Tryz.prog 206 #[.float .f64 (fo n)] w fun e w' => e = .returned (.float .f64 (fo (n % 16))) ∧ w' = w := by
  have hc := toInt n h0 h1
  go_enter Tryz.func206, Tryz.ntmps206
  go_wp2
  go_ret
  exact ⟨rfl, rfl⟩
set_option maxHeartbeats 400000 in
theorem cell_any (g x y : Nat) (w : World) (hx : x < 16) (hy : y < 16) :
    Calls Tryz.prog 207 #[.pointer (some ⟨g, 0, none⟩), .complex .f64 (fo (x : Int)) (fo (y : Int))] w fun e w' => e = .returned (.pointer (some ⟨g, 16 * y + x, none⟩)) ∧ w' = w := by
  have hcx := toInt (x : Int) (by omega) (by omega)
  have hcy := toInt (y : Int) (by omega) (by omega)
  have hy2 : (y : Int) < 18 := by omega
  have hx2 : (x : Int) < 16 := by omega
  go_enter Tryz.func207, Tryz.ntmps207
  go_wp2
  go_ret
  exact ⟨by rw [Nat.mul_comm 16 y]; rfl, rfl⟩
def scap : Nat → Nat | 0 => 16 | 2 => 16 | _ => 8
set_option maxHeartbeats 400000 in
theorem shipBytes_any (g k : Nat) (w : World) (hk : k < 4) :
    Calls Tryz.prog 151 #[.pointer (some ⟨g, 0, none⟩), .int .i64 (k : Int)] w fun e w' => e = .returned (.slice (some ⟨g, 256 + 8 * k, none⟩) 8 (scap k)) ∧ w' = w := by
  match k, hk with
  | 0, _ | 1, _ | 2, _ | 3, _ =>
    go_enter Tryz.func151, Tryz.ntmps151
    go_wp2
    go_ret
    exact ⟨rfl, rfl⟩
theorem and3_table : ∀ i : Fin 256, bits .and .u8 (i.val : Int) 3 = ((i.val % 4 : Nat) : Int) := by decide +kernel
theorem and4_table : ∀ i : Fin 256, bits .and .u8 (i.val : Int) 4 = ((4 * (i.val / 4 % 2) : Nat) : Int) := by decide +kernel
set_option maxHeartbeats 400000 in
theorem turned_any (a b h i : Nat) (s : Int) (w : World) (hh : h < 4) (hi : i < 256) :
    Calls Tryz.prog 202 #[.agg #[.complex .f64 a b, .complex .f64 (hre h) (him h), .int .u16 s], .int .u8 (i : Int)] w fun e w' => e = .returned (.agg #[.complex .f64 a b, .complex .f64 (tre h (i % 4)) (tim h (i % 4)), .int .u16 s]) ∧ Below w.heap.size w w' := by
  have hand := and3_table ⟨i, hi⟩
  simp only at hand
  have r1 := cmul_left h hh
  have r2 := cmul_right h hh
  have hsc := store_complex
  have hlt : i % 4 < 4 := Nat.mod_lt _ (by omega)
  have H0 : Hid (∀ t, t ≠ 1 → t ≠ 2 → tre h t = hre h ∧ tim h t = him h) := hide (fun t h1 h2 => by
    unfold tre tim
    split <;> simp_all)
  generalize i % 4 = t at *
  match t, hlt with
  | 0, _ | 3, _ =>
    first | rw [(unhide H0 0 (by decide) (by decide)).1, (unhide H0 0 (by decide) (by decide)).2] | rw [(unhide H0 3 (by decide) (by decide)).1, (unhide H0 3 (by decide) (by decide)).2]
    simp at hand
    clear H0
    go_enter Tryz.func202, Tryz.ntmps202
    go_wp2
    exact bodyPost_ret (v := .agg #[.complex .f64 a b, .complex .f64 (hre h) (him h), .int .u16 s]) (by simp [results, Tryz.results202, go_sem]) rfl ⟨rfl, ((Below.refl _ _).alloc (Nat.le_refl _) _).alloc (by simp) _⟩
  | 1, _ =>
    simp at hand
    clear H0
    go_enter Tryz.func202, Tryz.ntmps202
    go_wp2
    exact bodyPost_ret (v := .agg #[.complex .f64 a b, .complex .f64 (tre h 1) (tim h 1), .int .u16 s]) (by simp [results, Tryz.results202, go_sem]) rfl ⟨rfl, ((Below.refl _ _).alloc (Nat.le_refl _) _).alloc (by simp) _⟩
  | 2, _ =>
    simp at hand
    clear H0
    go_enter Tryz.func202, Tryz.ntmps202
    go_wp2
    exact bodyPost_ret (v := .agg #[.complex .f64 a b, .complex .f64 (tre h 2) (tim h 2), .int .u16 s]) (by simp [results, Tryz.results202, go_sem]) rfl ⟨rfl, ((Below.refl _ _).alloc (Nat.le_refl _) _).alloc (by simp) _⟩
/-- Where a ship would go. -/
def goX (x h t : Nat) : Nat := if t = 3 then x else (((x : Int) + dxI (newHead h t)) % 16).toNat
def goY (y h t : Nat) : Nat := if t = 3 then y else (((y : Int) + dyI (newHead h t)) % 16).toNat
theorem goX_lt (x h t : Nat) (hx : x < 16) : goX x h t < 16 := by unfold goX; split <;> omega
theorem goY_lt (x h t : Nat) (hx : x < 16) : goY x h t < 16 := by unfold goY; split <;> omega
theorem dxI_range (h : Nat) : -1 ≤ dxI h ∧ dxI h ≤ 1 := by unfold dxI; split <;> omega
theorem dyI_range (h : Nat) : -1 ≤ dyI h ∧ dyI h ≤ 1 := by unfold dyI; split <;> omega
set_option maxHeartbeats 400000 in
theorem target_any (x y h i : Nat) (s : Int) (w : World) (hx : x < 16) (hy : y < 16) (hh : h < 4) (hi : i < 256) :
    Calls Tryz.prog 203 #[.agg #[.complex .f64 (fo (x : Int)) (fo (y : Int)), .complex .f64 (tre h (i % 4)) (tim h (i % 4)), .int .u16 s], .int .u8 (i : Int)] w fun e w' => e = .returned (.complex .f64 (fo (goX x h (i % 4) : Int)) (fo (goY y h (i % 4) : Int))) ∧ Below w.heap.size w w' := by
  have hand := and3_table ⟨i, hi⟩
  simp only at hand
  have hlt : i % 4 < 4 := Nat.mod_lt _ (by omega)
  generalize i % 4 = t at *
  have ha := cadd x y h t hx hy hh hlt
  have hdx := dxI_range (newHead h t)
  have hdy := dyI_range (newHead h t)
  by_cases h3 : t = 3
  · subst h3
    simp at hand
    have ex : goX x h 3 = x := rfl
    have ey : goY y h 3 = y := rfl
    rw [ex, ey]
    clear ha ex ey
    go_enter Tryz.func203, Tryz.ntmps203
    go_wp2
    go_ret
    exact ⟨rfl, (Below.refl _ _).alloc (Nat.le_refl _) _⟩
  · have hne : ((t : Int) == 3) = false := by rw [beq_eq_false_iff_ne]; omega
    have ex : ((goX x h t : Nat) : Int) = ((x : Int) + dxI (newHead h t)) % 16 := by unfold goX; rw [if_neg h3]; omega
    have ey : ((goY y h t : Nat) : Int) = ((y : Int) + dyI (newHead h t)) % 16 := by unfold goY; rw [if_neg h3]; omega
    rw [ex, ey]
    clear ex ey
    go_enter Tryz.func203, Tryz.ntmps203
    go_wp2_with fail
    refine (wrapped_any _ _ (by omega) (by omega)).mono ?_
    rintro e w1 ⟨rfl, rfl⟩
    go_wp2_with fail
    refine (wrapped_any _ _ (by omega) (by omega)).mono ?_
    rintro e w1 ⟨rfl, rfl⟩
    go_wp2
    go_ret
    exact ⟨rfl, (Below.refl _ _).alloc (Nat.le_refl _) _⟩
end Go.Proofs.YtandblanpafjoaaGreatDoor

namespace Go.Proofs.YtandblanpafjoaaGreatDoor
open Go.RowKit Go.Extern.Stop Go.Stop Go.Extern
theorem or_bytes (a b : Nat) (ha : a < 256) (hb : b < 256) : bits .or .u16 ((a : Int) * 256) (b : Int) = (a : Int) * 256 + (b : Int) := by
  rw [u16_or _ _ (by omega) (by omega) (by omega) (by omega), Nat.or_comm, ← u16_or _ _ (by omega) (by omega) (by omega) (by omega)]
  rw [u16_or8 _ _ (by omega) (by omega) (by omega) (by omega) (by omega)]
  omega
/-- What lies in a memory of a ship. -/
structure ShipAt (m : List Int) (k x y h a b : Nat) : Prop where
  ex : m.getD (256 + 8 * k) 0 = (x : Int)
  ey : m.getD (256 + 8 * k + 1) 0 = (y : Int)
  eh : m.getD (256 + 8 * k + 2) 0 = (h : Int)
  ea : m.getD (256 + 8 * k + 3) 0 = (a : Int)
  eb : m.getD (256 + 8 * k + 4) 0 = (b : Int)
  hx : x < 16
  hy : y < 16
  hh : h < 4
  ha : a < 256
  hb : b < 256
set_option maxRecDepth 10000 in
set_option maxHeartbeats 1000000 in
theorem ship_any (g k x y h a b : Nat) (m : List Int) (w : World) (hm : m.length = 288) (hk : k < 4) (hs : ShipAt m k x y h a b) (hblk : Blk w g (nums .u8 m) 209) :
    Calls Tryz.prog 201 #[.pointer (some ⟨g, 0, none⟩), .int .i64 (k : Int)] w fun e w' => e = .returned (.agg #[.complex .f64 (fo (x : Int)) (fo (y : Int)), .complex .f64 (hre h) (him h), .int .u16 ((a : Int) * 256 + (b : Int))]) ∧ Below w.heap.size w w' := by
  have hgl := hblk.lt
  have hc0 := hblk.num (256 + 8 * k) (by omega)
  have hc1 := hblk.num (256 + 8 * k + 1) (by omega)
  have hc2 := hblk.num (256 + 8 * k + 2) (by omega)
  have hc3 := hblk.num (256 + 8 * k + 3) (by omega)
  have hc4 := hblk.num (256 + 8 * k + 4) (by omega)
  rw [hs.ex] at hc0
  rw [hs.ey] at hc1
  rw [hs.eh] at hc2
  rw [hs.ea] at hc3
  rw [hs.eb] at hc4
  have hor := or_bytes a b hs.ha hs.hb
  have hx := hs.hx
  have hy := hs.hy
  have hh := hs.hh
  have ha := hs.ha
  have hb := hs.hb
  have hsc := store_complex
  have HOR : Hid (bits .or .u16 (IntKind.u16.wrap (IntKind.u16.wrap (a : Int) * 256)) (IntKind.u16.wrap (b : Int)) = (a : Int) * 256 + (b : Int)) := by
    rw [u16_wrap_id (a : Int) (by omega) (by omega), u16_wrap_id ((a : Int) * 256) (by omega) (by omega), u16_wrap_id (b : Int) (by omega) (by omega), hor]; exact hide rfl
  clear hor
  clear hs hblk
  go_enter Tryz.func201, Tryz.ntmps201
  go_wp2_with fail
  refine (shipBytes_any g k _ hk).mono ?_
  rintro e w1 ⟨rfl, rfl⟩
  go_wp2_with fail
  go_region_held3 (fun w' => w'.cell? ⟨g, 256 + 8 * k, none⟩ = some (.int .u8 (x : Int)) ∧ w'.cell? ⟨g, 256 + 8 * k + 1, none⟩ = some (.int .u8 (y : Int)) ∧ w'.cell? ⟨g, 256 + 8 * k + 2, none⟩ = some (.int .u8 (h : Int)) ∧ w'.cell? ⟨g, 256 + 8 * k + 3, none⟩ = some (.int .u8 (a : Int)) ∧ w'.cell? ⟨g, 256 + 8 * k + 4, none⟩ = some (.int .u8 (b : Int))) (go_keep) (first | (go_at_call 205; refine (headingOf_any h _ hh).mono ?_; rintro e w' ⟨rfl, rfl⟩))
  all_goals
    go_wp2
    refine bodyPost_ret (v := .agg #[.complex .f64 (fo (x : Int)) (fo (y : Int)), .complex .f64 (hre h) (him h), .int .u16 ((a : Int) * 256 + (b : Int))]) (by simp [results, Tryz.results201, go_sem]; exact ⟨⟨rfl, rfl⟩, unhide HOR⟩) rfl ⟨rfl, ((Below.refl _ _).alloc (Nat.le_refl _) _).drew⟩
/-- A ship put into a memory. -/
def putL (m : List Int) (k x y h s : Nat) : List Int :=
  ((((m.set (256 + 8 * k) (x : Int)).set (256 + 8 * k + 1) (y : Int)).set (256 + 8 * k + 2) (h : Int)).set (256 + 8 * k + 3) ((s / 256 : Nat) : Int)).set (256 + 8 * k + 4) ((s % 256 : Nat) : Int)
theorem sizeU8 : (Tryz.prog.info? 5).map (·.size) = some 1 := by kernel_rfl
set_option maxRecDepth 10000 in
set_option maxHeartbeats 1000000 in
theorem put_any (g k x y h t s : Nat) (m : List Int) (w : World) (hm : m.length = 288) (hk : k < 4) (hx : x < 16) (hy : y < 16) (hh : h < 4) (ht : t < 4) (hs : s < 65536) (hblk : Blk w g (nums .u8 m) 209) :
    Calls Tryz.prog 137 #[.pointer (some ⟨g, 0, none⟩), .int .i64 (k : Int), .agg #[.complex .f64 (fo (x : Int)) (fo (y : Int)), .complex .f64 (tre h t) (tim h t), .int .u16 (s : Int)]] w
      fun e w' => e = .returned (.tuple #[]) ∧ Blk w' g (nums .u8 (putL m k x y (newHead h t) s)) 209 ∧ w.grownBy w' (some g) := by
  have hgl := hblk.lt
  have hne : w.heap.size ≠ g := by omega
  have hbx := toByte x hx
  have hby := toByte y hy
  go_enter Tryz.func137, Tryz.ntmps137
  go_wp2_with fail
  refine (shipBytes_any g k _ hk).mono ?_
  rintro e w1 ⟨rfl, rfl⟩
  have hb0 := hblk.alloc (.cells #[.complex .f64 (fo (x : Int)) (fo (y : Int)), .complex .f64 (tre h t) (tim h t), .int .u16 (s : Int)] 253)
  have hg0 := (World.grownBy_alloc w (.cells #[.complex .f64 (fo (x : Int)) (fo (y : Int)), .complex .f64 (tre h t) (tim h t), .int .u16 (s : Int)] 253) (some g))
  go_wp2_with (first | (go_at_call 152; refine (numberOf_any h t _ hh ht).mono ?_; rintro e w' ⟨rfl, rfl⟩) | (refine wpList_store_num rfl 5 _ _ rfl _ _ .u8 _ _ _ rfl rfl (by assumption) (by (try simp only [List.length_set]); omega) sizeU8 ?_; intro w' hb hg hz hcl))
  go_end0
  exact ⟨rfl, hb, by repeat (first | assumption | refine grown_trans ?_ (by assumption))⟩
end Go.Proofs.YtandblanpafjoaaGreatDoor

