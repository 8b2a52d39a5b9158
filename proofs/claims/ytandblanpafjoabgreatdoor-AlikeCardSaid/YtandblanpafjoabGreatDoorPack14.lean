import Derived.Test.YtandblanpafjoabGreatDoorPack13
import Derived.Test.YtandblanpafjoabGreatDoorPack01
import Derived.RegionTactic
import Derived.Laws.ResultCell
import Derived.Test.YtandblanpafjoabGreatDoorPack02
import Derived.Deep.RegionHeld3
import Derived.Deep.MidRow
import Derived.Test.YtandblanpafjoabGreatDoorChecked
import Derived.Laws.ComplexArith
import Derived.Laws.Cover2
namespace Go.Proofs.YtandblanpafjoabGreatDoor
open Go.RowKit Go.Extern.Stop Go.Stop Go.Extern

def Z288 : List Int := List.replicate 288 0
theorem Z288_len : Z288.length = 288 := List.length_replicate
theorem Tryz.infoMem : (Tryz.prog.info? 106).map (fun i => (i.zero, i.size)) = some (some (.agg (nums .u8 Z288)), 288) := by kernel_rfl
theorem Tryz.zeroMem (w : World) : (zeroValue 106).run Tryz.prog w = .ok (.agg (nums .u8 Z288)) w := (zero_of_info Tryz.infoMem).1 w
theorem Tryz.sizeMem (l : List Int) (hl : l.length = 288) : (Tryz.prog.info? 106).map (·.size) = some (nums .u8 l).size := by
  rw [nums_size, hl]; exact (zero_of_info Tryz.infoMem).2

def memTo (l : List Int) (k : Nat) : List Int := l.take (16 * k) ++ List.replicate (288 - 16 * k) 0
theorem memTo_len (l : List Int) (k : Nat) (hl : l.length = 288) (hk : k ≤ 18) : (memTo l k).length = 288 := by simp [memTo, hl]; omega
theorem memTo_zero (l : List Int) : memTo l 0 = Z288 := by rw [memTo, Nat.mul_zero, List.take_zero, List.nil_append]; rfl
theorem memTo_all (l : List Int) (hl : l.length = 288) : memTo l 18 = l := by simp [memTo, List.take_of_length_le (show l.length ≤ 16 * 18 by omega)]
theorem memTo_succ (l : List Int) (k : Nat) (hl : l.length = 288) (hk : k < 18) : (memTo l k).take (16 * k) ++ pageL l k ++ (memTo l k).drop (16 * k + 16) = memTo l (k + 1) := by
  have h1 : (memTo l k).take (16 * k) = l.take (16 * k) := by
    rw [memTo, List.take_append_of_le_length (by simp [hl]; omega), List.take_take, Nat.min_self]
  have h2 : (memTo l k).drop (16 * k + 16) = List.replicate (288 - 16 * (k + 1)) 0 := by
    have hlen : (l.take (16 * k)).length = 16 * k := by simp [hl]; omega
    rw [memTo, List.drop_append, hlen, show 16 * k + 16 - 16 * k = 16 by omega, List.drop_of_length_le (by rw [hlen]; omega), List.nil_append, List.drop_replicate]
    congr 1
  rw [h1, h2, memTo, pageL, show 16 * (k + 1) = 16 * k + 16 by omega, List.take_add (l := l) (i := 16 * k) (j := 16)]

end Go.Proofs.YtandblanpafjoabGreatDoor

namespace Go.Proofs.YtandblanpafjoabGreatDoor
open Go.RowKit Go.Extern.Stop Go.Stop Go.Extern

/-! The ring's own calls. -/
theorem keep_at {W' : World} {b r g o p n : Nat} {v : Value} {cs x : List Value} (h : W'.cell? ⟨b, 0, none⟩ = some v ∧ W'.rangeAt g o cs ∧ W'.there r p n) (hb : b ≠ r) (hg : g ≠ r) :
    (W'.setCells r p x).cell? ⟨b, 0, none⟩ = some v ∧ (W'.setCells r p x).rangeAt g o cs ∧ (W'.setCells r p x).there r p n :=
  ⟨by rw [World.cell?_setCells_out r x p W' _ (fun e => absurd e hb)]; exact h.1, World.rangeAt_setCells_apart h.2.1 r p x (.inl hg), World.there_setCells h.2.2 r p x⟩
theorem Blk.whole {w : World} {g : Nat} {k : IntKind} {l : List Int} {t : TypeId} (h : Blk w g (nums k l) t) (l' : List Int) (hl : l'.length = l.length) : Blk (w.setCells g 0 (l'.map (Value.int k))) g (nums k l') t := by
  have := Blk.mid (a := []) (b := l.map (Value.int k)) (c := []) (by simpa [nums] using h) (l'.map (Value.int k)) (by simp [hl])
  simpa [nums] using this
theorem below_setCells {B : Nat} {w w' : World} (h : Below B w w') (g o : Nat) (vs : List Value) (hB : B ≤ g) : Below B w (w'.setCells g o vs) :=
  ⟨(grown_setCells g vs o w').os.trans h.os, (grown_setCells g vs o w').tape.trans h.tape, (grown_setCells g vs o w').output.trans h.output, Nat.le_trans h.size (grown_setCells g vs o w').size,
   fun k hk => (heap_setCells_other (by omega) vs o w').trans (h.block k hk)⟩
def Z4u : List Int := List.replicate 4 0
theorem Tryz.infoIn : (Tryz.prog.info? 187).map (fun i => (i.zero, i.size)) = some (some (.agg (nums .u8 Z4u)), 4) := by kernel_rfl
theorem Tryz.zeroIn (w : World) : (zeroValue 187).run Tryz.prog w = .ok (.agg (nums .u8 Z4u)) w := (zero_of_info Tryz.infoIn).1 w
theorem Tryz.sizeIn (l : List Int) (hl : l.length = 4) : (Tryz.prog.info? 187).map (·.size) = some (nums .u8 l).size := by
  rw [nums_size, hl]; exact (zero_of_info Tryz.infoIn).2

set_option maxRecDepth 10000 in
set_option maxHeartbeats 1000000 in
theorem rat_mem (g W f : Nat) (cs : List Int) (w : World) (hW : 0 < W) (hl : cs.length = 288) (hr : w.rangeAt g (f % W * 288) (cs.map (Value.int .u8))) :
    Calls Tryz.prog 190 #[.agg #[.slice (some ⟨g, 0, none⟩) W W], .int .i64 (f : Int)] w fun e w' => e = .returned (.agg (nums .u8 cs)) ∧ Below w.heap.size w w' := by
  have hz := Tryz.zeroMem
  obtain ⟨m, hm⟩ : ∃ m, f % W = m := ⟨_, rfl⟩
  rw [hm] at hr
  have hmW : m < W := by rw [← hm]; exact Nat.mod_lt f hW
  have hmod : (f : Int) % (W : Int) = (m : Int) := by rw [← hm, Int.natCast_emod]
  have hmod2 : (f : Int).tmod (W : Int) = (m : Int) := by rw [Int.tmod_eq_emod_of_nonneg (by omega), hmod]
  go_enter Tryz.func190, Tryz.ntmps190
  go_wp2_with fail
  have hlg : g < w.heap.size := World.block_lt_of_cell? w _ (hr 0 _ (by rw [List.getElem?_map, List.getElem?_eq_getElem (by omega)]; rfl))
  have hcell : ((w.alloc (.cells #[.slice (some ⟨g, 0, none⟩) W W] 254)).alloc (.cells (nums .u8 Z288) 106)).cell? ⟨w.heap.size, 0, none⟩ = some (.slice (some ⟨g, 0, none⟩) W W) := by simp
  have hrange := World.rangeAt_alloc (World.rangeAt_alloc hr (.cells #[.slice (some ⟨g, 0, none⟩) W W] 254)) (.cells (nums .u8 Z288) 106)
  have hblk := Blk.new (w.alloc (.cells #[.slice (some ⟨g, 0, none⟩) W W] 254)) (nums .u8 Z288) 106
  have hbel : Below w.heap.size w ((w.alloc (.cells #[.slice (some ⟨g, 0, none⟩) W W] 254)).alloc (.cells (nums .u8 Z288) 106)) := ((Below.refl _ _).alloc (Nat.le_refl _) _).alloc (by simp) _
  simp only [World.size_alloc] at hblk
  generalize (w.alloc (.cells #[.slice (some ⟨g, 0, none⟩) W W] 254)).alloc (.cells (nums .u8 Z288) 106) = W1 at *
  have hth : W1.there (w.heap.size + 1) 0 288 := hblk.there (by simp [nums_size, Z288])
  have hW0 : ¬ W = 0 := by omega
  have hW1 : ¬ (W : Int) = 0 := by omega
  have hm0 : (0 : Int) ≤ (m : Int) := by omega
  have hm1 : (m : Int) < (W : Int) := by omega
  have hu := Tryz.underlying106
  have hsz : (Tryz.prog.info? 106).map (·.size) = some (cs.map (Value.int .u8)).length := by rw [List.length_map, hl]; exact (zero_of_info Tryz.infoMem).2
  have hl' : (cs.map (Value.int .u8)).length = 288 := by rw [List.length_map, hl]
  have hone := nums_ones .u8 cs
  go_region_held3 (fun W' => W'.cell? ⟨w.heap.size, 0, none⟩ = some (.slice (some ⟨g, 0, none⟩) W W) ∧ W'.rangeAt g (m * 288) (cs.map (Value.int .u8)) ∧ W'.there (w.heap.size + 1) 0 288) (first | go_keep | exact keep_at (by assumption) (by omega) (by omega)) (fail)
  go_wp2
  refine bodyPost_ret (v := .agg (nums .u8 cs)) ?_ rfl ⟨rfl, ?_⟩
  · exact results_cell_row Tryz.results190 _ _ (w.heap.size + 1) 106 _ (0, 0) _ rfl (hblk.drew.whole cs (by rw [hl]; simp [Z288])) Tryz.underlying106 rfl (Tryz.sizeMem _ hl)
  · exact below_setCells hbel.drew _ _ _ (by omega)

set_option maxRecDepth 10000 in
set_option maxHeartbeats 1000000 in
theorem rput_mem (g W f : Nat) (cs : List Int) (w : World) (hW : 0 < W) (hl : cs.length = 288) (hth : w.there g (f % W * 288) 288) (hlg : g < w.heap.size) :
    Calls Tryz.prog 189 #[.agg #[.slice (some ⟨g, 0, none⟩) W W], .int .i64 (f : Int), .agg (nums .u8 cs)] w fun e w' => e = .returned (.tuple #[]) ∧ ∃ W1, Below w.heap.size w W1 ∧ w' = W1.setCells g (f % W * 288) (cs.map (Value.int .u8)) := by
  obtain ⟨m, hm⟩ : ∃ m, f % W = m := ⟨_, rfl⟩
  rw [hm] at hth ⊢
  have hmW : m < W := by rw [← hm]; exact Nat.mod_lt f hW
  have hmod : (f : Int) % (W : Int) = (m : Int) := by rw [← hm, Int.natCast_emod]
  have hmod2 : (f : Int).tmod (W : Int) = (m : Int) := by rw [Int.tmod_eq_emod_of_nonneg (by omega), hmod]
  have hz0 : (zeroValue 106).run Tryz.prog w = .ok (.agg (nums .u8 Z288)) w := Tryz.zeroMem w
  clear hz0
  go_enter Tryz.func189, Tryz.ntmps189
  go_wp2_with fail
  have hcell : ((w.alloc (.cells #[.slice (some ⟨g, 0, none⟩) W W] 254)).alloc (.cells (nums .u8 cs) 106)).cell? ⟨w.heap.size, 0, none⟩ = some (.slice (some ⟨g, 0, none⟩) W W) := by simp
  have hth1 := World.there_alloc (World.there_alloc hth (.cells #[.slice (some ⟨g, 0, none⟩) W W] 254)) (.cells (nums .u8 cs) 106)
  have hblk := Blk.new (w.alloc (.cells #[.slice (some ⟨g, 0, none⟩) W W] 254)) (nums .u8 cs) 106
  have hbel : Below w.heap.size w ((w.alloc (.cells #[.slice (some ⟨g, 0, none⟩) W W] 254)).alloc (.cells (nums .u8 cs) 106)) := ((Below.refl _ _).alloc (Nat.le_refl _) _).alloc (by simp) _
  simp only [World.size_alloc] at hblk
  generalize (w.alloc (.cells #[.slice (some ⟨g, 0, none⟩) W W] 254)).alloc (.cells (nums .u8 cs) 106) = W1 at *
  have hrange : W1.rangeAt (w.heap.size + 1) 0 (cs.map (Value.int .u8)) := Blk.rangeAt (a := []) (b := cs.map (Value.int .u8)) (c := []) (by simpa [nums] using hblk)
  have hW0 : ¬ W = 0 := by omega
  have hW1 : ¬ (W : Int) = 0 := by omega
  have hm0 : (0 : Int) ≤ (m : Int) := by omega
  have hm1 : (m : Int) < (W : Int) := by omega
  have hu := Tryz.underlying106
  have hsz : (Tryz.prog.info? 106).map (·.size) = some (cs.map (Value.int .u8)).length := by rw [List.length_map, hl]; exact (zero_of_info Tryz.infoMem).2
  have hl' : (cs.map (Value.int .u8)).length = 288 := by rw [List.length_map, hl]
  have hone := nums_ones .u8 cs
  go_region_held3 (fun W' => W'.cell? ⟨w.heap.size, 0, none⟩ = some (.slice (some ⟨g, 0, none⟩) W W) ∧ W'.rangeAt (w.heap.size + 1) 0 (cs.map (Value.int .u8)) ∧ W'.there g (m * 288) 288) (first | go_keep | exact keep_at (by assumption) (by omega) (by omega)) (fail)
  go_wp2
  go_end0
  exact ⟨rfl, W1.drew, hbel.drew, rfl⟩
end Go.Proofs.YtandblanpafjoabGreatDoor

namespace Go.Proofs.YtandblanpafjoabGreatDoor
open Go.RowKit Go.Extern.Stop Go.Stop Go.Extern

theorem range4 {w : World} {g o : Nat} {a b c d : Int} (h : w.rangeAt g o ([a, b, c, d].map (Value.int .u8))) : w.cell? ⟨g, o, none⟩ = some (.int .u8 a) ∧ w.cell? ⟨g, o + 1, none⟩ = some (.int .u8 b) ∧ w.cell? ⟨g, o + 2, none⟩ = some (.int .u8 c) ∧ w.cell? ⟨g, o + 3, none⟩ = some (.int .u8 d) :=
  ⟨h 0 _ rfl, h 1 _ rfl, h 2 _ rfl, h 3 _ rfl⟩
set_option maxRecDepth 10000 in
set_option maxHeartbeats 1000000 in
theorem rat_in (g W f : Nat) (a b c d : Int) (w : World) (hW : 0 < W) (hr : w.rangeAt g (f % W * 4) ([a, b, c, d].map (Value.int .u8))) :
    Calls Tryz.prog 177 #[.agg #[.slice (some ⟨g, 0, none⟩) W W], .int .i64 (f : Int)] w fun e w' => e = .returned (.agg (nums .u8 [a, b, c, d])) ∧ Below w.heap.size w w' := by
  have hz := Tryz.zeroIn
  obtain ⟨m, hm⟩ : ∃ m, f % W = m := ⟨_, rfl⟩
  rw [hm] at hr
  have hmW : m < W := by rw [← hm]; exact Nat.mod_lt f hW
  have hmod : (f : Int) % (W : Int) = (m : Int) := by rw [← hm, Int.natCast_emod]
  have hmod2 : (f : Int).tmod (W : Int) = (m : Int) := by rw [Int.tmod_eq_emod_of_nonneg (by omega), hmod]
  obtain ⟨c0, c1, c2, c3⟩ := range4 hr
  have hlg : g < w.heap.size := World.block_lt_of_cell? w _ c0
  clear hr
  go_enter Tryz.func177, Tryz.ntmps177
  go_wp2_with fail
  have hcell : ((w.alloc (.cells #[.slice (some ⟨g, 0, none⟩) W W] 225)).alloc (.cells (nums .u8 Z4u) 187)).cell? ⟨w.heap.size, 0, none⟩ = some (.slice (some ⟨g, 0, none⟩) W W) := by simp
  have hblk := Blk.new (w.alloc (.cells #[.slice (some ⟨g, 0, none⟩) W W] 225)) (nums .u8 Z4u) 187
  have hbel : Below w.heap.size w ((w.alloc (.cells #[.slice (some ⟨g, 0, none⟩) W W] 225)).alloc (.cells (nums .u8 Z4u) 187)) := ((Below.refl _ _).alloc (Nat.le_refl _) _).alloc (by simp) _
  simp only [World.size_alloc] at hblk
  generalize (w.alloc (.cells #[.slice (some ⟨g, 0, none⟩) W W] 225)).alloc (.cells (nums .u8 Z4u) 187) = W1 at *
  have d0 := (hbel.cell (p := ⟨g, m * 4, none⟩) hlg).trans c0
  have d1 := (hbel.cell (p := ⟨g, m * 4 + 1, none⟩) hlg).trans c1
  have d2 := (hbel.cell (p := ⟨g, m * 4 + 2, none⟩) hlg).trans c2
  have d3 := (hbel.cell (p := ⟨g, m * 4 + 3, none⟩) hlg).trans c3
  have r0 : W1.cell? ⟨w.heap.size + 1, 0, none⟩ = some (.int .u8 0) := hblk.cell 0
  have r1 : W1.cell? ⟨w.heap.size + 1, 1, none⟩ = some (.int .u8 0) := hblk.cell 1
  have r2 : W1.cell? ⟨w.heap.size + 1, 2, none⟩ = some (.int .u8 0) := hblk.cell 2
  have r3 : W1.cell? ⟨w.heap.size + 1, 3, none⟩ = some (.int .u8 0) := hblk.cell 3
  have f0 := hblk.frozen 0
  have f1 := hblk.frozen 1
  have f2 := hblk.frozen 2
  have f3 := hblk.frozen 3
  have hg0 : ¬ g = w.heap.size := by omega
  have hg1 : ¬ g = w.heap.size + 1 := by omega
  have hg2 : ¬ w.heap.size + 1 = g := by omega
  have hg3 : ¬ w.heap.size = g := by omega
  have hW0 : ¬ W = 0 := by omega
  have hW1 : ¬ (W : Int) = 0 := by omega
  have hm0 : (0 : Int) ≤ (m : Int) := by omega
  have hm1 : (m : Int) < (W : Int) := by omega
  go_region_held3 (fun W' => W'.cell? ⟨w.heap.size, 0, none⟩ = some (.slice (some ⟨g, 0, none⟩) W W) ∧ W'.cell? ⟨g, m * 4, none⟩ = some (.int .u8 a) ∧ W'.cell? ⟨g, m * 4 + 1, none⟩ = some (.int .u8 b) ∧ W'.cell? ⟨g, m * 4 + 2, none⟩ = some (.int .u8 c) ∧ W'.cell? ⟨g, m * 4 + 3, none⟩ = some (.int .u8 d)) (go_keep) (fail)
  go_wp2
  have hb4 := (((hblk.set 0 (.int .u8 a)).set 1 (.int .u8 b)).set 2 (.int .u8 c)).set 3 (.int .u8 d)
  have e4 : (((((nums .u8 Z4u).setIfInBounds 0 (.int .u8 a)).setIfInBounds 1 (.int .u8 b)).setIfInBounds 2 (.int .u8 c)).setIfInBounds 3 (.int .u8 d)) = nums .u8 [a, b, c, d] := rfl
  rw [e4] at hb4
  refine bodyPost_ret (v := .agg (nums .u8 [a, b, c, d])) ?_ rfl ⟨rfl, ?_⟩
  · exact results_cell_row Tryz.results177 _ _ (w.heap.size + 1) 187 _ (0, 0) _ rfl hb4.drew Tryz.underlying187 rfl (Tryz.sizeIn _ rfl)
  · exact ((((hbel.setCell (p := ⟨w.heap.size + 1, 0, none⟩) (by simp) _).setCell (p := ⟨w.heap.size + 1, 1, none⟩) (by simp) _).setCell (p := ⟨w.heap.size + 1, 2, none⟩) (by simp) _).setCell (p := ⟨w.heap.size + 1, 3, none⟩) (by simp) _).drew

set_option maxRecDepth 10000 in
set_option maxHeartbeats 1000000 in
theorem rput_in (g W f : Nat) (a b c d : Int) (w : World) (hW : 0 < W) (hth : w.there g (f % W * 4) 4) (hlg : g < w.heap.size) :
    Calls Tryz.prog 178 #[.agg #[.slice (some ⟨g, 0, none⟩) W W], .int .i64 (f : Int), .agg (nums .u8 [a, b, c, d])] w fun e w' => e = .returned (.tuple #[]) ∧ ∃ W1, Below w.heap.size w W1 ∧ w' = W1.setCells g (f % W * 4) ([a, b, c, d].map (Value.int .u8)) := by
  obtain ⟨m, hm⟩ : ∃ m, f % W = m := ⟨_, rfl⟩
  rw [hm] at hth ⊢
  have hmW : m < W := by rw [← hm]; exact Nat.mod_lt f hW
  have hmod : (f : Int) % (W : Int) = (m : Int) := by rw [← hm, Int.natCast_emod]
  have hmod2 : (f : Int).tmod (W : Int) = (m : Int) := by rw [Int.tmod_eq_emod_of_nonneg (by omega), hmod]
  go_enter Tryz.func178, Tryz.ntmps178
  go_wp2_with fail
  have hcell : ((w.alloc (.cells #[.slice (some ⟨g, 0, none⟩) W W] 225)).alloc (.cells (nums .u8 [a, b, c, d]) 187)).cell? ⟨w.heap.size, 0, none⟩ = some (.slice (some ⟨g, 0, none⟩) W W) := by simp
  have hth1 := World.there_alloc (World.there_alloc hth (.cells #[.slice (some ⟨g, 0, none⟩) W W] 225)) (.cells (nums .u8 [a, b, c, d]) 187)
  have hblk := Blk.new (w.alloc (.cells #[.slice (some ⟨g, 0, none⟩) W W] 225)) (nums .u8 [a, b, c, d]) 187
  have hbel : Below w.heap.size w ((w.alloc (.cells #[.slice (some ⟨g, 0, none⟩) W W] 225)).alloc (.cells (nums .u8 [a, b, c, d]) 187)) := ((Below.refl _ _).alloc (Nat.le_refl _) _).alloc (by simp) _
  simp only [World.size_alloc] at hblk
  generalize (w.alloc (.cells #[.slice (some ⟨g, 0, none⟩) W W] 225)).alloc (.cells (nums .u8 [a, b, c, d]) 187) = W1 at *
  have r0 : W1.cell? ⟨w.heap.size + 1, 0, none⟩ = some (.int .u8 a) := hblk.cell 0
  have r1 : W1.cell? ⟨w.heap.size + 1, 1, none⟩ = some (.int .u8 b) := hblk.cell 1
  have r2 : W1.cell? ⟨w.heap.size + 1, 2, none⟩ = some (.int .u8 c) := hblk.cell 2
  have r3 : W1.cell? ⟨w.heap.size + 1, 3, none⟩ = some (.int .u8 d) := hblk.cell 3
  obtain ⟨x0, d0⟩ := Option.isSome_iff_exists.1 (hth1 0 (by omega)).1
  obtain ⟨x1, d1⟩ := Option.isSome_iff_exists.1 (hth1 1 (by omega)).1
  obtain ⟨x2, d2⟩ := Option.isSome_iff_exists.1 (hth1 2 (by omega)).1
  obtain ⟨x3, d3⟩ := Option.isSome_iff_exists.1 (hth1 3 (by omega)).1
  have f0 := (hth1 0 (by omega)).2
  have f1 := (hth1 1 (by omega)).2
  have f2 := (hth1 2 (by omega)).2
  have f3 := (hth1 3 (by omega)).2
  rw [Nat.add_zero] at d0 f0
  clear hth hth1
  have hg0 : ¬ g = w.heap.size := by omega
  have hg1 : ¬ g = w.heap.size + 1 := by omega
  have hg2 : ¬ w.heap.size + 1 = g := by omega
  have hg3 : ¬ w.heap.size = g := by omega
  have hW0 : ¬ W = 0 := by omega
  have hW1 : ¬ (W : Int) = 0 := by omega
  have hm0 : (0 : Int) ≤ (m : Int) := by omega
  have hm1 : (m : Int) < (W : Int) := by omega
  go_region_held3 (fun W' => W'.cell? ⟨w.heap.size, 0, none⟩ = some (.slice (some ⟨g, 0, none⟩) W W) ∧ W'.cell? ⟨w.heap.size + 1, 0, none⟩ = some (.int .u8 a) ∧ W'.cell? ⟨w.heap.size + 1, 1, none⟩ = some (.int .u8 b) ∧ W'.cell? ⟨w.heap.size + 1, 2, none⟩ = some (.int .u8 c) ∧ W'.cell? ⟨w.heap.size + 1, 3, none⟩ = some (.int .u8 d)) (go_keep) (fail)
  go_wp2
  go_end0
  exact ⟨rfl, W1.drew, hbel.drew, rfl⟩
end Go.Proofs.YtandblanpafjoabGreatDoor

/-! Small whole numbers as floats: exact. -/
namespace Go.Proofs.YtandblanpafjoabGreatDoor
open Go.RowKit

/-- A number as a float64's bits. -/
def fo (n : Int) : Nat := floatOfInt .f64 n
/-- A heading's parts, and those behind a turn (1: left, 2: right). -/
def hre : Nat → Nat | 0 => 4607182418800017408 | 2 => 13830554455654793216 | _ => 0
def him : Nat → Nat | 1 => 4607182418800017408 | 3 => 13830554455654793216 | _ => 0
def tre : Nat → Nat → Nat
  | 0, 1 => 0 | 1, 1 => 13830554455654793216 | 2, 1 => 9223372036854775808 | 3, 1 => 4607182418800017408
  | 0, 2 => 0 | 1, 2 => 4607182418800017408 | 2, 2 => 0 | 3, 2 => 13830554455654793216
  | h, _ => hre h
def tim : Nat → Nat → Nat
  | 0, 1 => 4607182418800017408 | 1, 1 => 0 | 2, 1 => 13830554455654793216 | 3, 1 => 0
  | 0, 2 => 13830554455654793216 | 1, 2 => 0 | 2, 2 => 4607182418800017408 | 3, 2 => 9223372036854775808
  | h, _ => him h
def newHead (h t : Nat) : Nat := if t = 1 then (h + 1) % 4 else if t = 2 then (h + 3) % 4 else h
def dxI : Nat → Int | 0 => 1 | 2 => -1 | _ => 0
def dyI : Nat → Int | 1 => 1 | 3 => -1 | _ => 0
theorem newHead_lt (h t : Nat) (hh : h < 4) : newHead h t < 4 := by unfold newHead; repeat (first | omega | split)

theorem mul_table : ∀ h : Fin 4, cMulBits (hre h) (him h) 0 4607182418800017408 = some (tre h 1, tim h 1) ∧ cMulBits (hre h) (him h) 0 13830554455654793216 = some (tre h 2, tim h 2) := by decide +kernel
theorem addx_table : ∀ (x : Fin 16) (h t : Fin 4), floatBits .add .f64 (fo (x.val : Int)) (tre h t) = some (fo ((x.val : Int) + dxI (newHead h t))) := by decide +kernel
theorem addy_table : ∀ (x : Fin 16) (h t : Fin 4), floatBits .add .f64 (fo (x.val : Int)) (tim h t) = some (fo ((x.val : Int) + dyI (newHead h t))) := by decide +kernel
theorem eq_table : ∀ x y : Fin 16, (FloatKind.f64.format.order (fo (x.val : Int)) (fo (y.val : Int)) == some .eq) = decide (x.val = y.val) := by decide +kernel
theorem num_table : ∀ (h t : Fin 4), ((FloatKind.f64.format.order (tre h t) 0 == some .eq) && (FloatKind.f64.format.order (tim h t) 4607182418800017408 == some .eq)) = decide (newHead h t = 1) ∧
    ((FloatKind.f64.format.order (tre h t) 13830554455654793216 == some .eq) && (FloatKind.f64.format.order (tim h t) 0 == some .eq)) = decide (newHead h t = 2) ∧
    ((FloatKind.f64.format.order (tre h t) 0 == some .eq) && (FloatKind.f64.format.order (tim h t) 13830554455654793216 == some .eq)) = decide (newHead h t = 3) := by decide +kernel
theorem toI_table : ∀ n : Fin 18, floatToIntVal .f64 (fo ((n.val : Int) - 1)) .i64 = some ((n.val : Int) - 1) := by decide +kernel
theorem toU8_table : ∀ n : Fin 16, floatToIntVal .f64 (fo (n.val : Int)) .u8 = some (n.val : Int) := by decide +kernel

theorem cmul_left (h : Nat) (hh : h < 4) (t : TypeId) (w : World) : (binOp .mul t (.complex .f64 (hre h) (him h)) (.complex .f64 0 4607182418800017408)).run Tryz.prog w = .ok (.complex .f64 (tre h 1) (tim h 1)) w :=
  run_complex_mul w t _ _ _ _ _ _ (mul_table ⟨h, hh⟩).1
theorem cmul_right (h : Nat) (hh : h < 4) (t : TypeId) (w : World) : (binOp .mul t (.complex .f64 (hre h) (him h)) (.complex .f64 0 13830554455654793216)).run Tryz.prog w = .ok (.complex .f64 (tre h 2) (tim h 2)) w :=
  run_complex_mul w t _ _ _ _ _ _ (mul_table ⟨h, hh⟩).2
theorem cadd (x y h t : Nat) (hx : x < 16) (hy : y < 16) (hh : h < 4) (ht : t < 4) (ty : TypeId) (w : World) :
    (binOp .add ty (.complex .f64 (fo (x : Int)) (fo (y : Int))) (.complex .f64 (tre h t) (tim h t))).run Tryz.prog w = .ok (.complex .f64 (fo ((x : Int) + dxI (newHead h t))) (fo ((y : Int) + dyI (newHead h t)))) w :=
  run_complex_sum w .add (Or.inl rfl) ty .f64 _ _ _ _ _ _ (by
    unfold cSumBits
    rw [addx_table ⟨x, hx⟩ ⟨h, hh⟩ ⟨t, ht⟩, addy_table ⟨y, hy⟩ ⟨h, hh⟩ ⟨t, ht⟩]; rfl)
theorem ceq (x y a b : Nat) (hx : x < 16) (hy : y < 16) (ha : a < 16) (hb : b < 16) (ty : TypeId) (w : World) :
    (binOp .eql ty (.complex .f64 (fo (x : Int)) (fo (y : Int))) (.complex .f64 (fo (a : Int)) (fo (b : Int)))).run Tryz.prog w = .ok (.bool (decide (x = a) && decide (y = b))) w := by
  rw [run_eql_complex, eq_table ⟨x, hx⟩ ⟨a, ha⟩, eq_table ⟨y, hy⟩ ⟨b, hb⟩]
theorem toInt (n : Int) (h0 : -1 ≤ n) (h1 : n ≤ 16) (w : World) : (convert 156 3 (.float .f64 (fo n))).run Tryz.prog w = .ok (.int .i64 n) w := by
  have := toI_table ⟨(n + 1).toNat, by omega⟩
  simp only at this
  rw [show (((n + 1).toNat : Nat) : Int) - 1 = n by omega] at this
  exact run_convert_float_int w 156 3 .f64 .i64 _ n (by rw [Tryz.underlying156]; rfl) Tryz.underlying3 this
theorem toByte (n : Nat) (h1 : n < 16) (w : World) : (convert 156 5 (.float .f64 (fo (n : Int)))).run Tryz.prog w = .ok (.int .u8 (n : Int)) w :=
  run_convert_float_int w 156 5 .f64 .u8 _ n (by rw [Tryz.underlying156]; rfl) Tryz.underlying5 (toU8_table ⟨n, h1⟩)
theorem store_complex (k : FloatKind) (x y : Nat) (a : Addr) (m : Mode) (w : World) : (store a (.complex k x y) m).run Tryz.prog w = stored Tryz.prog w a (.complex k x y) m := run_store _ w a _ m rfl
end Go.Proofs.YtandblanpafjoabGreatDoor

