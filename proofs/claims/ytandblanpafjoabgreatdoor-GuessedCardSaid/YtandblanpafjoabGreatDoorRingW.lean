import Derived.Test.YtandblanpafjoabGreatDoorRingP
import Derived.Test.YtandblanpafjoabGreatDoorMemZ
import Derived.Deep.RegionHeld3
import Derived.Deep.MidRow
namespace Go.Proofs.YtandblanpafjoabGreatDoor
open Go.RowKit Go.Extern.Stop Go.Stop Go.Extern

/-! The ring's own calls. -/
theorem keep_at {W' : World} {b r g o p n : Nat} {v : Value} {cs x : List Value} (h : W'.cell? ⟨b, 0, none⟩ = some v ∧ W'.rangeAt g o cs ∧ W'.there r p n) (hb : b ≠ r) (hg : g ≠ r) :
    (W'.setCells r p x).cell? ⟨b, 0, none⟩ = some v ∧ (W'.setCells r p x).rangeAt g o cs ∧ (W'.setCells r p x).there r p n :=
  ⟨by rw [World.cell?_setCells_out r x p W' _ (fun e => absurd e hb)]; exact h.1, World.rangeAt_setCells_apart h.2.1 r p x (.inl hg), World.there_setCells h.2.2 r p x⟩
theorem Blk.whole {w : World} {g : Nat} {k : IntKind} {l : List Int} {t : TypeId} (h : Blk w g (nums k l) t) (l' : List Int) (hl : l'.length = l.length) : Blk (w.setCells g 0 (l'.map (Value.int k))) g (nums k l') t := by
  have := Blk.mid (a := []) (b := l.map (Value.int k)) (c := []) (by simpa [nums] using h) (l'.map (Value.int k)) (by simp [hl])
  simpa [nums] using this
theorem below_setCells {B : Nat} {w w' : World} (h : Below B w w') (g o : Nat) (vs : List Value) (hB : B ≤ g) : Below B w (w'.setCells g o vs) :=
  ⟨(grown_setCells g vs o w').os.trans h.os, (grown_setCells g vs o w').tape.trans h.tape, (grown_setCells g vs o w').output.trans h.output, Nat.le_trans h.size (grown_setCells g vs o w').size,
   fun k hk => (heap_setCells_other (by omega) vs o w').trans (h.block k hk)⟩
def Z4u : List Int := List.replicate 4 0
theorem Tryz.infoIn : (Tryz.prog.info? 187).map (fun i => (i.zero, i.size)) = some (some (.agg (nums .u8 Z4u)), 4) := by kernel_rfl
theorem Tryz.zeroIn (w : World) : (zeroValue 187).run Tryz.prog w = .ok (.agg (nums .u8 Z4u)) w := (zero_of_info Tryz.infoIn).1 w
theorem Tryz.sizeIn (l : List Int) (hl : l.length = 4) : (Tryz.prog.info? 187).map (·.size) = some (nums .u8 l).size := by
  rw [nums_size, hl]; exact (zero_of_info Tryz.infoIn).2

set_option maxRecDepth 10000 in
set_option maxHeartbeats 1000000 in
theorem rat_mem (g W f : Nat) (cs : List Int) (w : World) (hW : 0 < W) (hl : cs.length = 288) (hr : w.rangeAt g (f % W * 288) (cs.map (Value.int .u8))) :
    Calls Tryz.prog 190 #[.agg #[.slice (some ⟨g, 0, none⟩) W W], .int .i64 (f : Int)] w fun e w' => e = .returned (.agg (nums .u8 cs)) ∧ Below w.heap.size w w' := by
  have hz := Tryz.zeroMem
  obtain ⟨m, hm⟩ : ∃ m, f % W = m := ⟨_, rfl⟩
  rw [hm] at hr
  have hmW : m < W := by rw [← hm]; exact Nat.mod_lt f hW
  have hmod : (f : Int) % (W : Int) = (m : Int) := by rw [← hm, Int.natCast_emod]
  have hmod2 : (f : Int).tmod (W : Int) = (m : Int) := by rw [Int.tmod_eq_emod_of_nonneg (by omega), hmod]
  go_enter Tryz.func190, Tryz.ntmps190
  go_wp2_with fail
  have hlg : g < w.heap.size := World.block_lt_of_cell? w _ (hr 0 _ (by rw [List.getElem?_map, List.getElem?_eq_getElem (by omega)]; rfl))
  have hcell : ((w.alloc (.cells #[.slice (some ⟨g, 0, none⟩) W W] 254)).alloc (.cells (nums .u8 Z288) 106)).cell? ⟨w.heap.size, 0, none⟩ = some (.slice (some ⟨g, 0, none⟩) W W) := by simp
  have hrange := World.rangeAt_alloc (World.rangeAt_alloc hr (.cells #[.slice (some ⟨g, 0, none⟩) W W] 254)) (.cells (nums .u8 Z288) 106)
  have hblk := Blk.new (w.alloc (.cells #[.slice (some ⟨g, 0, none⟩) W W] 254)) (nums .u8 Z288) 106
  have hbel : Below w.heap.size w ((w.alloc (.cells #[.slice (some ⟨g, 0, none⟩) W W] 254)).alloc (.cells (nums .u8 Z288) 106)) := ((Below.refl _ _).alloc (Nat.le_refl _) _).alloc (by simp) _
  simp only [World.size_alloc] at hblk
  generalize (w.alloc (.cells #[.slice (some ⟨g, 0, none⟩) W W] 254)).alloc (.cells (nums .u8 Z288) 106) = W1 at *
  have hth : W1.there (w.heap.size + 1) 0 288 := hblk.there (by simp [nums_size, Z288])
  have hW0 : ¬ W = 0 := by omega
  have hW1 : ¬ (W : Int) = 0 := by omega
  have hm0 : (0 : Int) ≤ (m : Int) := by omega
  have hm1 : (m : Int) < (W : Int) := by omega
  have hu := Tryz.underlying106
  have hsz : (Tryz.prog.info? 106).map (·.size) = some (cs.map (Value.int .u8)).length := by rw [List.length_map, hl]; exact (zero_of_info Tryz.infoMem).2
  have hl' : (cs.map (Value.int .u8)).length = 288 := by rw [List.length_map, hl]
  have hone := nums_ones .u8 cs
  go_region_held3 (fun W' => W'.cell? ⟨w.heap.size, 0, none⟩ = some (.slice (some ⟨g, 0, none⟩) W W) ∧ W'.rangeAt g (m * 288) (cs.map (Value.int .u8)) ∧ W'.there (w.heap.size + 1) 0 288) (first | go_keep | exact keep_at (by assumption) (by omega) (by omega)) (fail)
  go_wp2
  refine bodyPost_ret (v := .agg (nums .u8 cs)) ?_ rfl ⟨rfl, ?_⟩
  · exact results_cell_row Tryz.results190 _ _ (w.heap.size + 1) 106 _ (0, 0) _ rfl (hblk.drew.whole cs (by rw [hl]; simp [Z288])) Tryz.underlying106 rfl (Tryz.sizeMem _ hl)
  · exact below_setCells hbel.drew _ _ _ (by omega)

set_option maxRecDepth 10000 in
set_option maxHeartbeats 1000000 in
theorem rput_mem (g W f : Nat) (cs : List Int) (w : World) (hW : 0 < W) (hl : cs.length = 288) (hth : w.there g (f % W * 288) 288) (hlg : g < w.heap.size) :
    Calls Tryz.prog 189 #[.agg #[.slice (some ⟨g, 0, none⟩) W W], .int .i64 (f : Int), .agg (nums .u8 cs)] w fun e w' => e = .returned (.tuple #[]) ∧ ∃ W1, Below w.heap.size w W1 ∧ w' = W1.setCells g (f % W * 288) (cs.map (Value.int .u8)) := by
  obtain ⟨m, hm⟩ : ∃ m, f % W = m := ⟨_, rfl⟩
  rw [hm] at hth ⊢
  have hmW : m < W := by rw [← hm]; exact Nat.mod_lt f hW
  have hmod : (f : Int) % (W : Int) = (m : Int) := by rw [← hm, Int.natCast_emod]
  have hmod2 : (f : Int).tmod (W : Int) = (m : Int) := by rw [Int.tmod_eq_emod_of_nonneg (by omega), hmod]
  have hz0 : (zeroValue 106).run Tryz.prog w = .ok (.agg (nums .u8 Z288)) w := Tryz.zeroMem w
  clear hz0
  go_enter Tryz.func189, Tryz.ntmps189
  go_wp2_with fail
  have hcell : ((w.alloc (.cells #[.slice (some ⟨g, 0, none⟩) W W] 254)).alloc (.cells (nums .u8 cs) 106)).cell? ⟨w.heap.size, 0, none⟩ = some (.slice (some ⟨g, 0, none⟩) W W) := by simp
  have hth1 := World.there_alloc (World.there_alloc hth (.cells #[.slice (some ⟨g, 0, none⟩) W W] 254)) (.cells (nums .u8 cs) 106)
  have hblk := Blk.new (w.alloc (.cells #[.slice (some ⟨g, 0, none⟩) W W] 254)) (nums .u8 cs) 106
  have hbel : Below w.heap.size w ((w.alloc (.cells #[.slice (some ⟨g, 0, none⟩) W W] 254)).alloc (.cells (nums .u8 cs) 106)) := ((Below.refl _ _).alloc (Nat.le_refl _) _).alloc (by simp) _
  simp only [World.size_alloc] at hblk
  generalize (w.alloc (.cells #[.slice (some ⟨g, 0, none⟩) W W] 254)).alloc (.cells (nums .u8 cs) 106) = W1 at *
  have hrange : W1.rangeAt (w.heap.size + 1) 0 (cs.map (Value.int .u8)) := Blk.rangeAt (a := []) (b := cs.map (Value.int .u8)) (c := []) (by simpa [nums] using hblk)
  have hW0 : ¬ W = 0 := by omega
  have hW1 : ¬ (W : Int) = 0 := by omega
  have hm0 : (0 : Int) ≤ (m : Int) := by omega
  have hm1 : (m : Int) < (W : Int) := by omega
  have hu := Tryz.underlying106
  have hsz : (Tryz.prog.info? 106).map (·.size) = some (cs.map (Value.int .u8)).length := by rw [List.length_map, hl]; exact (zero_of_info Tryz.infoMem).2
  have hl' : (cs.map (Value.int .u8)).length = 288 := by rw [List.length_map, hl]
  have hone := nums_ones .u8 cs
  go_region_held3 (fun W' => W'.cell? ⟨w.heap.size, 0, none⟩ = some (.slice (some ⟨g, 0, none⟩) W W) ∧ W'.rangeAt (w.heap.size + 1) 0 (cs.map (Value.int .u8)) ∧ W'.there g (m * 288) 288) (first | go_keep | exact keep_at (by assumption) (by omega) (by omega)) (fail)
  go_wp2
  go_end0
  exact ⟨rfl, W1.drew, hbel.drew, rfl⟩
end Go.Proofs.YtandblanpafjoabGreatDoor
