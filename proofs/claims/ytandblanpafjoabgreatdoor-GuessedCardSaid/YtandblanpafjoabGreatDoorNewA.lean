import Derived.Test.YtandblanpafjoabGreatDoorPeerG
import Derived.Laws.MakeOwn
import Derived.Laws.Tables
namespace Go.Proofs.YtandblanpafjoabGreatDoor
open Go.RowKit Go.Extern.Stop Go.Stop Go.Extern

/-! Making what a peer has: rings. -/
theorem Tryz.infoIn3 : (Tryz.prog.info? 187).map (fun i => (i.zero, i.size, i.bytes)) = some (some (.agg (nums .u8 Z4u)), 4, 4) := by kernel_rfl
theorem Tryz.infoMem3 : (Tryz.prog.info? 106).map (fun i => (i.zero, i.size, i.bytes)) = some (some (.agg (nums .u8 Z288)), 288, 288) := by kernel_rfl
theorem Tryz.infoPg3 : (Tryz.prog.info? 248).map (fun i => (i.zero, i.size, i.bytes)) = some (some (.map none), 1, 8) := by kernel_rfl
theorem made_row (t e : TypeId) (z : Value) (s b : Nat) (hu : Tryz.prog.underlying t = some (.slice e)) (hi : (Tryz.prog.info? e).map (fun i => (i.zero, i.size, i.bytes)) = some (some z, s, b)) (hb : b ≤ 1000) (n : Nat) (hn : n ≤ 1000) :
    ∃ C : Array Value, C.size = n * s ∧ ∀ W : World, (Instr.makeSlice t (.int .i64 (n : Int)) (.int .i64 (n : Int))).run Tryz.prog W = .ok (.slice (some ⟨W.heap.size, 0, none⟩) n n) (W.alloc (.cells C e)) := by
  obtain ⟨i8, hi8, hz0, hz1, hz2⟩ := info_parts hi
  refine ⟨madeCells z.cells (n * s), size_madeCells _ _, fun W => ?_⟩
  have hbb : (i8.bytes : Int) * (n : Int) ≤ 281474976710656 := by
    rw [hz2]
    have h1 : b * n ≤ 1000 * 1000 := Nat.mul_le_mul hb hn
    rw [← Int.natCast_mul]
    generalize b * n = q at *
    omega
  rw [run_make W t e i8 z hu hi8 hz0 .i64 .i64 (n : Int) (n : Int) (by omega) (Int.le_refl _) hbb (by omega), hz1]
  simp

theorem Tryz.sizeInR : (Tryz.prog.info? 225).map (·.size) = some 1 := by kernel_rfl
set_option maxHeartbeats 800000 in
theorem ringIn_any (n : Nat) (w : World) (hn : n ≤ 1000) :
    Calls Tryz.prog 111 #[.int .i64 (n : Int)] w fun e w' => ∃ g, e = .returned (.agg #[.slice (some ⟨g, 0, none⟩) n n]) ∧ w.heap.size ≤ g ∧ (∃ C, Blk w' g C 187 ∧ C.size = n * 4) ∧ Below w.heap.size w w' := by
  obtain ⟨C, hC, hmk⟩ := made_row 223 187 _ 4 4 Tryz.underlying223 Tryz.infoIn3 (by omega) n hn
  go_enter Tryz.func111, Tryz.ntmps111
  go_wp2
  have hb := (Blk.new w #[.slice (some ⟨w.heap.size + 1, 0, none⟩) n n] 225).alloc (.cells C 187)
  refine bodyPost_ret (v := .agg #[.slice (some ⟨w.heap.size + 1, 0, none⟩) n n]) ?_ rfl ⟨w.heap.size + 1, rfl, by omega, ⟨C, ?_, hC⟩, ((Below.refl _ w).alloc (Nat.le_refl _) _).alloc (by simp) _⟩
  · exact results_cell_row Tryz.results111 _ _ w.heap.size 225 _ (0, 0) _ rfl hb Tryz.underlying225 rfl Tryz.sizeInR
  · have := Blk.new (w.alloc (.cells #[.slice (some ⟨w.heap.size + 1, 0, none⟩) n n] 225)) C 187
    simpa using this

theorem Tryz.sizeMemR : (Tryz.prog.info? 254).map (·.size) = some 1 := by kernel_rfl
set_option maxHeartbeats 800000 in
theorem ringMem_any (n : Nat) (w : World) (hn : n ≤ 1000) :
    Calls Tryz.prog 126 #[.int .i64 (n : Int)] w fun e w' => ∃ g, e = .returned (.agg #[.slice (some ⟨g, 0, none⟩) n n]) ∧ w.heap.size ≤ g ∧ (∃ C, Blk w' g C 106 ∧ C.size = n * 288) ∧ Below w.heap.size w w' := by
  obtain ⟨C, hC, hmk⟩ := made_row 252 106 _ 288 288 Tryz.underlying252 Tryz.infoMem3 (by omega) n hn
  go_enter Tryz.func126, Tryz.ntmps126
  go_wp2
  have hb := (Blk.new w #[.slice (some ⟨w.heap.size + 1, 0, none⟩) n n] 254).alloc (.cells C 106)
  refine bodyPost_ret (v := .agg #[.slice (some ⟨w.heap.size + 1, 0, none⟩) n n]) ?_ rfl ⟨w.heap.size + 1, rfl, by omega, ⟨C, ?_, hC⟩, ((Below.refl _ w).alloc (Nat.le_refl _) _).alloc (by simp) _⟩
  · exact results_cell_row Tryz.results126 _ _ w.heap.size 254 _ (0, 0) _ rfl hb Tryz.underlying254 rfl Tryz.sizeMemR
  · have := Blk.new (w.alloc (.cells #[.slice (some ⟨w.heap.size + 1, 0, none⟩) n n] 254)) C 106
    simpa using this

theorem Tryz.sizePgR : (Tryz.prog.info? 245).map (·.size) = some 1 := by kernel_rfl
set_option maxHeartbeats 800000 in
theorem ringPg_any (n : Nat) (w : World) (hn : n ≤ 1000) :
    Calls Tryz.prog 124 #[.int .i64 (n : Int)] w fun e w' => ∃ g, e = .returned (.agg #[.slice (some ⟨g, 0, none⟩) n n]) ∧ w.heap.size ≤ g ∧ (∃ C, Blk w' g C 248 ∧ C.size = n * 1) ∧ Below w.heap.size w w' := by
  obtain ⟨C, hC, hmk⟩ := made_row 243 248 _ 1 8 Tryz.underlying243 Tryz.infoPg3 (by omega) n hn
  go_enter Tryz.func124, Tryz.ntmps124
  go_wp2
  have hb := (Blk.new w #[.slice (some ⟨w.heap.size + 1, 0, none⟩) n n] 245).alloc (.cells C 248)
  refine bodyPost_ret (v := .agg #[.slice (some ⟨w.heap.size + 1, 0, none⟩) n n]) ?_ rfl ⟨w.heap.size + 1, rfl, by omega, ⟨C, ?_, hC⟩, ((Below.refl _ w).alloc (Nat.le_refl _) _).alloc (by simp) _⟩
  · exact results_cell_row Tryz.results124 _ _ w.heap.size 245 _ (0, 0) _ rfl hb Tryz.underlying245 rfl Tryz.sizePgR
  · have := Blk.new (w.alloc (.cells #[.slice (some ⟨w.heap.size + 1, 0, none⟩) n n] 245)) C 248
    simpa using this

/-! Parts laid into a struct. -/
theorem fold_put : ∀ (l : List Value) (off k : Nat) (z : Array Value), (l.zipIdx k).foldl (fun a (p : Value × Nat) => a.setIfInBounds (off + p.2) p.1) z = putA z (off + k) l
  | [], _, _, _ => rfl
  | v :: l, off, k, z => by
    rw [List.zipIdx_cons, List.foldl_cons, fold_put l off (k + 1) _]
    rfl
theorem fill_cons (place : Nat → Option (Nat × Nat)) (cells : Array Value) (i off size : Nat) (v : Value) (rest : List (Nat × Value)) (hp : place i = some (off, size)) (hs : v.cells.size = size) (hb : off + size ≤ cells.size) : Instr.fill place cells ((i, v) :: rest) = Instr.fill place (putA cells off v.cells.toList) rest := by
  rw [Instr.fill]
  simp only [hp]
  rw [if_neg (by simp [hs]; omega)]
  congr 1
  have := fold_put v.cells.toList off 0 cells
  rw [Nat.add_zero] at this
  rw [← this, ← Array.foldl_toList]
  congr 1
  simp
theorem build_struct (w : World) (t : TypeId) (fields : Array Field) (it : TypeInfo) (z : Value) (places : List (Nat × Nat)) (parts : Array (Nat × Value)) (res : Array Value) (hi : Tryz.prog.info? t = some it) (hz : it.zero = some z) (hu : Tryz.prog.underlying t = some (.struct fields))
    (hp : fields.toList.mapM (fun f => (Tryz.prog.info? f.type).map fun i => (f.offset, i.size)) = some places) (hf : Instr.fill (places.toArray[·]?) z.cells parts.toList = some res) : (Instr.build t parts).run Tryz.prog w = .ok (.agg res) w := by
  refine run_build w t parts res ?_
  unfold Program.built
  simp only [hi, hu, hz, hp]
  exact hf
end Go.Proofs.YtandblanpafjoabGreatDoor
