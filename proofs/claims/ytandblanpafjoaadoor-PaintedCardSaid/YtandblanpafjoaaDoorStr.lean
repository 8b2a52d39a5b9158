import Derived.Test.YtandblanpafjoaaDoorRDig
import Derived.Laws.BytesArg
namespace Go.Proofs.YtandblanpafjoaaDoor
open Go.RowKit Go.Extern.Stop Go.Stop Go.Extern

theorem room_bytes (s : ByteArray) : (((bytesOf s ++ [0, 0]).set s.size 77).set (s.size + 1) 88) = bytesOf s ++ [77, 88] := by
  rw [← bytesOf_len]
  simp

section
variable {P : Program}
theorem run_copy_str (w : World) (dT sT ty e : TypeId) (g dLen dCap : Nat) (s : ByteArray) (cur : List Int) (t : TypeId) (hu : P.underlying dT = some (.slice e)) (hs : (P.info? e).map (·.size) = some 1)
    (hg : Blk w g (nums .u8 cur) t) (hlen : s.size ≤ dLen) (hfit : s.size ≤ cur.length) :
    (Builtin.copy_ #[dT, sT] ty #[.slice (some ⟨g, 0, none⟩) dLen dCap, .string s]).run P w = .ok (goInt s.size) (w.setRow g (nums .u8 (bytesOf s ++ cur.drop s.size))) := by
  cases hq : P.info? e with
  | none => simp [hq] at hs
  | some i =>
    have hst := run_storeCells_at P g 0 t ((bytesOf s).map (.int .u8)) 0 (nums .u8 cur) w hg (by simp [nums_size, bytesOf_len]; omega) (nums_ones _ _)
    have hmin : Nat.min s.size dLen = s.size := Nat.min_eq_left hlen
    have hv : List.take s.size (s.data.toList.map fun b => Value.int .u8 (b.toNat : Int)) = (bytesOf s).map (.int .u8) := by
      rw [List.take_of_length_le (by simp)]; simp [bytesOf]
    simp only [Nat.zero_add, List.take_zero, List.nil_append, List.length_map, bytesOf_len] at hst
    have hfin : ((bytesOf s).map (Value.int .u8) ++ (nums .u8 cur).toList.drop s.size).toArray = nums .u8 (bytesOf s ++ cur.drop s.size) := by
      simp [nums, List.map_drop]
    rw [hfin] at hst
    simp [Builtin.copy_, run_underlying hu, Builtin.lenOf, sizeOf, typeInfo, hq, Builtin.firstCells, hmin, hv, hst]
end

set_option maxRecDepth 100000 in
set_option maxHeartbeats 400000 in
theorem roomy_any (s : ByteArray) (w : World) (hs : s.size ≤ 65536) :
    Calls Tryd.prog 20 #[.string s] w fun e w' => e = .returned (.slice (some ⟨w.heap.size, 0, none⟩) s.size (s.size + 2)) ∧ w' = w.alloc (.cells (nums .u8 (bytesOf s ++ [77, 88])) 5) := by
  obtain ⟨i8, hi8, hz8, hs8, hy8⟩ := info_parts Tryd.infoU8
  have hmk : ∀ W : World, (Instr.makeSlice 27 (.int .i64 ((s.size : Int) + 2)) (.int .i64 ((s.size : Int) + 2))).run Tryd.prog W = .ok (.slice (some ⟨W.heap.size, 0, none⟩) (s.size + 2) (s.size + 2)) (W.alloc (.cells (nums .u8 (List.replicate (s.size + 2) 0)) 5)) := fun W => by
    rw [run_make W 27 5 i8 (.int .u8 0) Tryd.underlying27 hi8 hz8 .i64 .i64 _ _ (by omega) (Int.le_refl _) (by rw [hy8]; omega) (by omega)]
    rw [show ((s.size : Int) + 2).toNat = s.size + 2 by omega, hs8, Nat.mul_one, show madeCells (Value.cells (.int .u8 0)) (s.size + 2) = nums .u8 (List.replicate (s.size + 2) 0) from made_zeros _]
  have hcp := run_copy_str (P := Tryd.prog) (w.alloc (.cells (nums .u8 (List.replicate (s.size + 2) 0)) 5)) 27 9 3 5 w.heap.size (s.size + 2) (s.size + 2) s _ 5 Tryd.underlying27 (by kernel_rfl) (Blk.new _ _ _) (by omega) (by simp)
  rw [World.setRow_alloc_new] at hcp
  have hx0 : (nums .u8 (bytesOf s ++ [0, 0]))[s.size]? = some (.int .u8 0) := by
    rw [nums_get _ _ _ (by simp [bytesOf_len])]; simp [← bytesOf_len]
  have hx1 : (nums .u8 (bytesOf s ++ [0, 0]))[s.size + 1]? = some (.int .u8 0) := by
    rw [nums_get _ _ _ (by simp [bytesOf_len])]; simp [← bytesOf_len]
  clear hi8 hz8 hs8 hy8
  go_enter Tryd.func20, Tryd.ntmps20
  go_wp2
  go_ret
  refine ⟨rfl, ?_⟩
  rw [nums_set, nums_set, room_bytes]

set_option maxRecDepth 100000 in
set_option maxHeartbeats 400000 in
theorem still_any (s : ByteArray) (g : Nat) (w : World) (hs : s.size ≤ 65536) (hblk : Blk w g (nums .u8 (bytesOf s ++ [77, 88])) 5) :
    Calls Tryd.prog 15 #[.slice (some ⟨g, 0, none⟩) s.size (s.size + 2), .string s] w fun e w' => e = .returned (.bool true) ∧ w' = w := by
  have hcv : (convert 27 9 (.slice (some ⟨g, 0, none⟩) s.size (s.size + 2))).run Tryd.prog w = .ok (.string s) w := by
    have := run_convert_bytes_arg w 27 5 Tryd.underlying27 Tryd.underlying5 g 0 s.size (s.size + 2) (bytesOf s) (bytesOf_len s) (fun i hi => by
      rw [Nat.zero_add, hblk.num i (by simp [bytesOf_len]; omega)]
      rw [List.getD_eq_getElem?_getD, List.getElem?_append_left (by rw [bytesOf_len]; exact hi)]; rfl) 9 Tryd.underlying9
    rw [strOf_bytes] at this
    exact this
  have hc0 : w.cell? ⟨g, s.size, none⟩ = some (.int .u8 77) := by
    rw [hblk.num _ (by simp [bytesOf_len])]; simp [← bytesOf_len]
  have hc1 : w.cell? ⟨g, s.size + 1, none⟩ = some (.int .u8 88) := by
    rw [hblk.num _ (by simp [bytesOf_len])]; simp [← bytesOf_len]
  clear hblk
  go_enter Tryd.func15, Tryd.ntmps15
  go_wp2
  go_ret
  exact ⟨rfl, rfl⟩
end Go.Proofs.YtandblanpafjoaaDoor
