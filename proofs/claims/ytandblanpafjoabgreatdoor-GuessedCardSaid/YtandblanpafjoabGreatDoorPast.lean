import Derived.Test.YtandblanpafjoabGreatDoorRingI
import Derived.Test.YtandblanpafjoabGreatDoorStP
namespace Go.Proofs.YtandblanpafjoabGreatDoor
open Go.RowKit Go.Extern.Stop Go.Stop Go.Extern

/-! What the stores share, in memory. -/
def stCells (n frame : Nat) (now : List Int) (pb win rb W : Nat) : List Value :=
  [.int .i64 (n : Int), .int .i64 (frame : Int)] ++ (now.map (Value.int .u8) ++ [.slice (some ⟨pb, 0, none⟩) win win, .slice (some ⟨rb, 0, none⟩) W W])
def StBlk (w : World) (sb : Nat) (t : TypeId) (n frame : Nat) (now : List Int) (pb win rb W : Nat) : Prop := now.length = 288 ∧ Blk w sb (stCells n frame now pb win rb W).toArray t
theorem StBlk.same {w w' : World} {sb n frame pb win rb W : Nat} {t : TypeId} {now : List Int} (h : StBlk w sb t n frame now pb win rb W) (hs : w'.heap[sb]? = w.heap[sb]?) : StBlk w' sb t n frame now pb win rb W := ⟨h.1, hs.trans h.2⟩
theorem StBlk.lt {w : World} {sb n frame pb win rb W : Nat} {t : TypeId} {now : List Int} (h : StBlk w sb t n frame now pb win rb W) : sb < w.heap.size := h.2.lt
theorem StBlk.c0 {w : World} {sb n frame pb win rb W : Nat} {t : TypeId} {now : List Int} (h : StBlk w sb t n frame now pb win rb W) : w.cell? ⟨sb, 0, none⟩ = some (.int .i64 (n : Int)) := h.2.cell 0
theorem StBlk.c1 {w : World} {sb n frame pb win rb W : Nat} {t : TypeId} {now : List Int} (h : StBlk w sb t n frame now pb win rb W) : w.cell? ⟨sb, 1, none⟩ = some (.int .i64 (frame : Int)) := h.2.cell 1
theorem StBlk.c290 {w : World} {sb n frame pb win rb W : Nat} {t : TypeId} {now : List Int} (h : StBlk w sb t n frame now pb win rb W) : w.cell? ⟨sb, 290, none⟩ = some (.slice (some ⟨pb, 0, none⟩) win win) := by
  rw [h.2.cell 290]
  simp only [stCells, List.getElem?_toArray]
  rw [List.getElem?_append_right (by simp), List.getElem?_append_right (by simp [h.1])]
  simp [h.1]
theorem StBlk.c291 {w : World} {sb n frame pb win rb W : Nat} {t : TypeId} {now : List Int} (h : StBlk w sb t n frame now pb win rb W) : w.cell? ⟨sb, 291, none⟩ = some (.slice (some ⟨rb, 0, none⟩) W W) := by
  rw [h.2.cell 291]
  simp only [stCells, List.getElem?_toArray]
  rw [List.getElem?_append_right (by simp), List.getElem?_append_right (by simp [h.1])]
  simp [h.1]
theorem StBlk.now {w : World} {sb n frame pb win rb W : Nat} {t : TypeId} {now : List Int} (h : StBlk w sb t n frame now pb win rb W) : w.rangeAt sb 2 (now.map (Value.int .u8)) := Blk.rangeAt (a := [.int .i64 (n : Int), .int .i64 (frame : Int)]) h.2
theorem StBlk.size {n frame pb win rb W : Nat} {now : List Int} (h : now.length = 288) : (stCells n frame now pb win rb W).toArray.size = 292 := by simp [stCells, h]
theorem StBlk.there {w : World} {sb n frame pb win rb W : Nat} {t : TypeId} {now : List Int} (h : StBlk w sb t n frame now pb win rb W) : w.there sb 2 288 := h.2.there (by rw [StBlk.size h.1]; omega)
theorem StBlk.frozen {w : World} {sb n frame pb win rb W : Nat} {t : TypeId} {now : List Int} (h : StBlk w sb t n frame now pb win rb W) (i : Nat) : w.frozen? ⟨sb, i, none⟩ = false := h.2.frozen i
theorem StBlk.putNow {w : World} {sb n frame pb win rb W : Nat} {t : TypeId} {now : List Int} (h : StBlk w sb t n frame now pb win rb W) (now' : List Int) (hl : now'.length = 288) : StBlk (w.setCells sb 2 (now'.map (Value.int .u8))) sb t n frame now' pb win rb W :=
  ⟨hl, Blk.mid (a := [.int .i64 (n : Int), .int .i64 (frame : Int)]) h.2 (now'.map (Value.int .u8)) (by simp [hl, h.1])⟩
theorem StBlk.putFrame {w : World} {sb n frame pb win rb W : Nat} {t : TypeId} {now : List Int} (h : StBlk w sb t n frame now pb win rb W) (f : Nat) : StBlk (w.setCell ⟨sb, 1, none⟩ (.int .i64 (f : Int))) sb t n f now pb win rb W := by
  refine ⟨h.1, ?_⟩
  have := h.2.set 1 (.int .i64 (f : Int))
  simpa [stCells] using this

set_option maxHeartbeats 1000000 in
theorem frame_any (sb n frame pb win rb W : Nat) (t : TypeId) (now : List Int) (w : World) (h : StBlk w sb t n frame now pb win rb W) :
    Calls Tryz.prog 180 #[.pointer (some ⟨sb, 0, none⟩)] w fun e w' => e = .returned (.int .i64 (frame : Int)) ∧ w' = w := by
  have h1 := h.c1
  clear h
  go_enter Tryz.func180, Tryz.ntmps180
  go_wp2
  go_ret
  exact ⟨rfl, rfl⟩

set_option maxHeartbeats 1000000 in
theorem played_any (sb n frame pb win rb W f : Nat) (t : TypeId) (now : List Int) (a b c d : Int) (w : World) (h : StBlk w sb t n frame now pb win rb W) (hW : 0 < win) (hr : w.rangeAt pb (f % win * 4) ([a, b, c, d].map (Value.int .u8))) :
    Calls Tryz.prog 182 #[.pointer (some ⟨sb, 0, none⟩), .int .i64 (f : Int)] w fun e w' => e = .returned (.agg (nums .u8 [a, b, c, d])) ∧ Below w.heap.size w w' := by
  have h1 := h.c290
  have hz := Tryz.zeroIn
  have hlt := h.lt
  have h1' : (w.alloc (.cells (nums .u8 Z4u) 187)).cell? ⟨sb, 290, none⟩ = some (.slice (some ⟨pb, 0, none⟩) win win) := by rw [World.cell?_alloc_lt _ _ _ hlt]; exact h1
  clear h h1
  go_enter Tryz.func182, Tryz.ntmps182
  go_wp2_with fail
  refine (rat_in pb win f a b c d _ hW (World.rangeAt_alloc hr _)).mono ?_
  rintro e w1 ⟨rfl, hb1⟩
  have hblk : Blk w1 w.heap.size (nums .u8 Z4u) 187 := (Blk.new w (nums .u8 Z4u) 187).below (by simp) hb1
  have hbel : Below w.heap.size w w1 := ((Below.refl _ _).alloc (Nat.le_refl _) _).trans (hb1.mono (by simp))
  go_wp2_with (first | (refine wpList_store_blk rfl 187 _ _ rfl w.heap.size 187 (nums .u8 Z4u) (nums .u8 [a, b, c, d]) rfl rfl hblk (Tryz.sizeIn _ rfl) (by rw [nums_size, nums_size]; rfl) (nums_one _ _) ?_))
  refine bodyPost_ret (v := .agg (nums .u8 [a, b, c, d])) ?_ rfl ⟨rfl, ?_⟩
  · exact results_cell_row Tryz.results182 _ _ w.heap.size 187 _ (0, 0) _ rfl (hblk.setRow _) Tryz.underlying187 rfl (Tryz.sizeIn _ rfl)
  · exact below_setRow hbel (Nat.le_refl _) _
end Go.Proofs.YtandblanpafjoabGreatDoor
