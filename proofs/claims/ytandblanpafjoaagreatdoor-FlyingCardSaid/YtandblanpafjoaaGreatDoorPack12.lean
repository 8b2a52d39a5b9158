import Derived.Test.YtandblanpafjoaaGreatDoorPack10
import Derived.Test.YtandblanpafjoaaGreatDoorPack11
import Derived.Test.YtandblanpafjoaaGreatDoorPack02
namespace Go.Proofs.YtandblanpafjoaaGreatDoor
open Go.RowKit Go.Extern.Stop Go.Stop Go.Extern
def stCells (n frame : Nat) (now : List Int) (pb win rb W : Nat) : List Value :=
  [.int .i64 (n : Int), .int .i64 (frame : Int)] ++ (now.map (Value.int .u8) ++ [.slice (some ⟨pb, 0, none⟩) win win, .slice (some ⟨rb, 0, none⟩) W W])
def StBlk (w : World) (sb : Nat) (t : TypeId) (n frame : Nat) (now : List Int) (pb win rb W : Nat) : Prop := now.length = 288 ∧ Blk w sb (stCells n frame now pb win rb W).toArray t
theorem StBlk.same {w w' : World} {sb n frame pb win rb W : Nat} {t : TypeId} {now : List Int} (h : StBlk w sb t n frame now pb win rb W) (hs : w'.heap[sb]? = w.heap[sb]?) : StBlk w' sb t n frame now pb win rb W := ⟨h.1, hs.trans h.2⟩
theorem StBlk.lt {w : World} {sb n frame pb win rb W : Nat} {t : TypeId} {now : List Int} (h : StBlk w sb t n frame now pb win rb W) : sb < w.heap.size := h.2.lt
theorem StBlk.c0 {w : World} {sb n frame pb win rb W : Nat} {t : TypeId} {now : List Int} (h : StBlk w sb t n frame now pb win rb W) : w.cell? ⟨sb, 0, none⟩ = some (.int .i64 (n : Int)) := h.2.cell 0
theorem StBlk.c1 {w : World} {sb n frame pb win rb W : Nat} {t : TypeId} {now : List Int} (h : StBlk w sb t n frame now pb win rb W) : w.cell? ⟨sb, 1, none⟩ = some (.int .i64 (frame : Int)) := h.2.cell 1
theorem StBlk.c290 {w : World} {sb n frame pb win rb W : Nat} {t : TypeId} {now : List Int} (h : StBlk w sb t n frame now pb win rb W) : w.cell? ⟨sb, 290, none⟩ = some (.slice (some ⟨pb, 0, none⟩) win win) := by
  rw [h.2.cell 290]
  simp only [stCells, List.getElem?_toArray]
  rw [List.getElem?_append_right (by simp), List.getElem?_append_right (by simp [h.1])]
  simp [h.1]
theorem StBlk.c291 {w : World} {sb n frame pb win rb W : Nat} {t : TypeId} {now : List Int} (h : StBlk w sb t n frame now pb win rb W) : w.cell? ⟨sb, 291, none⟩ = some (.slice (some ⟨rb, 0, none⟩) W W) := by
  rw [h.2.cell 291]
  simp only [stCells, List.getElem?_toArray]
  rw [List.getElem?_append_right (by simp), List.getElem?_append_right (by simp [h.1])]
  simp [h.1]
theorem StBlk.now {w : World} {sb n frame pb win rb W : Nat} {t : TypeId} {now : List Int} (h : StBlk w sb t n frame now pb win rb W) : w.rangeAt sb 2 (now.map (Value.int .u8)) := Blk.rangeAt (a := [.int .i64 (n : Int), .int .i64 (frame : Int)]) h.2
theorem StBlk.size {n frame pb win rb W : Nat} {now : List Int} (h : now.length = 288) : (stCells n frame now pb win rb W).toArray.size = 292 := by simp [stCells, h]
theorem StBlk.there {w : World} {sb n frame pb win rb W : Nat} {t : TypeId} {now : List Int} (h : StBlk w sb t n frame now pb win rb W) : w.there sb 2 288 := h.2.there (by rw [StBlk.size h.1]; omega)
theorem StBlk.frozen {w : World} {sb n frame pb win rb W : Nat} {t : TypeId} {now : List Int} (h : StBlk w sb t n frame now pb win rb W) (i : Nat) : w.frozen? ⟨sb, i, none⟩ = false := h.2.frozen i
theorem StBlk.putNow {w : World} {sb n frame pb win rb W : Nat} {t : TypeId} {now : List Int} (h : StBlk w sb t n frame now pb win rb W) (now' : List Int) (hl : now'.length = 288) : StBlk (w.setCells sb 2 (now'.map (Value.int .u8))) sb t n frame now' pb win rb W :=
  ⟨hl, Blk.mid (a := [.int .i64 (n : Int), .int .i64 (frame : Int)]) h.2 (now'.map (Value.int .u8)) (by simp [hl, h.1])⟩
theorem StBlk.putFrame {w : World} {sb n frame pb win rb W : Nat} {t : TypeId} {now : List Int} (h : StBlk w sb t n frame now pb win rb W) (f : Nat) : StBlk (w.setCell ⟨sb, 1, none⟩ (.int .i64 (f : Int))) sb t n f now pb win rb W := by
  refine ⟨h.1, ?_⟩
  have := h.2.set 1 (.int .i64 (f : Int))
  simpa [stCells] using this
set_option maxHeartbeats 1000000 in
theorem played_any (sb n frame pb win rb W f : Nat) (t : TypeId) (now : List Int) (a b c d : Int) (w : World) (h : StBlk w sb t n frame now pb win rb W) (hW : 0 < win) (hr : w.rangeAt pb (f % win * 4) ([a, b, c, d].map (Value.int .u8))) :
    Calls Tryz.prog 196 #[.pointer (some ⟨sb, 0, none⟩), .int .i64 (f : Int)] w fun e w' => e = .returned (.agg (nums .u8 [a, b, c, d])) ∧ Below w.heap.size w w' := by
  have h1 := h.c290
  have hz := Tryz.zeroIn
  have hlt := h.lt
  have h1' : (w.alloc (.cells (nums .u8 Z4u) 199)).cell? ⟨sb, 290, none⟩ = some (.slice (some ⟨pb, 0, none⟩) win win) := by rw [World.cell?_alloc_lt _ _ _ hlt]; exact h1
  clear h h1
  go_enter Tryz.func196, Tryz.ntmps196
  go_wp2_with fail
  refine (rat_in pb win f a b c d _ hW (World.rangeAt_alloc hr _)).mono ?_
  rintro e w1 ⟨rfl, hb1⟩
  have hblk : Blk w1 w.heap.size (nums .u8 Z4u) 199 := (Blk.new w (nums .u8 Z4u) 199).below (by simp) hb1
  have hbel : Below w.heap.size w w1 := ((Below.refl _ _).alloc (Nat.le_refl _) _).trans (hb1.mono (by simp))
  go_wp2_with (first | (refine wpList_store_blk rfl 199 _ _ rfl w.heap.size 199 (nums .u8 Z4u) (nums .u8 [a, b, c, d]) rfl rfl hblk (Tryz.sizeIn _ rfl) (by rw [nums_size, nums_size]; rfl) (nums_one _ _) ?_))
  refine bodyPost_ret (v := .agg (nums .u8 [a, b, c, d])) ?_ rfl ⟨rfl, ?_⟩
  · exact results_cell_row Tryz.results196 _ _ w.heap.size 199 _ (0, 0) _ rfl (hblk.setRow _) Tryz.underlying199 rfl (Tryz.sizeIn _ rfl)
  · exact below_setRow hbel (Nat.le_refl _) _
end Go.Proofs.YtandblanpafjoaaGreatDoor

namespace Go.Proofs.YtandblanpafjoaaGreatDoor
open Go.RowKit Go.Extern.Stop Go.Stop Go.Extern
def pad4 (n : Nat) (ins : List Int) : List Int := ins ++ List.replicate (4 - n) 0
theorem pad4_len {n : Nat} {ins : List Int} (h : ins.length = n) (hn : n ≤ 4) : (pad4 n ins).length = 4 := by simp [pad4, h]; omega
theorem pad4_get {n : Nat} {ins : List Int} (h : ins.length = n) (j : Nat) (hj : j < n) : (pad4 n ins).getD j 0 = ins.getD j 0 := by
  simp [pad4, List.getD_eq_getElem?_getD, List.getElem?_append_left (by omega : j < ins.length)]
theorem four {l : List Int} (h : l.length = 4) : ∃ a b c d, l = [a, b, c, d] := by
  match l, h with
  | [a, b, c, d], _ => exact ⟨a, b, c, d, rfl⟩
theorem cell_keep {W' W2 : World} {b i g o : Nat} {v : Value} {x : List Value} (h : W'.cell? ⟨b, i, none⟩ = some v) (hb : Below W'.heap.size W' W2) (hne : b ≠ g) : (W2.setCells g o x).cell? ⟨b, i, none⟩ = some v := by
  rw [World.cell?_setCells_out g x o W2 _ (fun e => absurd e hne), hb.cell (p := ⟨b, i, none⟩) (World.block_lt_of_cell? W' _ h)]; exact h
theorem there_below {W' W2 : World} {g o n : Nat} (h : W'.there g o n) (hg : g < W'.heap.size) (hb : Below W'.heap.size W' W2) : W2.there g o n := fun j hj => by
  rw [hb.cell (p := ⟨g, o + j, none⟩) hg, hb.frozen (p := ⟨g, o + j, none⟩) hg]; exact h j hj
theorem keep_step {W' W2 : World} {sb pb bx o : Nat} {u v a b c d : Value} {x : List Value} (h : W'.cell? ⟨sb, 290, none⟩ = some u ∧ W'.cell? ⟨sb, 1, none⟩ = some v ∧ W'.cell? ⟨bx, 0, none⟩ = some a ∧ W'.cell? ⟨bx, 1, none⟩ = some b ∧ W'.cell? ⟨bx, 2, none⟩ = some c ∧ W'.cell? ⟨bx, 3, none⟩ = some d ∧ W'.there pb o 4 ∧ pb < W'.heap.size)
    (hb : Below W'.heap.size W' W2) (h1 : sb ≠ pb) (h2 : bx ≠ pb) :
    (W2.setCells pb o x).cell? ⟨sb, 290, none⟩ = some u ∧ (W2.setCells pb o x).cell? ⟨sb, 1, none⟩ = some v ∧ (W2.setCells pb o x).cell? ⟨bx, 0, none⟩ = some a ∧ (W2.setCells pb o x).cell? ⟨bx, 1, none⟩ = some b ∧ (W2.setCells pb o x).cell? ⟨bx, 2, none⟩ = some c ∧ (W2.setCells pb o x).cell? ⟨bx, 3, none⟩ = some d ∧ (W2.setCells pb o x).there pb o 4 ∧ pb < (W2.setCells pb o x).heap.size := by
  obtain ⟨k1, k2, k3, k4, k5, k6, k7, k8⟩ := h
  exact ⟨cell_keep k1 hb h1, cell_keep k2 hb h1, cell_keep k3 hb h2, cell_keep k4 hb h2, cell_keep k5 hb h2, cell_keep k6 hb h2, World.there_setCells (there_below k7 k8 hb) _ _ _, by rw [size_setCells]; have := hb.size; omega⟩
set_option maxRecDepth 10000 in
set_option maxHeartbeats 2000000 in
theorem step_any (sb n frame pb win rb W : Nat) (t : TypeId) (now ins : List Int) (w : World) (h : StBlk w sb t n frame now pb win rb W) (hn2 : 2 ≤ n) (hn : n ≤ 4) (hg : Good now n) (hl : ins.length = n)
    (hri : ∀ j : Nat, 0 ≤ ins.getD j 0 ∧ ins.getD j 0 ≤ 255) (hW : 0 < win) (hf : frame ≤ 1000) (hp : w.there pb (frame % win * 4) 4) (hpb : pb < w.heap.size) (hne : pb ≠ sb) :
    Calls Tryz.prog 199 #[.pointer (some ⟨sb, 0, none⟩), .agg (nums .u8 (pad4 n ins))] w fun e w' => e = .returned (.tuple #[]) ∧ ∃ W1 W2, Below w.heap.size w W1 ∧ Below w.heap.size (W1.setCells pb (frame % win * 4) ((pad4 n ins).map (Value.int .u8))) W2 ∧
      w' = (W2.setCells sb 2 ((frameL now n ins).map (Value.int .u8))).setCell ⟨sb, 1, none⟩ (.int .i64 ((frame + 1 : Nat) : Int)) := by
  obtain ⟨a, b, c, d, e4⟩ := four (pad4_len hl hn)
  have hge : ∀ j, j < n → [a, b, c, d].getD j 0 = ins.getD j 0 := fun j hj => by rw [← e4]; exact pad4_get hl j hj
  rw [e4]
  clear e4
  have hlt := h.lt
  have HB := hide h
  have hbx : Blk (w.alloc (.cells (nums .u8 [a, b, c, d]) 199)) w.heap.size (nums .u8 [a, b, c, d]) 199 := Blk.new _ _ _
  have h1 : StBlk (w.alloc (.cells (nums .u8 [a, b, c, d]) 199)) sb t n frame now pb win rb W := h.same (((Below.refl _ w).alloc (Nat.le_refl _) _).block sb hlt)
  have hth1 := World.there_alloc hp (.cells (nums .u8 [a, b, c, d]) 199)
  have hb1 : Below w.heap.size w (w.alloc (.cells (nums .u8 [a, b, c, d]) 199)) := (Below.refl _ w).alloc (Nat.le_refl _) _
  have hs1 : (w.alloc (.cells (nums .u8 [a, b, c, d]) 199)).heap.size = w.heap.size + 1 := by simp
  clear h hp
  go_enter Tryz.func199, Tryz.ntmps199
  go_wp2_with fail
  generalize (w.alloc (.cells (nums .u8 [a, b, c, d]) 199)) = W1 at *
  have k1 := h1.c1
  have k290 := h1.c290
  have r0 : W1.cell? ⟨w.heap.size, 0, none⟩ = some (.int .u8 a) := hbx.cell 0
  have r1 : W1.cell? ⟨w.heap.size, 1, none⟩ = some (.int .u8 b) := hbx.cell 1
  have r2 : W1.cell? ⟨w.heap.size, 2, none⟩ = some (.int .u8 c) := hbx.cell 2
  have r3 : W1.cell? ⟨w.heap.size, 3, none⟩ = some (.int .u8 d) := hbx.cell 3
  have hp1 : pb < W1.heap.size := by omega
  have HS1 := hide hs1
  clear hs1
  have hx1 : w.heap.size ≠ pb := by omega
  have hfr : (frame : Int) = ((frame : Nat) : Int) := rfl
  go_region_held3 (fun W' => W'.cell? ⟨sb, 290, none⟩ = some (.slice (some ⟨pb, 0, none⟩) win win) ∧ W'.cell? ⟨sb, 1, none⟩ = some (.int .i64 (frame : Int)) ∧ W'.cell? ⟨w.heap.size, 0, none⟩ = some (.int .u8 a) ∧ W'.cell? ⟨w.heap.size, 1, none⟩ = some (.int .u8 b) ∧ W'.cell? ⟨w.heap.size, 2, none⟩ = some (.int .u8 c) ∧ W'.cell? ⟨w.heap.size, 3, none⟩ = some (.int .u8 d) ∧ W'.there pb (frame % win * 4) 4 ∧ pb < W'.heap.size)
    (first | go_keep | exact keep_step (by assumption) (by assumption) (Ne.symm hne) hx1)
    (first | (go_at_call 192; refine (rput_in pb win frame a b c d _ hW (by assumption) (by assumption)).mono ?_; rintro e w' ⟨rfl, W2, hb2, rfl⟩))
  have hs2 := hb2.size
  simp only [World.size_drew] at hs2
  have hbW : Below w.heap.size w W2 := hb1.drew.trans (hb2.mono (by have := unhide HS1; simp; omega))
  have h2 : StBlk W2 sb t n frame now pb win rb W := h1.same (hb2.block sb (by simp [unhide HS1]; omega))
  have hx2 : Blk W2 w.heap.size (nums .u8 [a, b, c, d]) 199 := hbx.drew.below (by simp [unhide HS1]) hb2
  have h3 : StBlk (W2.setCells pb (frame % win * 4) ([a, b, c, d].map (Value.int .u8))) sb t n frame now pb win rb W := h2.same (heap_setCells_other (Ne.symm hne) _ _ _)
  have hx3 : Blk (W2.setCells pb (frame % win * 4) ([a, b, c, d].map (Value.int .u8))) w.heap.size (nums .u8 [a, b, c, d]) 199 := (heap_setCells_other hx1 _ _ _).trans hx2
  have hz3 : w.heap.size + 1 ≤ (W2.setCells pb (frame % win * 4) ([a, b, c, d].map (Value.int .u8))).heap.size := by rw [size_setCells]; have := unhide HS1; omega
  clear h1 h2 hbx hx2 k1 k290 r0 r1 r2 r3 hth1 hb1 hb2 hp1
  go_wp2_with fail
  obtain ⟨W3, hW3⟩ : ∃ W3, W2.setCells pb (frame % win * 4) ([a, b, c, d].map (Value.int .u8)) = W3 := ⟨_, rfl⟩
  have HW3 := hide hW3
  simp only [List.map_cons, List.map_nil] at hW3
  rw [hW3]
  rw [unhide HW3] at h3 hx3 hz3
  clear hW3
  have HBW := hide hbW
  have HH3 := hide h3
  have HX3 := hide hx3
  have k0 := h3.c0
  have hnI0 : (0 : Int) ≤ (n : Int) := by omega
  have hnI : (n : Int) ≤ 4 := by omega
  have hlF : (frameL now n ins).length = 288 := (good_frame hg ins hn).len
  have hcN : Hid (∀ j, j < n → W3.drew.cell? ⟨w.heap.size, j, none⟩ = some (.int .u8 (ins.getD j 0))) := hide fun j hj => by
    rw [show W3.drew.cell? ⟨w.heap.size, j, none⟩ = W3.cell? ⟨w.heap.size, j, none⟩ from rfl, hx3.num j (by simp; omega), hge j hj]
  have HZ3 := hide hz3
  clear h3 hx3 hz3 hbW hge
  have hrg := (unhide HH3).now
  have hrl := (unhide HH3).1
  refine wp_move_reads_tail 10 _ _ rfl rfl rfl (by kernel_rfl) (by kernel_rfl) (by decide) (by kernel_rfl) (by kernel_rfl) (by kernel_rfl) (by kernel_rfl) (by kernel_rfl) (by kernel_rfl) (fun _ _ _ _ h => h) ?_
  simp only [List.take_succ_cons, List.take_zero, List.drop_succ_cons, List.drop_zero]
  still_step
  still_step
  still_step
  refine wpStill_load_mid rfl 209 _ rfl sb 2 rfl (now.map (Value.int .u8)) _ ((World.rangeAt_drew _ _ _ _).2 hrg) Tryz.underlying209 rfl (by rw [List.length_map, hrl]; exact (zero_of_info Tryz.infoMem).2) ?_
  repeat still_step
  refine wpStill_nil ?_
  go_wp2_with fail
  refine (next_any w.heap.size n 4 now ins _ hn hg hl hri (by have := unhide HZ3; simp; omega) (unhide hcN)).mono ?_
  rintro e w4 ⟨rfl, hb4⟩
  have h4 : StBlk w4 sb t n frame now pb win rb W := (unhide HH3).same (hb4.block sb (by have := unhide HZ3; simp; omega))
  have h5 : StBlk (w4.setCells sb 2 (nums .u8 (frameL now n ins)).toList) sb t n frame (frameL now n ins) pb win rb W := h4.putNow (frameL now n ins) hlF
  have c5 := h5.c1
  have f5 := h5.frozen 1
  have HB4 := hide hb4
  have HTH := hide h4.there
  clear h4 hb4 k0 hrg
  go_wp2_with (first | (refine wpList_store_mid rfl 209 _ _ rfl sb 2 (nums .u8 (frameL now n ins)) rfl rfl (by rw [nums_size, hlF]; exact unhide HTH) (Tryz.sizeMem _ hlF) (nums_one _ _) ?_))
  go_end0
  refine ⟨rfl, W2, w4, unhide HBW, ?_, ?_⟩
  · have := (unhide HB4).mono (B' := w.heap.size) (by have := unhide HZ3; simp; omega)
    rw [← unhide HW3] at this
    exact ⟨this.os, this.tape, this.output, this.size, this.block⟩
  · rfl
end Go.Proofs.YtandblanpafjoaaGreatDoor

namespace Go.Proofs.YtandblanpafjoaaGreatDoor
open Go.RowKit Go.Extern.Stop Go.Stop Go.Extern
def insV (n : Nat) (l : List Int) : List Value := (pad4 n l).map (Value.int .u8)
def memV (l : List Int) : List Value := l.map (Value.int .u8)
def updF (fs : Nat → List Int) (k : Nat) (l : List Int) : Nat → List Int := fun f => if f = k then l else fs f
theorem updF_same (fs : Nat → List Int) (k : Nat) (l : List Int) : updF fs k l k = l := by simp [updF]
theorem updF_other (fs : Nat → List Int) (k f : Nat) (l : List Int) (h : f ≠ k) : updF fs k l f = fs f := by simp [updF, h]
theorem stF_upd (n : Nat) (fs : Nat → List Int) (k f : Nat) (l : List Int) (h : f ≤ k) : stF n (updF fs k l) f = stF n fs f := stF_congr f (fun j hj => updF_other _ _ _ _ (by omega))
theorem stF_next (n : Nat) (fs : Nat → List Int) (k : Nat) (l : List Int) : stF n (updF fs k l) (k + 1) = frameL (stF n fs k) n l := by
  rw [stF, stF_upd n fs k k l (Nat.le_refl _), updF_same]
theorem insV_len {n : Nat} {l : List Int} (h : l.length = n) (hn : n ≤ 4) : (insV n l).length = 4 := by rw [insV, List.length_map, pad4_len h hn]
theorem memV_len {l : List Int} (h : l.length = 288) : (memV l).length = 288 := by rw [memV, List.length_map, h]
theorem step_at (sb n frame pb win rb W lo : Nat) (t : TypeId) (now ins : List Int) (el : Nat → List Value) (w : World) (h : StBlk w sb t n frame now pb win rb W) (hr : RingAt w pb 199 win 4 lo frame el) (hel : ∀ f, lo ≤ f → f < frame → (el f).length = 4) (hlo : frame < lo + win)
    (hn2 : 2 ≤ n) (hn : n ≤ 4) (hg : Good now n) (hl : ins.length = n) (hri : ∀ j : Nat, 0 ≤ ins.getD j 0 ∧ ins.getD j 0 ≤ 255) (hW : 0 < win) (hf : frame ≤ 1000) (hne : pb ≠ sb) :
    Calls Tryz.prog 199 #[.pointer (some ⟨sb, 0, none⟩), .agg (nums .u8 (pad4 n ins))] w fun e w' => e = .returned (.tuple #[]) ∧ Chg (fun k => k = sb ∨ k = pb) w w' ∧ StBlk w' sb t n (frame + 1) (frameL now n ins) pb win rb W ∧
      RingAt w' pb 199 win 4 lo (frame + 1) (fun f => if f = frame then insV n ins else el f) := by
  have hpl : pb < w.heap.size := by obtain ⟨cs, h1, _⟩ := hr.blk; exact h1.lt
  refine (step_any sb n frame pb win rb W t now ins w h hn2 hn hg hl hri hW hf (hr.there hW frame) hpl hne).mono ?_
  rintro e w' ⟨rfl, W1, W2, hb1, hb2, rfl⟩
  have s1 : StBlk W1 sb t n frame now pb win rb W := h.same (hb1.block sb h.lt)
  have r1 : RingAt W1 pb 199 win 4 lo frame el := hr.same (hb1.block pb hpl)
  have r2 := r1.put hW (insV n ins) (insV_len hl hn) hel hlo
  have s2 : StBlk (W1.setCells pb (frame % win * 4) ((pad4 n ins).map (Value.int .u8))) sb t n frame now pb win rb W := s1.same (heap_setCells_other (Ne.symm hne) _ _ _)
  have s3 : StBlk W2 sb t n frame now pb win rb W := s2.same (hb2.block sb h.lt)
  have r3 : RingAt W2 pb 199 win 4 lo (frame + 1) (fun f => if f = frame then insV n ins else el f) := r2.same (hb2.block pb hpl)
  refine ⟨rfl, ?_, (s3.putNow _ (good_frame hg ins hn).len).putFrame (frame + 1), r3.same ?_⟩
  · exact ((((Chg.ofBelow hb1).thenCells pb _ _ (.inr rfl)).thenBelow hb2).thenCells sb _ _ (.inl rfl)).thenCell sb 1 _ (.inl rfl)
  · rw [heap_setCell_other _ _ _ _ (fun e => hne e), heap_setCells_other hne]
structure FullAt (w : World) (sb : Nat) (F : Nat → Prop) (n win lo frame : Nat) (fs : Nat → List Int) (pb rb : Nat) : Prop where
  blk : StBlk w sb 268 n frame (stF n fs frame) pb win rb win
  pl : RingAt w pb 199 win 4 lo frame (fun f => insV n (fs f))
  st : RingAt w rb 209 win 288 lo frame (fun f => memV (stF n fs f))
  ne1 : sb ≠ pb
  ne2 : sb ≠ rb
  ne3 : pb ≠ rb
  f1 : F sb
  f2 : F pb
  f3 : F rb
theorem RingAt.lt {w : World} {g : Nat} {t : TypeId} {W s lo hi : Nat} {el : Nat → List Value} (h : RingAt w g t W s lo hi el) : g < w.heap.size := by
  obtain ⟨cs, h1, _⟩ := h.blk; exact h1.lt
theorem FullAt.same {w w' : World} {sb : Nat} {F : Nat → Prop} {n win lo frame : Nat} {fs : Nat → List Int} {pb rb : Nat} (h : FullAt w sb F n win lo frame fs pb rb) (hs : Same F w w') : FullAt w' sb F n win lo frame fs pb rb :=
  ⟨h.blk.same (hs _ h.f1), h.pl.same (hs _ h.f2), h.st.same (hs _ h.f3), h.ne1, h.ne2, h.ne3, h.f1, h.f2, h.f3⟩
theorem FullAt.congr {w : World} {sb : Nat} {F : Nat → Prop} {n win lo frame : Nat} {fs gs : Nat → List Int} {pb rb : Nat} (h : FullAt w sb F n win lo frame fs pb rb) (he : ∀ f, f < frame → gs f = fs f) : FullAt w sb F n win lo frame gs pb rb :=
  ⟨by rw [stF_congr (gs := fs) frame he]; exact h.blk, h.pl.congr (fun f _ hf => by rw [he f hf]), h.st.congr (fun f _ hf => by rw [stF_congr (gs := fs) f (fun k hk => he k (by omega))]), h.ne1, h.ne2, h.ne3, h.f1, h.f2, h.f3⟩
theorem keep_put {W' W2 : World} {sb rb bx o : Nat} {u v a b c d : Value} {x nw : List Value} (h : W'.cell? ⟨sb, 291, none⟩ = some u ∧ W'.cell? ⟨sb, 1, none⟩ = some v ∧ W'.rangeAt sb 2 nw ∧ W'.cell? ⟨bx, 0, none⟩ = some a ∧ W'.cell? ⟨bx, 1, none⟩ = some b ∧ W'.cell? ⟨bx, 2, none⟩ = some c ∧ W'.cell? ⟨bx, 3, none⟩ = some d ∧ W'.there rb o 288 ∧ rb < W'.heap.size ∧ sb < W'.heap.size)
    (hb : Below W'.heap.size W' W2) (h1 : sb ≠ rb) (h2 : bx ≠ rb) :
    (W2.setCells rb o x).cell? ⟨sb, 291, none⟩ = some u ∧ (W2.setCells rb o x).cell? ⟨sb, 1, none⟩ = some v ∧ (W2.setCells rb o x).rangeAt sb 2 nw ∧ (W2.setCells rb o x).cell? ⟨bx, 0, none⟩ = some a ∧ (W2.setCells rb o x).cell? ⟨bx, 1, none⟩ = some b ∧ (W2.setCells rb o x).cell? ⟨bx, 2, none⟩ = some c ∧ (W2.setCells rb o x).cell? ⟨bx, 3, none⟩ = some d ∧ (W2.setCells rb o x).there rb o 288 ∧ rb < (W2.setCells rb o x).heap.size ∧ sb < (W2.setCells rb o x).heap.size := by
  obtain ⟨k1, k2, kr, k3, k4, k5, k6, k7, k8, k9⟩ := h
  exact ⟨cell_keep k1 hb h1, cell_keep k2 hb h1, World.rangeAt_setCells_apart (rangeAt_same kr (hb.block sb k9)) _ _ _ (.inl h1), cell_keep k3 hb h2, cell_keep k4 hb h2, cell_keep k5 hb h2, cell_keep k6 hb h2, World.there_setCells (there_below k7 k8 hb) _ _ _, by rw [size_setCells]; have := hb.size; omega, by rw [size_setCells]; have := hb.size; omega⟩
set_option maxRecDepth 10000 in
set_option maxHeartbeats 2000000 in
theorem fplay_any (sb n win lo lo' frame pb rb : Nat) (F : Nat → Prop) (fs : Nat → List Int) (ins : List Int) (w : World) (h : FullAt w sb F n win lo frame fs pb rb) (hn2 : 2 ≤ n) (hn : n ≤ 4) (hl : ins.length = n) (hfs : ∀ f, f < frame → (fs f).length = n)
    (hri : ∀ j : Nat, 0 ≤ ins.getD j 0 ∧ ins.getD j 0 ≤ 255) (hW : 0 < win) (hf : frame ≤ 1000) (hlo : lo ≤ lo') (hlo' : frame < lo' + win) :
    Calls Tryz.prog 209 #[.pointer (some ⟨sb, 0, none⟩), .agg (nums .u8 (pad4 n ins))] w fun e w' => e = .returned (.tuple #[]) ∧ Chg F w w' ∧ FullAt w' sb F n win lo' (frame + 1) (updF fs frame ins) pb rb := by
  obtain ⟨a, b, c, d, e4⟩ := four (pad4_len hl hn)
  have HB := hide h
  have hlt := h.blk.lt
  have hrl := h.st.lt
  have hpl := h.pl.lt
  have hne := h.ne2
  have hln := h.blk.1
  have hbx : Blk (w.alloc (.cells (nums .u8 [a, b, c, d]) 199)) w.heap.size (nums .u8 [a, b, c, d]) 199 := Blk.new _ _ _
  have hb1 : Below w.heap.size w (w.alloc (.cells (nums .u8 [a, b, c, d]) 199)) := (Below.refl _ w).alloc (Nat.le_refl _) _
  have hs1 : (w.alloc (.cells (nums .u8 [a, b, c, d]) 199)).heap.size = w.heap.size + 1 := by simp
  have E4 := hide e4
  rw [e4]
  clear h e4
  go_enter Tryz.func209, Tryz.ntmps209
  go_wp2_with fail
  generalize (w.alloc (.cells (nums .u8 [a, b, c, d]) 199)) = W1 at *
  have h1 : StBlk W1 sb 268 n frame (stF n fs frame) pb win rb win := (unhide HB).blk.same (hb1.block sb hlt)
  have k1 := h1.c1
  have k291 := h1.c291
  have hnow := h1.now
  have r0 : W1.cell? ⟨w.heap.size, 0, none⟩ = some (.int .u8 a) := hbx.cell 0
  have r1 : W1.cell? ⟨w.heap.size, 1, none⟩ = some (.int .u8 b) := hbx.cell 1
  have r2 : W1.cell? ⟨w.heap.size, 2, none⟩ = some (.int .u8 c) := hbx.cell 2
  have r3 : W1.cell? ⟨w.heap.size, 3, none⟩ = some (.int .u8 d) := hbx.cell 3
  have hth : W1.there rb (frame % win * 288) 288 := there_below ((unhide HB).st.there hW frame) hrl hb1
  have hp1 : rb < W1.heap.size := by omega
  have hp2 : sb < W1.heap.size := by omega
  have hx1 : w.heap.size ≠ rb := by omega
  have HS1 := hide hs1
  have hu := Tryz.underlying209
  have hsz : (Tryz.prog.info? 209).map (·.size) = some ((stF n fs frame).map (Value.int .u8)).length := by rw [List.length_map, hln]; exact (zero_of_info Tryz.infoMem).2
  have hl' : ((stF n fs frame).map (Value.int .u8)).length = 288 := by rw [List.length_map, hln]
  have hone := nums_ones .u8 (stF n fs frame)
  clear hs1 h1
  go_region_held3 (fun W' => W'.cell? ⟨sb, 291, none⟩ = some (.slice (some ⟨rb, 0, none⟩) win win) ∧ W'.cell? ⟨sb, 1, none⟩ = some (.int .i64 (frame : Int)) ∧ W'.rangeAt sb 2 ((stF n fs frame).map (Value.int .u8)) ∧ W'.cell? ⟨w.heap.size, 0, none⟩ = some (.int .u8 a) ∧ W'.cell? ⟨w.heap.size, 1, none⟩ = some (.int .u8 b) ∧ W'.cell? ⟨w.heap.size, 2, none⟩ = some (.int .u8 c) ∧ W'.cell? ⟨w.heap.size, 3, none⟩ = some (.int .u8 d) ∧ W'.there rb (frame % win * 288) 288 ∧ rb < W'.heap.size ∧ sb < W'.heap.size)
    (first | go_keep | exact keep_put (by assumption) (by assumption) hne hx1)
    (first | (go_at_call 211; refine (rput_mem rb win frame (stF n fs frame) _ hW hln (by assumption) (by assumption)).mono ?_; rintro e w' ⟨rfl, W2, hb2, rfl⟩))
  have hs2 := hb2.size
  have hz1 := unhide HS1
  have hbW : Below w.heap.size w W2 := hb1.drew.trans (hb2.mono (by simp; omega))
  have h2 : StBlk W2 sb 268 n frame (stF n fs frame) pb win rb win := (unhide HB).blk.same (hbW.block sb hlt)
  have p2 := (unhide HB).pl.same (hbW.block pb hpl)
  have t2 := (unhide HB).st.same (hbW.block rb hrl)
  have x2 : Blk W2 w.heap.size (nums .u8 [a, b, c, d]) 199 := hbx.drew.below (by simp; omega) hb2
  have h3 : StBlk (W2.setCells rb (frame % win * 288) (memV (stF n fs frame))) sb 268 n frame (stF n fs frame) pb win rb win := h2.same (heap_setCells_other hne _ _ _)
  have p3 : RingAt (W2.setCells rb (frame % win * 288) (memV (stF n fs frame))) pb 199 win 4 lo' frame (fun f => insV n (fs f)) := (p2.less hlo (Nat.le_refl _)).same (heap_setCells_other (unhide HB).ne3 _ _ _)
  have t3 := (t2.less hlo (Nat.le_refl _)).put hW (memV (stF n fs frame)) (memV_len hln) (fun f _ _ => memV_len (stF_len hn fs f)) hlo'
  have x3 : Blk (W2.setCells rb (frame % win * 288) (memV (stF n fs frame))) w.heap.size (nums .u8 [a, b, c, d]) 199 := (heap_setCells_other hx1 _ _ _).trans x2
  have z3 : w.heap.size < (W2.setCells rb (frame % win * 288) (memV (stF n fs frame))).heap.size := by rw [size_setCells]; simp at hs2; omega
  have c3 : Chg F w (W2.setCells rb (frame % win * 288) (memV (stF n fs frame))) := (Chg.ofBelow hbW).thenCells rb _ _ (unhide HB).f3
  clear h2 p2 t2 x2 hbW hs2 hb2 hbx hb1 k1 k291 hnow r0 r1 r2 r3 hth hp1 hp2 hone hsz hl' hu HS1 hz1
  go_wp2_with fail
  change Code.wp _ _ _ _ (W2.setCells rb (frame % win * 288) (memV (stF n fs frame)))
  generalize W2.setCells rb (frame % win * 288) (memV (stF n fs frame)) = W3 at *
  refine wp_moves_reads_tail0 4 (by kernel_rfl) (by kernel_rfl) (by kernel_rfl) (by kernel_rfl) ?_
  simp only [List.take_succ_cons, List.take_zero, List.drop_succ_cons, List.drop_zero]
  have r0 : W3.cell? ⟨w.heap.size, 0, none⟩ = some (.int .u8 a) := x3.cell 0
  have r1 : W3.cell? ⟨w.heap.size, 1, none⟩ = some (.int .u8 b) := x3.cell 1
  have r2 : W3.cell? ⟨w.heap.size, 2, none⟩ = some (.int .u8 c) := x3.cell 2
  have r3 : W3.cell? ⟨w.heap.size, 3, none⟩ = some (.int .u8 d) := x3.cell 3
  repeat still_step
  refine wpStill_nil ?_
  have H3 := hide (And.intro h3 (And.intro p3 (And.intro t3 c3)))
  clear h3 p3 t3 c3 x3
  go_wp2_with fail
  obtain ⟨h3, p3, t3, c3⟩ := unhide H3
  have cS := step_at sb n frame pb win rb win lo' 268 (stF n fs frame) ins (fun f => insV n (fs f)) W3.drew (h3.same rfl) (p3.same rfl) (fun f _ hff => insV_len (hfs f hff) hn) hlo' hn2 hn (stF_good hn fs frame) hl hri hW hf (Ne.symm (unhide HB).ne1)
  rw [unhide E4] at cS
  refine cS.mono ?_
  rintro e w5 ⟨rfl, hc5, h5, p5⟩
  go_wp2
  go_end0
  have g1 := (unhide HB).f1
  have g2 := (unhide HB).f2
  have g4 := (unhide HB).ne1
  have g5 := (unhide HB).ne3
  have hC : Chg F w w5 := (c3.trans (Chg.drew F W3) (fun _ _ h => h)).trans hc5 (fun x _ hx => by
    rcases hx with hx | hx
    · rw [hx]; exact g1
    · rw [hx]; exact g2)
  refine ⟨rfl, hC, ?_, ?_, ?_, g4, hne, g5, g1, g2, (unhide HB).f3⟩
  · rw [stF_next]; exact h5
  · refine p5.congr (fun f _ _ => ?_)
    unfold updF
    split <;> rfl
  · have hr3 := t3.lt
    refine (t3.same (w' := w5) (hc5.block rb hr3 (fun e => by rcases e with e | e; · exact hne e.symm
                                                              · exact g5 e.symm))).congr (fun f _ hff => ?_)
    by_cases e : f = frame
    · subst e; rw [if_pos rfl, stF_upd n fs f f ins (Nat.le_refl _)]
    · rw [if_neg e, stF_upd n fs frame f ins (by omega)]
end Go.Proofs.YtandblanpafjoaaGreatDoor

namespace Go.Proofs.YtandblanpafjoaaGreatDoor
open Go.RowKit Go.Extern.Stop Go.Stop Go.Extern
set_option maxRecDepth 10000 in
set_option maxHeartbeats 2000000 in
theorem fstate_any (sb n win lo frame pb rb f : Nat) (F : Nat → Prop) (fs : Nat → List Int) (w : World) (h : FullAt w sb F n win lo frame fs pb rb) (hn : n ≤ 4) (hW : 0 < win) (hl : lo ≤ f) (hf : f ≤ frame) :
    Calls Tryz.prog 210 #[.pointer (some ⟨sb, 0, none⟩), .int .i64 (f : Int)] w fun e w' => e = .returned (.agg (nums .u8 (stF n fs f))) ∧ Below w.heap.size w w' := by
  have hz := Tryz.zeroMem
  have hlt := h.blk.lt
  have hb1 : Below w.heap.size w (w.alloc (.cells (nums .u8 Z288) 209)) := (Below.refl _ w).alloc (Nat.le_refl _) _
  have hbx : Blk (w.alloc (.cells (nums .u8 Z288) 209)) w.heap.size (nums .u8 Z288) 209 := Blk.new _ _ _
  have hs1 : (w.alloc (.cells (nums .u8 Z288) 209)).heap.size = w.heap.size + 1 := by simp
  have hlen := stF_len hn fs f
  have HB := hide h
  clear h
  obtain ⟨W1, hW1⟩ : ∃ W1, w.alloc (.cells (nums .u8 Z288) 209) = W1 := ⟨_, rfl⟩
  rw [hW1] at hb1 hbx hs1
  have h1 : StBlk W1 sb 268 n frame (stF n fs frame) pb win rb win := (unhide HB).blk.same (hb1.block sb hlt)
  have k1 := h1.c1
  have k291 := h1.c291
  have hnow := h1.now
  by_cases he : f = frame
  · have hei : ((f : Int) == (frame : Int)) = true := by simp [he]
    go_enter Tryz.func210, Tryz.ntmps210
    go_wp2_with (first | (rw [hW1]) | (refine wpList_load_mid rfl 209 _ rfl sb 2 rfl ((stF n fs frame).map (Value.int .u8)) _ hnow Tryz.underlying209 rfl (by rw [List.length_map, stF_len hn]; exact (zero_of_info Tryz.infoMem).2) ?_) | (refine wpList_store_blk rfl 209 _ _ rfl w.heap.size 209 (nums .u8 Z288) (nums .u8 (stF n fs frame)) rfl rfl hbx (Tryz.sizeMem _ (stF_len hn fs frame)) (by rw [nums_size, nums_size, stF_len hn]; rfl) (nums_one _ _) ?_))
    rw [he] at *
    refine bodyPost_ret (v := .agg (nums .u8 (stF n fs frame))) ?_ rfl ⟨rfl, ?_⟩
    · exact results_cell_row Tryz.results210 _ _ w.heap.size 209 _ (0, 0) _ rfl (hbx.setRow _) Tryz.underlying209 rfl (Tryz.sizeMem _ (stF_len hn fs frame))
    · exact below_setRow hb1 (Nat.le_refl _) _
  · have hei : ((f : Int) == (frame : Int)) = false := by rw [beq_eq_false_iff_ne]; omega
    have hrg := rangeAt_same ((unhide HB).st.at_ f hl (by omega)) (hb1.block rb (unhide HB).st.lt)
    go_enter Tryz.func210, Tryz.ntmps210
    go_wp2_with fail
    refine (rat_mem rb win f (stF n fs f) _ hW hlen hrg).mono ?_
    rintro e w2 ⟨rfl, hb2⟩
    have hbx2 : Blk w2 w.heap.size (nums .u8 Z288) 209 := hbx.below (by omega) hb2
    have hbW : Below w.heap.size w w2 := hb1.trans (hb2.mono (by omega))
    go_wp2_with (first | (refine wpList_store_blk rfl 209 _ _ rfl w.heap.size 209 (nums .u8 Z288) (nums .u8 (stF n fs f)) rfl rfl hbx2 (Tryz.sizeMem _ hlen) (by rw [nums_size, nums_size, hlen]; rfl) (nums_one _ _) ?_))
    refine bodyPost_ret (v := .agg (nums .u8 (stF n fs f))) ?_ rfl ⟨rfl, ?_⟩
    · exact results_cell_row Tryz.results210 _ _ w.heap.size 209 _ (0, 0) _ rfl (hbx2.setRow _) Tryz.underlying209 rfl (Tryz.sizeMem _ hlen)
    · exact below_setRow hbW (Nat.le_refl _) _
set_option maxRecDepth 10000 in
set_option maxHeartbeats 2000000 in
theorem fback_any (sb n win lo frame pb rb f : Nat) (F : Nat → Prop) (fs : Nat → List Int) (w : World) (h : FullAt w sb F n win lo frame fs pb rb) (hn : n ≤ 4) (hW : 0 < win) (hl : lo ≤ f) (hf : f ≤ frame) :
    Calls Tryz.prog 208 #[.pointer (some ⟨sb, 0, none⟩), .int .i64 (f : Int)] w fun e w' => e = .returned (.tuple #[]) ∧ Chg F w w' ∧ FullAt w' sb F n win lo f fs pb rb := by
  have hlen := stF_len hn fs f
  have HB := hide h
  clear h
  go_enter Tryz.func208, Tryz.ntmps208
  go_wp2_with fail
  refine (fstate_any sb n win lo frame pb rb f F fs w (unhide HB) hn hW hl hf).mono ?_
  rintro e w2 ⟨rfl, hb2⟩
  have hlt := (unhide HB).blk.lt
  have h2 : StBlk w2 sb 268 n frame (stF n fs frame) pb win rb win := (unhide HB).blk.same (hb2.block sb hlt)
  have h5 : StBlk (w2.setCells sb 2 (nums .u8 (stF n fs f)).toList) sb 268 n frame (stF n fs f) pb win rb win := h2.putNow (stF n fs f) hlen
  have c5 := h5.c1
  have f5 := h5.frozen 1
  have HTH := hide h2.there
  have H5 := hide h5
  clear h2 h5
  go_wp2_with (first | (refine wpList_store_mid rfl 209 _ _ rfl sb 2 (nums .u8 (stF n fs f)) rfl rfl (by rw [nums_size, hlen]; exact unhide HTH) (Tryz.sizeMem _ hlen) (nums_one _ _) ?_))
  go_end0
  have g := unhide HB
  refine ⟨rfl, ((Chg.ofBelow hb2).thenCells sb _ _ g.f1).thenCell sb 1 _ g.f1, (unhide H5).putFrame f, ?_, ?_, g.ne1, g.ne2, g.ne3, g.f1, g.f2, g.f3⟩
  · refine (g.pl.less (Nat.le_refl _) hf).same ?_
    rw [heap_setCell_other _ _ _ _ (fun e => g.ne1 e.symm), heap_setCells_other (Ne.symm g.ne1), hb2.block pb g.pl.lt]
  · refine (g.st.less (Nat.le_refl _) hf).same ?_
    rw [heap_setCell_other _ _ _ _ (fun e => g.ne2 e.symm), heap_setCells_other (Ne.symm g.ne2), hb2.block rb g.st.lt]
end Go.Proofs.YtandblanpafjoaaGreatDoor

namespace Go.Proofs.YtandblanpafjoaaGreatDoor
open Go.RowKit Go.Extern.Stop Go.Stop Go.Extern
set_option maxRecDepth 10000 in
set_option maxHeartbeats 1000000 in
theorem rat_pg (g W f b : Nat) (w : World) (hW : 0 < W) (hr : w.cell? ⟨g, f % W, none⟩ = some (.map (some b))) :
    Calls Tryz.prog 198 #[.agg #[.slice (some ⟨g, 0, none⟩) W W], .int .i64 (f : Int)] w fun e w' => e = .returned (.map (some b)) ∧ Below w.heap.size w w' := by
  obtain ⟨m, hm⟩ : ∃ m, f % W = m := ⟨_, rfl⟩
  rw [hm] at hr
  have hmW : m < W := by rw [← hm]; exact Nat.mod_lt f hW
  have hmod : (f : Int) % (W : Int) = (m : Int) := by rw [← hm, Int.natCast_emod]
  have hmod2 : (f : Int).tmod (W : Int) = (m : Int) := by rw [Int.tmod_eq_emod_of_nonneg (by omega), hmod]
  have hlg : g < w.heap.size := World.block_lt_of_cell? w _ hr
  have hcell : (w.alloc (.cells #[.slice (some ⟨g, 0, none⟩) W W] 256)).cell? ⟨w.heap.size, 0, none⟩ = some (.slice (some ⟨g, 0, none⟩) W W) := by simp
  have hbel : Below w.heap.size w (w.alloc (.cells #[.slice (some ⟨g, 0, none⟩) W W] 256)) := (Below.refl _ _).alloc (Nat.le_refl _) _
  obtain ⟨W1, hW1⟩ : ∃ W1, w.alloc (.cells #[.slice (some ⟨g, 0, none⟩) W W] 256) = W1 := ⟨_, rfl⟩
  rw [hW1] at hcell hbel
  have d0 := (hbel.cell (p := ⟨g, m, none⟩) hlg).trans hr
  have hW0 : ¬ W = 0 := by omega
  have hW2 : ¬ (W : Int) = 0 := by omega
  have hm0 : (0 : Int) ≤ (m : Int) := by omega
  have hm1 : (m : Int) < (W : Int) := by omega
  go_enter Tryz.func198, Tryz.ntmps198
  go_wp2_with fail
  try rw [hW1]
  go_still (by kernel_rfl)
  go_wp2
  go_ret
  exact ⟨rfl, hbel.drew⟩
set_option maxRecDepth 10000 in
set_option maxHeartbeats 1000000 in
theorem rput_pg (g W f b : Nat) (old : Value) (w : World) (hW : 0 < W) (hr : w.cell? ⟨g, f % W, none⟩ = some old) (hfr : w.frozen? ⟨g, f % W, none⟩ = false) :
    Calls Tryz.prog 139 #[.agg #[.slice (some ⟨g, 0, none⟩) W W], .int .i64 (f : Int), .map (some b)] w fun e w' => e = .returned (.tuple #[]) ∧ ∃ W1, Below w.heap.size w W1 ∧ w' = W1.setCell ⟨g, f % W, none⟩ (.map (some b)) := by
  obtain ⟨m, hm⟩ : ∃ m, f % W = m := ⟨_, rfl⟩
  rw [hm] at hr hfr ⊢
  have hmW : m < W := by rw [← hm]; exact Nat.mod_lt f hW
  have hmod : (f : Int) % (W : Int) = (m : Int) := by rw [← hm, Int.natCast_emod]
  have hmod2 : (f : Int).tmod (W : Int) = (m : Int) := by rw [Int.tmod_eq_emod_of_nonneg (by omega), hmod]
  have hlg : g < w.heap.size := World.block_lt_of_cell? w _ hr
  have hcell : (w.alloc (.cells #[.slice (some ⟨g, 0, none⟩) W W] 256)).cell? ⟨w.heap.size, 0, none⟩ = some (.slice (some ⟨g, 0, none⟩) W W) := by simp
  have hbel : Below w.heap.size w (w.alloc (.cells #[.slice (some ⟨g, 0, none⟩) W W] 256)) := (Below.refl _ _).alloc (Nat.le_refl _) _
  obtain ⟨W1, hW1⟩ : ∃ W1, w.alloc (.cells #[.slice (some ⟨g, 0, none⟩) W W] 256) = W1 := ⟨_, rfl⟩
  rw [hW1] at hcell hbel
  have d0 := (hbel.cell (p := ⟨g, m, none⟩) hlg).trans hr
  have d1 := (hbel.frozen (p := ⟨g, m, none⟩) hlg).trans hfr
  have hW0 : ¬ W = 0 := by omega
  have hW2 : ¬ (W : Int) = 0 := by omega
  have hm0 : (0 : Int) ≤ (m : Int) := by omega
  have hm1 : (m : Int) < (W : Int) := by omega
  go_enter Tryz.func139, Tryz.ntmps139
  go_wp2_with fail
  try rw [hW1]
  refine wp_moves_reads_tail0 9 (by kernel_rfl) (by kernel_rfl) (by kernel_rfl) (by kernel_rfl) ?_
  simp only [List.take_succ_cons, List.take_zero, List.drop_succ_cons, List.drop_zero]
  repeat still_step
  refine wpStill_nil ?_
  go_wp2
  go_end0
  exact ⟨rfl, W1.drew, hbel.drew, rfl⟩
end Go.Proofs.YtandblanpafjoaaGreatDoor

