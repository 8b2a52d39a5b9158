import Derived.Test.YtandblanpafjoabGreatDoorPast
import Derived.Test.YtandblanpafjoabGreatDoorTail
namespace Go.Proofs.YtandblanpafjoabGreatDoor
open Go.RowKit Go.Extern.Stop Go.Stop Go.Extern

/-! One more frame. -/
def pad4 (n : Nat) (ins : List Int) : List Int := ins ++ List.replicate (4 - n) 0
theorem pad4_len {n : Nat} {ins : List Int} (h : ins.length = n) (hn : n ≤ 4) : (pad4 n ins).length = 4 := by simp [pad4, h]; omega
theorem pad4_get {n : Nat} {ins : List Int} (h : ins.length = n) (j : Nat) (hj : j < n) : (pad4 n ins).getD j 0 = ins.getD j 0 := by
  simp [pad4, List.getD_eq_getElem?_getD, List.getElem?_append_left (by omega : j < ins.length)]
theorem four {l : List Int} (h : l.length = 4) : ∃ a b c d, l = [a, b, c, d] := by
  match l, h with
  | [a, b, c, d], _ => exact ⟨a, b, c, d, rfl⟩

theorem cell_keep {W' W2 : World} {b i g o : Nat} {v : Value} {x : List Value} (h : W'.cell? ⟨b, i, none⟩ = some v) (hb : Below W'.heap.size W' W2) (hne : b ≠ g) : (W2.setCells g o x).cell? ⟨b, i, none⟩ = some v := by
  rw [World.cell?_setCells_out g x o W2 _ (fun e => absurd e hne), hb.cell (p := ⟨b, i, none⟩) (World.block_lt_of_cell? W' _ h)]; exact h
theorem there_below {W' W2 : World} {g o n : Nat} (h : W'.there g o n) (hg : g < W'.heap.size) (hb : Below W'.heap.size W' W2) : W2.there g o n := fun j hj => by
  rw [hb.cell (p := ⟨g, o + j, none⟩) hg, hb.frozen (p := ⟨g, o + j, none⟩) hg]; exact h j hj
theorem keep_step {W' W2 : World} {sb pb bx o : Nat} {u v a b c d : Value} {x : List Value} (h : W'.cell? ⟨sb, 290, none⟩ = some u ∧ W'.cell? ⟨sb, 1, none⟩ = some v ∧ W'.cell? ⟨bx, 0, none⟩ = some a ∧ W'.cell? ⟨bx, 1, none⟩ = some b ∧ W'.cell? ⟨bx, 2, none⟩ = some c ∧ W'.cell? ⟨bx, 3, none⟩ = some d ∧ W'.there pb o 4 ∧ pb < W'.heap.size)
    (hb : Below W'.heap.size W' W2) (h1 : sb ≠ pb) (h2 : bx ≠ pb) :
    (W2.setCells pb o x).cell? ⟨sb, 290, none⟩ = some u ∧ (W2.setCells pb o x).cell? ⟨sb, 1, none⟩ = some v ∧ (W2.setCells pb o x).cell? ⟨bx, 0, none⟩ = some a ∧ (W2.setCells pb o x).cell? ⟨bx, 1, none⟩ = some b ∧ (W2.setCells pb o x).cell? ⟨bx, 2, none⟩ = some c ∧ (W2.setCells pb o x).cell? ⟨bx, 3, none⟩ = some d ∧ (W2.setCells pb o x).there pb o 4 ∧ pb < (W2.setCells pb o x).heap.size := by
  obtain ⟨k1, k2, k3, k4, k5, k6, k7, k8⟩ := h
  exact ⟨cell_keep k1 hb h1, cell_keep k2 hb h1, cell_keep k3 hb h2, cell_keep k4 hb h2, cell_keep k5 hb h2, cell_keep k6 hb h2, World.there_setCells (there_below k7 k8 hb) _ _ _, by rw [size_setCells]; have := hb.size; omega⟩

set_option maxRecDepth 10000 in
set_option maxHeartbeats 2000000 in
theorem step_any (sb n frame pb win rb W : Nat) (t : TypeId) (now ins : List Int) (w : World) (h : StBlk w sb t n frame now pb win rb W) (hn2 : 2 ≤ n) (hn : n ≤ 4) (hg : Good now n) (hl : ins.length = n)
    (hri : ∀ j : Nat, 0 ≤ ins.getD j 0 ∧ ins.getD j 0 ≤ 255) (hW : 0 < win) (hf : frame ≤ 1000) (hp : w.there pb (frame % win * 4) 4) (hpb : pb < w.heap.size) (hne : pb ≠ sb) :
    Calls Tryz.prog 185 #[.pointer (some ⟨sb, 0, none⟩), .agg (nums .u8 (pad4 n ins))] w fun e w' => e = .returned (.tuple #[]) ∧ ∃ W1 W2, Below w.heap.size w W1 ∧ Below w.heap.size (W1.setCells pb (frame % win * 4) ((pad4 n ins).map (Value.int .u8))) W2 ∧
      w' = (W2.setCells sb 2 ((frameL now n ins).map (Value.int .u8))).setCell ⟨sb, 1, none⟩ (.int .i64 ((frame + 1 : Nat) : Int)) := by
  obtain ⟨a, b, c, d, e4⟩ := four (pad4_len hl hn)
  have hge : ∀ j, j < n → [a, b, c, d].getD j 0 = ins.getD j 0 := fun j hj => by rw [← e4]; exact pad4_get hl j hj
  rw [e4]
  clear e4
  have hlt := h.lt
  have HB := hide h
  have hbx : Blk (w.alloc (.cells (nums .u8 [a, b, c, d]) 187)) w.heap.size (nums .u8 [a, b, c, d]) 187 := Blk.new _ _ _
  have h1 : StBlk (w.alloc (.cells (nums .u8 [a, b, c, d]) 187)) sb t n frame now pb win rb W := h.same (((Below.refl _ w).alloc (Nat.le_refl _) _).block sb hlt)
  have hth1 := World.there_alloc hp (.cells (nums .u8 [a, b, c, d]) 187)
  have hb1 : Below w.heap.size w (w.alloc (.cells (nums .u8 [a, b, c, d]) 187)) := (Below.refl _ w).alloc (Nat.le_refl _) _
  have hs1 : (w.alloc (.cells (nums .u8 [a, b, c, d]) 187)).heap.size = w.heap.size + 1 := by simp
  clear h hp
  go_enter Tryz.func185, Tryz.ntmps185
  go_wp2_with fail
  generalize (w.alloc (.cells (nums .u8 [a, b, c, d]) 187)) = W1 at *
  have k1 := h1.c1
  have k290 := h1.c290
  have r0 : W1.cell? ⟨w.heap.size, 0, none⟩ = some (.int .u8 a) := hbx.cell 0
  have r1 : W1.cell? ⟨w.heap.size, 1, none⟩ = some (.int .u8 b) := hbx.cell 1
  have r2 : W1.cell? ⟨w.heap.size, 2, none⟩ = some (.int .u8 c) := hbx.cell 2
  have r3 : W1.cell? ⟨w.heap.size, 3, none⟩ = some (.int .u8 d) := hbx.cell 3
  have hp1 : pb < W1.heap.size := by omega
  have HS1 := hide hs1
  clear hs1
  have hx1 : w.heap.size ≠ pb := by omega
  have hfr : (frame : Int) = ((frame : Nat) : Int) := rfl
  go_region_held3 (fun W' => W'.cell? ⟨sb, 290, none⟩ = some (.slice (some ⟨pb, 0, none⟩) win win) ∧ W'.cell? ⟨sb, 1, none⟩ = some (.int .i64 (frame : Int)) ∧ W'.cell? ⟨w.heap.size, 0, none⟩ = some (.int .u8 a) ∧ W'.cell? ⟨w.heap.size, 1, none⟩ = some (.int .u8 b) ∧ W'.cell? ⟨w.heap.size, 2, none⟩ = some (.int .u8 c) ∧ W'.cell? ⟨w.heap.size, 3, none⟩ = some (.int .u8 d) ∧ W'.there pb (frame % win * 4) 4 ∧ pb < W'.heap.size)
    (first | go_keep | exact keep_step (by assumption) (by assumption) (Ne.symm hne) hx1)
    (first | (go_at_call 178; refine (rput_in pb win frame a b c d _ hW (by assumption) (by assumption)).mono ?_; rintro e w' ⟨rfl, W2, hb2, rfl⟩))
  have hs2 := hb2.size
  simp only [World.size_drew] at hs2
  have hbW : Below w.heap.size w W2 := hb1.drew.trans (hb2.mono (by have := unhide HS1; simp; omega))
  have h2 : StBlk W2 sb t n frame now pb win rb W := h1.same (hb2.block sb (by simp [unhide HS1]; omega))
  have hx2 : Blk W2 w.heap.size (nums .u8 [a, b, c, d]) 187 := hbx.drew.below (by simp [unhide HS1]) hb2
  have h3 : StBlk (W2.setCells pb (frame % win * 4) ([a, b, c, d].map (Value.int .u8))) sb t n frame now pb win rb W := h2.same (heap_setCells_other (Ne.symm hne) _ _ _)
  have hx3 : Blk (W2.setCells pb (frame % win * 4) ([a, b, c, d].map (Value.int .u8))) w.heap.size (nums .u8 [a, b, c, d]) 187 := (heap_setCells_other hx1 _ _ _).trans hx2
  have hz3 : w.heap.size + 1 ≤ (W2.setCells pb (frame % win * 4) ([a, b, c, d].map (Value.int .u8))).heap.size := by rw [size_setCells]; have := unhide HS1; omega
  clear h1 h2 hbx hx2 k1 k290 r0 r1 r2 r3 hth1 hb1 hb2 hp1
  go_wp2_with fail
  obtain ⟨W3, hW3⟩ : ∃ W3, W2.setCells pb (frame % win * 4) ([a, b, c, d].map (Value.int .u8)) = W3 := ⟨_, rfl⟩
  have HW3 := hide hW3
  simp only [List.map_cons, List.map_nil] at hW3
  rw [hW3]
  rw [unhide HW3] at h3 hx3 hz3
  clear hW3
  have HBW := hide hbW
  have HH3 := hide h3
  have HX3 := hide hx3
  have k0 := h3.c0
  have hnI0 : (0 : Int) ≤ (n : Int) := by omega
  have hnI : (n : Int) ≤ 4 := by omega
  have hlF : (frameL now n ins).length = 288 := (good_frame hg ins hn).len
  have hcN : Hid (∀ j, j < n → W3.drew.cell? ⟨w.heap.size, j, none⟩ = some (.int .u8 (ins.getD j 0))) := hide fun j hj => by
    rw [show W3.drew.cell? ⟨w.heap.size, j, none⟩ = W3.cell? ⟨w.heap.size, j, none⟩ from rfl, hx3.num j (by simp; omega), hge j hj]
  have HZ3 := hide hz3
  clear h3 hx3 hz3 hbW hge
  have hrg := (unhide HH3).now
  have hrl := (unhide HH3).1
  refine wp_move_reads_tail 10 _ _ rfl rfl rfl (by kernel_rfl) (by kernel_rfl) (by decide) (by kernel_rfl) (by kernel_rfl) (by kernel_rfl) (by kernel_rfl) (by kernel_rfl) (by kernel_rfl) (fun _ _ _ _ h => h) ?_
  simp only [List.take_succ_cons, List.take_zero, List.drop_succ_cons, List.drop_zero]
  still_step
  still_step
  still_step
  refine wpStill_load_mid rfl 106 _ rfl sb 2 rfl (now.map (Value.int .u8)) _ ((World.rangeAt_drew _ _ _ _).2 hrg) Tryz.underlying106 rfl (by rw [List.length_map, hrl]; exact (zero_of_info Tryz.infoMem).2) ?_
  repeat still_step
  refine wpStill_nil ?_
  go_wp2_with fail
  refine (next_any w.heap.size n 4 now ins _ hn hg hl hri (by have := unhide HZ3; simp; omega) (unhide hcN)).mono ?_
  rintro e w4 ⟨rfl, hb4⟩
  have h4 : StBlk w4 sb t n frame now pb win rb W := (unhide HH3).same (hb4.block sb (by have := unhide HZ3; simp; omega))
  have h5 : StBlk (w4.setCells sb 2 (nums .u8 (frameL now n ins)).toList) sb t n frame (frameL now n ins) pb win rb W := h4.putNow (frameL now n ins) hlF
  have c5 := h5.c1
  have f5 := h5.frozen 1
  have HB4 := hide hb4
  have HTH := hide h4.there
  clear h4 hb4 k0 hrg
  go_wp2_with (first | (refine wpList_store_mid rfl 106 _ _ rfl sb 2 (nums .u8 (frameL now n ins)) rfl rfl (by rw [nums_size, hlF]; exact unhide HTH) (Tryz.sizeMem _ hlF) (nums_one _ _) ?_))
  go_end0
  refine ⟨rfl, W2, w4, unhide HBW, ?_, ?_⟩
  · have := (unhide HB4).mono (B' := w.heap.size) (by have := unhide HZ3; simp; omega)
    rw [← unhide HW3] at this
    exact ⟨this.os, this.tape, this.output, this.size, this.block⟩
  · rfl
end Go.Proofs.YtandblanpafjoabGreatDoor
