import Derived.Test.YtandblanpafjoabGreatDoorPack35
import Derived.Test.YtandblanpafjoabGreatDoorPack34
namespace Go.Proofs.YtandblanpafjoabGreatDoor
open Go.RowKit Go.Extern.Stop Go.Stop Go.Extern Go.Maps

/-! Making a peer. -/
def peer0 (delay : Nat) : PeerM := { known := fun _ => List.replicate delay 0, frame := 0, acked := fun _ => delay, dropped := 0 }
def zRow (n : Nat) : List Int := List.replicate n 0
theorem zRow_len (n : Nat) : (zRow n).length = n := by simp [zRow]
set_option maxRecDepth 10000 in
theorem makeBytesN (n : Nat) (hn : n ≤ 4) (w : World) : (Instr.makeSlice 35 (.int .i64 (n : Int)) (.int .i64 (n : Int))).run Tryz.prog w = .ok (.slice (some ⟨w.heap.size, 0, none⟩) n n) (w.alloc (.cells (nums .u8 (zRow n)) 5)) := by
  obtain ⟨i8, hi8, hz8, hs8, hy8⟩ := info_parts Tryz.infoU8
  rw [run_make w 35 5 i8 (.int .u8 0) Tryz.underlying35 hi8 hz8 .i64 .i64 _ _ (by omega) (Int.le_refl _) (by rw [hy8]; omega) (by omega)]
  rw [show ((n : Int)).toNat = n by omega, hs8, Nat.mul_one]
  congr 3
  apply Array.ext
  · simp [madeCells, nums, zRow]
  · intro i h1 h2
    simp [madeCells, nums, zRow, Value.cells, Nat.mod_one]
theorem own_new {w : World} {g n : Nat} (h : Blk w g (nums .u8 (zRow n)) 5) (hn : n ≤ 1000) : w.ownsRow 0 5 1 (.slice (some ⟨g, 0, none⟩) n n) n ((zRow n).map (Value.int .u8)) :=
  ⟨by simp [zRow], .inr ⟨g, n, _, rfl, Nat.zero_le _, h, Nat.le_refl _, by unfold maxLen; omega, by rw [nums_size, zRow_len]; omega, by simp [nums, zRow]⟩⟩
/-- The slices of the first k players. -/
def vTo (vb : Nat → Nat) (delay k : Nat) : Nat → Value := fun q => if q < k then .slice (some ⟨vb q, 0, none⟩) delay delay else .slice none 0 0
def aTo (delay k : Nat) : Nat → Nat := fun q => if q < k then delay else 0
theorem vTo_step (vb : Nat → Nat) (delay k g : Nat) : updV (vTo vb delay k) k (.slice (some ⟨g, 0, none⟩) delay delay) = vTo (fun i => if i = k then g else vb i) delay (k + 1) := by
  funext q
  simp only [updV, vTo]
  by_cases e : q = k
  · subst e; simp
  · by_cases h : q < k
    · rw [if_neg e, if_pos h, if_pos (by omega), if_neg e]
    · rw [if_neg e, if_neg h, if_neg (by omega)]
theorem pCells_ackTo (num n win delay dropped q m : Nat) (v : Nat → Value) (ak : Nat → Nat) (st : Value) (hq : q < 4) : (pCells num n win delay dropped v ak st).toArray.setIfInBounds (9 + q) (.int .i64 (m : Int)) = (pCells num n win delay dropped v (fun k => if k = q then m else ak k) st).toArray := by
  rcases q with _ | _ | _ | _ | q
  · simp [pCells]
  · simp [pCells]
  · simp [pCells]
  · simp [pCells]
  · omega
theorem aTo_step (delay k : Nat) : (fun q => if q = k then delay else aTo delay k q) = aTo delay (k + 1) := by
  funext q
  simp only [aTo]
  by_cases e : q = k
  · subst e; simp
  · by_cases h : q < k
    · rw [if_neg e, if_pos h, if_pos (by omega)]
    · rw [if_neg e, if_neg h, if_neg (by omega)]

set_option maxRecDepth 10000 in
set_option maxHeartbeats 2000000 in
theorem pNew_any (num n win delay kind : Nat) (lv : Value) (w : World) (hn2 : 2 ≤ n) (hn : n ≤ 4) (hw1 : 1 ≤ win) (hw : win ≤ 8) (hd : delay ≤ 3) (hnum : num < n) :
    Calls Tryz.prog 63 #[.int .i64 (num : Int), .agg #[.int .i64 (n : Int), .int .i64 (win : Int), .int .i64 (delay : Int), .int .i64 (kind : Int), lv]] w fun e w' => ∃ b F FS v st, e = .returned (.pointer (some ⟨b, 0, none⟩)) ∧ PeerAt w' b F FS num n win delay (peer0 delay) v st ∧ (∀ k, F k → w.heap.size ≤ k ∧ k < w'.heap.size) ∧ Below w.heap.size w w' := by
  have bB : Below w.heap.size w (w.alloc (.cells #[.int .i64 (n : Int), .int .i64 (win : Int), .int .i64 (delay : Int), .int .i64 (kind : Int), lv] 26)) := (Below.refl _ w).alloc (Nat.le_refl _) _
  have xB : Blk (w.alloc (.cells #[.int .i64 (n : Int), .int .i64 (win : Int), .int .i64 (delay : Int), .int .i64 (kind : Int), lv] 26)) w.heap.size #[.int .i64 (n : Int), .int .i64 (win : Int), .int .i64 (delay : Int), .int .i64 (kind : Int), lv] 26 := Blk.new _ _ _
  go_enter Tryz.func63, Tryz.ntmps63
  go_wp2_with fail
  generalize w.alloc (.cells #[.int .i64 (n : Int), .int .i64 (win : Int), .int .i64 (delay : Int), .int .i64 (kind : Int), lv] 26) = W1 at *
  have m0 : W1.cell? ⟨w.heap.size, 0, none⟩ = some (.int .i64 (n : Int)) := xB.cell 0
  have m1 : W1.cell? ⟨w.heap.size, 1, none⟩ = some (.int .i64 (win : Int)) := xB.cell 1
  have m2 : W1.cell? ⟨w.heap.size, 2, none⟩ = some (.int .i64 (delay : Int)) := xB.cell 2
  have m3 : W1.cell? ⟨w.heap.size, 3, none⟩ = some (.int .i64 (kind : Int)) := xB.cell 3
  have HX := hide (And.intro bB xB)
  have hxl := xB.lt
  clear bB xB
  refine wp_region_noPanic ?_
  refine wp_held_tail 13 14 (fun W' => W'.cell? ⟨w.heap.size, 0, none⟩ = some (.int .i64 (n : Int)) ∧ W'.cell? ⟨w.heap.size, 1, none⟩ = some (.int .i64 (win : Int)) ∧ W'.cell? ⟨w.heap.size, 2, none⟩ = some (.int .i64 (delay : Int)) ∧ W'.cell? ⟨w.heap.size, 3, none⟩ = some (.int .i64 (kind : Int))) (by kernel_rfl) (by decide) (by kernel_rfl) (by kernel_rfl) (by kernel_rfl) (fun _ _ _ _ _ h => h) ⟨m0, m1, m2, m3⟩ ?_
  simp only [List.take_succ_cons, List.take_zero, List.drop_succ_cons, List.drop_zero]
  refine wpHeld_op ?y0 rfl ?z0 ?_
  case z0 => intro w' hS; obtain ⟨hS1, hS2, hS3, hS4⟩ := hS; go_simp; rfl
  refine wpHeld_op ?y1 rfl ?z1 ?_
  case z1 => intro w' hS; obtain ⟨hS1, hS2, hS3, hS4⟩ := hS; go_simp; rfl
  refine wpHeld_op ?y2 rfl ?z2 ?_
  case z2 => intro w' hS; obtain ⟨hS1, hS2, hS3, hS4⟩ := hS; go_simp; rfl
  refine wpHeld_op ?y3 rfl ?z3 ?_
  case z3 => intro w' hS; obtain ⟨hS1, hS2, hS3, hS4⟩ := hS; go_simp; rfl
  refine wpHeld_op ?y4 rfl ?z4 ?_
  case z4 => intro w' hS; obtain ⟨hS1, hS2, hS3, hS4⟩ := hS; go_simp; rfl
  refine wpHeld_op ?y5 rfl ?z5 ?_
  case z5 => intro w' hS; obtain ⟨hS1, hS2, hS3, hS4⟩ := hS; go_simp; rfl
  refine wpHeld_op ?y6 rfl ?z6 ?_
  case z6 => intro w' hS; obtain ⟨hS1, hS2, hS3, hS4⟩ := hS; go_simp; rfl
  refine wpHeld_op ?y7 rfl ?z7 ?_
  case z7 => intro w' hS; obtain ⟨hS1, hS2, hS3, hS4⟩ := hS; go_simp; rfl
  refine wpHeld_op ?y8 rfl ?z8 ?_
  case z8 => intro w' hS; obtain ⟨hS1, hS2, hS3, hS4⟩ := hS; go_simp; rfl
  refine wpHeld_op ?y9 rfl ?z9 ?_
  case z9 => intro w' hS; obtain ⟨hS1, hS2, hS3, hS4⟩ := hS; go_simp; rfl
  refine wpHeld_op ?y10 rfl ?z10 ?_
  case z10 => intro w' hS; obtain ⟨hS1, hS2, hS3, hS4⟩ := hS; go_simp; rfl
  refine wpHeld_op ?y11 rfl ?z11 ?_
  case z11 => intro w' hS; obtain ⟨hS1, hS2, hS3, hS4⟩ := hS; go_simp; rfl
  refine wpHeld_op ?y12 rfl ?z12 ?_
  case z12 => intro w' hS; obtain ⟨hS1, hS2, hS3, hS4⟩ := hS; go_simp; rfl
  unfold wpHeld
  refine wpAnyH_all (rs := [13]) (by kernel_rfl) (by simp) ?_
  intro j hj
  obtain rfl : j = 13 := by simpa using hj
  refine wpOp_of_list _ rfl rfl ?_
  go_wp2_with fail
  refine (stNew_any kind n win W1.drew hn (by omega)).mono ?_
  rintro e w2 ⟨st, FS, rfl, hSt, hFS, hb2⟩
  obtain ⟨tt, sb, est, hm1, hm2⟩ := (hSt (fun _ => [])).frame_call
  clear hm1 hm2
  subst est
  have hB2 : Below W1.heap.size W1 w2 := ⟨hb2.os, hb2.tape, hb2.output, hb2.size, hb2.block⟩
  have k0 := (hB2.cell (p := ⟨w.heap.size, 0, none⟩) hxl).trans m0
  have k1 := (hB2.cell (p := ⟨w.heap.size, 1, none⟩) hxl).trans m1
  have k2 := (hB2.cell (p := ⟨w.heap.size, 2, none⟩) hxl).trans m2
  have k3 := (hB2.cell (p := ⟨w.heap.size, 3, none⟩) hxl).trans m3
  have H2 := hide (And.intro hSt (And.intro hFS hB2))
  clear hSt hFS hB2 hb2
  go_wp2_with fail
  refine ⟨⟨k0, k1, k2, k3⟩, ⟨by kernel_rfl, ?_⟩⟩
  change wpList _ _ _ _ _ _
  go_wp2_with fail
  refine NoPanic.normal ?_
  have x3 : Blk (w2.alloc (.cells #[.int .i64 (num : Int), .int .i64 (n : Int), .int .i64 (win : Int), .int .i64 (delay : Int), .int .i64 0, .slice none 0 0, .slice none 0 0, .slice none 0 0, .slice none 0 0, .int .i64 0, .int .i64 0, .int .i64 0, .int .i64 0, .iface tt (.pointer (some ⟨sb, 0, none⟩))] 122)) w2.heap.size (pCells num n win delay 0 (vTo (fun _ => 0) delay 0) (aTo delay 0) (.iface tt (.pointer (some ⟨sb, 0, none⟩)))).toArray 122 := Blk.new _ _ _
  have hb3 : Below w2.heap.size w2 (w2.alloc (.cells #[.int .i64 (num : Int), .int .i64 (n : Int), .int .i64 (win : Int), .int .i64 (delay : Int), .int .i64 0, .slice none 0 0, .slice none 0 0, .slice none 0 0, .slice none 0 0, .int .i64 0, .int .i64 0, .int .i64 0, .int .i64 0, .iface tt (.pointer (some ⟨sb, 0, none⟩))] 122)) := (Below.refl _ w2).alloc (Nat.le_refl _) _
  have hxl2 : w.heap.size < w2.heap.size := World.block_lt_of_cell? w2 _ k0
  obtain ⟨W3, hW3⟩ : ∃ W3, w2.alloc (.cells #[.int .i64 (num : Int), .int .i64 (n : Int), .int .i64 (win : Int), .int .i64 (delay : Int), .int .i64 0, .slice none 0 0, .slice none 0 0, .slice none 0 0, .slice none 0 0, .int .i64 0, .int .i64 0, .int .i64 0, .int .i64 0, .iface tt (.pointer (some ⟨sb, 0, none⟩))] 122) = W3 := ⟨_, rfl⟩
  rw [hW3] at x3 hb3 ⊢
  clear hW3
  have j0 : W3.cell? ⟨w.heap.size, 0, none⟩ = some (.int .i64 (n : Int)) := (hb3.cell (p := ⟨w.heap.size, 0, none⟩) hxl2).trans k0
  have H3 := hide (And.intro x3 hb3)
  clear x3 hb3 m0 m1 m2 m3 k0 k1 k3
  go_wp2_with fail
  go_loopw [25] (fun i wr => ∃ (k : Nat) (vb : Nat → Nat), k ≤ n ∧ i = .int .i64 (k : Int) ∧ Below w2.heap.size w2 wr ∧ w2.heap.size + 1 ≤ wr.heap.size ∧ Blk wr w2.heap.size (pCells num n win delay 0 (vTo vb delay k) (aTo delay k) (.iface tt (.pointer (some ⟨sb, 0, none⟩)))).toArray 122 ∧ (∀ q, q < k → w2.heap.size + 1 ≤ vb q ∧ Blk wr (vb q) (nums .u8 (zRow delay)) 5) ∧ (∀ q q', q < k → q' < k → vb q = vb q' → q = q')) (fun i _ => n - (intOf i).toNat)
  case atStart =>
    obtain ⟨x3, hb3⟩ := unhide H3
    exact ⟨0, fun _ => 0, by omega, rfl, hb3, x3.lt, x3, fun q hq => by omega, fun q q' hq => by omega⟩
  case round =>
    obtain ⟨k, vb, hk, rfl, hb, hsz, hx, hvs, hinj⟩ := hrel
    clear j0
    by_cases hlt : k < n
    · have hdc : decide ((k : Int) < (n : Int)) = true := by simp; omega
      have q0 : (0 : Int) ≤ (k : Int) := by omega
      have q1 : (k : Int) < 4 := by omega
      have hadd := i64_id ((k : Int) + 1) (by omega) (by omega)
      have cd : wr.cell? ⟨w.heap.size, 2, none⟩ = some (.int .i64 (delay : Int)) := (hb.cell (p := ⟨w.heap.size, 2, none⟩) hxl2).trans k2
      have hmk := makeBytesN delay (by omega)
      have HR := hide (And.intro hb (And.intro hx (And.intro hvs hinj)))
      have hbA : Below wr.heap.size wr (wr.alloc (.cells (nums .u8 (zRow delay)) 5)) := (Below.refl _ wr).alloc (Nat.le_refl _) _
      have hxA : Blk (wr.alloc (.cells (nums .u8 (zRow delay)) 5)) w2.heap.size (pCells num n win delay 0 (vTo vb delay k) (aTo delay k) (.iface tt (.pointer (some ⟨sb, 0, none⟩)))).toArray 122 := (hbA.block _ (by omega)).trans hx
      have cA : (wr.alloc (.cells (nums .u8 (zRow delay)) 5)).cell? ⟨w2.heap.size, 5 + k, none⟩ = some (.slice none 0 0) := by
        rw [hxA.cell]
        have hk4 : k < 4 := by omega
        rcases k with _ | _ | _ | _ | k
        · simp [pCells, vTo]
        · simp [pCells, vTo]
        · simp [pCells, vTo]
        · simp [pCells, vTo]
        · omega
      have fA : (wr.alloc (.cells (nums .u8 (zRow delay)) 5)).frozen? ⟨w2.heap.size, 5 + k, none⟩ = false := hxA.frozen _
      have cdA : (wr.alloc (.cells (nums .u8 (zRow delay)) 5)).cell? ⟨w.heap.size, 2, none⟩ = some (.int .i64 (delay : Int)) := (hbA.cell (p := ⟨w.heap.size, 2, none⟩) (by show w.heap.size < wr.heap.size; omega)).trans cd
      have hnA : Blk (wr.alloc (.cells (nums .u8 (zRow delay)) 5)) wr.heap.size (nums .u8 (zRow delay)) 5 := Blk.new _ _ _
      have HA := hide (And.intro hbA (And.intro hxA hnA))
      clear hb hx hvs hinj hbA hxA hnA
      go_wp2_with fail
      refine wp_region_noPanic ?_
      refine wp_held_tail 4 7 (fun W' => W'.cell? ⟨w.heap.size, 2, none⟩ = some (.int .i64 (delay : Int))) (by kernel_rfl) (by decide) (by kernel_rfl) (by kernel_rfl) (by kernel_rfl) (fun _ _ _ _ _ h => h) cd ?_
      simp only [List.take_succ_cons, List.take_zero, List.drop_succ_cons, List.drop_zero]
      refine wpHeld_op ?ya0 rfl ?za0 ?_
      case za0 => intro w' hS; go_simp; rfl
      refine wpHeld_op ?ya1 rfl ?za1 ?_
      case za1 => intro w' hS; go_simp; rfl
      refine wpHeld_op ?ya2 rfl ?za2 ?_
      case za2 => intro w' hS; go_simp; rfl
      refine wpHeld_op ?ya3 rfl ?za3 ?_
      case za3 => intro w' hS; go_simp; rfl
      unfold wpHeld
      refine wpAnyH_take (i := 5) (v := .pointer (some ⟨w2.heap.size, 0, none⟩)) rfl (by kernel_rfl) (by kernel_rfl) (by kernel_rfl) (fun _ _ _ h => h) (Or.inl ⟨by rfl, ?g5⟩) cd ?_
      case g5 => intro w' _; go_simp
      refine wpAnyH_take (i := 6) (v := .pointer (some ⟨w2.heap.size, 5, none⟩)) rfl (by kernel_rfl) (by kernel_rfl) (by kernel_rfl) (fun _ _ _ h => h) (Or.inl ⟨by rfl, ?g6⟩) cd ?_
      case g6 => intro w' _; go_simp
      refine wpAnyH_all (rs := [4]) (by kernel_rfl) (by simp) ?_
      intro j hj
      obtain rfl : j = 4 := by simpa using hj
      refine wpOp_of_list _ rfl rfl ?_
      go_wp2_with fail
      refine ⟨cdA, ⟨by kernel_rfl, ?_⟩⟩
      clear hmk
      generalize wr.alloc (.cells (nums .u8 (zRow delay)) 5) = W4 at *
      change wpList _ _ _ _ _ _
      go_wp2_with fail
      refine NoPanic.normal ?_
      go_wp2_with fail
      obtain ⟨hbA, hxA, hnA⟩ := unhide HA
      have hx5 := hxA.set (5 + k) (.slice (some ⟨wr.heap.size, 0, none⟩) delay delay)
      rw [pCells_set num n win delay 0 k _ _ _ _ (by omega), vTo_step] at hx5
      have c9 : (W4.setCell ⟨w2.heap.size, 5 + k, none⟩ (.slice (some ⟨wr.heap.size, 0, none⟩) delay delay)).cell? ⟨w2.heap.size, 9 + k, none⟩ = some (.int .i64 0) := by
        rw [hx5.cell]
        have hk4 : k < 4 := by omega
        rcases k with _ | _ | _ | _ | k
        · simp [pCells, aTo]
        · simp [pCells, aTo]
        · simp [pCells, aTo]
        · simp [pCells, aTo]
        · omega
      have f9 : (W4.setCell ⟨w2.heap.size, 5 + k, none⟩ (.slice (some ⟨wr.heap.size, 0, none⟩) delay delay)).frozen? ⟨w2.heap.size, 9 + k, none⟩ = false := hx5.frozen _
      have cd5 : (W4.setCell ⟨w2.heap.size, 5 + k, none⟩ (.slice (some ⟨wr.heap.size, 0, none⟩) delay delay)).cell? ⟨w.heap.size, 2, none⟩ = some (.int .i64 (delay : Int)) := (World.cell?_of_block (a := ⟨w.heap.size, 2, none⟩) (heap_setCell_other _ _ _ _ (fun e => by have : w.heap.size = w2.heap.size := e; omega))).trans cdA
      have hz4 := hbA.size
      have hzz : (W4.setCell ⟨w2.heap.size, 5 + k, none⟩ (.slice (some ⟨wr.heap.size, 0, none⟩) delay delay)).heap.size = W4.heap.size := by simp
      have hg5 : ∀ j, j ≠ w2.heap.size → (W4.setCell ⟨w2.heap.size, 5 + k, none⟩ (.slice (some ⟨wr.heap.size, 0, none⟩) delay delay)).heap[j]? = W4.heap[j]? := fun j hj => heap_setCell_other _ _ _ _ (fun e => hj e)
      have hos : (W4.setCell ⟨w2.heap.size, 5 + k, none⟩ (.slice (some ⟨wr.heap.size, 0, none⟩) delay delay)).os = wr.os ∧ (W4.setCell ⟨w2.heap.size, 5 + k, none⟩ (.slice (some ⟨wr.heap.size, 0, none⟩) delay delay)).tape = wr.tape ∧ (W4.setCell ⟨w2.heap.size, 5 + k, none⟩ (.slice (some ⟨wr.heap.size, 0, none⟩) delay delay)).output = wr.output := by
        have := (Chg.setCell (F := fun k => k = w2.heap.size) W4 w2.heap.size (5 + k) (.slice (some ⟨wr.heap.size, 0, none⟩) delay delay) rfl)
        exact ⟨this.os.trans hbA.os, this.tape.trans hbA.tape, this.output.trans hbA.output⟩
      have H5 := hide (And.intro hx5 (And.intro hzz (And.intro hg5 hos)))
      clear hx5 hg5 hzz hos cA fA cdA hbA hxA hnA
      generalize W4.setCell ⟨w2.heap.size, 5 + k, none⟩ (.slice (some ⟨wr.heap.size, 0, none⟩) delay delay) = W5 at *
      refine wp_moves_reads_tail0 6 (by kernel_rfl) (by kernel_rfl) (by kernel_rfl) (by kernel_rfl) ?_
      simp only [List.take_succ_cons, List.take_zero, List.drop_succ_cons, List.drop_zero]
      repeat still_step
      refine wpStill_nil ?_
      go_wp2
      obtain ⟨hb, hx, hvs, hinj⟩ := unhide HR
      obtain ⟨hbA, hxA, hnA⟩ := unhide HA
      obtain ⟨hx5, hzz, hg5, hos⟩ := unhide H5
      have hx6 := hx5.set (9 + k) (.int .i64 (delay : Int))
      rw [pCells_ackTo num n win delay 0 k delay _ _ _ (by omega), aTo_step] at hx6
      have hsm : ∀ j, j ≠ w2.heap.size → j < wr.heap.size → (W5.setCell ⟨w2.heap.size, 9 + k, none⟩ (.int .i64 (delay : Int))).heap[j]? = wr.heap[j]? := fun j hj hl => by
        rw [heap_setCell_other _ _ _ _ (fun e => hj e), hg5 j hj, hbA.block j hl]
      have hC6 := Chg.setCell (F := fun k => k = w2.heap.size) W5 w2.heap.size (9 + k) (.int .i64 (delay : Int)) rfl
      refine ⟨⟨k + 1, fun i => if i = k then wr.heap.size else vb i, by omega, by go_num, ⟨(hC6.os.trans hos.1).trans hb.os, (hC6.tape.trans hos.2.1).trans hb.tape, (hC6.output.trans hos.2.2).trans hb.output, ?_, fun j hj => (hsm j (by omega) (by omega)).trans (hb.block j hj)⟩, ?_, hx6, fun q hq => ?_, fun q q' hq hq' e => ?_⟩, by simp [intOf]; omega⟩
      · show w2.heap.size ≤ (W5.setCell ⟨w2.heap.size, 9 + k, none⟩ (.int .i64 (delay : Int))).heap.size
        simp; omega
      · show w2.heap.size + 1 ≤ (W5.setCell ⟨w2.heap.size, 9 + k, none⟩ (.int .i64 (delay : Int))).heap.size
        simp; omega
      · by_cases e : q = k
        · simp only [if_pos e]
          refine ⟨hsz, ?_⟩
          show (W5.setCell ⟨w2.heap.size, 9 + k, none⟩ (.int .i64 (delay : Int))).heap[wr.heap.size]? = _
          rw [heap_setCell_other _ _ _ _ (fun e => by have : wr.heap.size = w2.heap.size := e; omega), hg5 _ (by omega)]
          exact hnA
        · simp only [if_neg e]
          have := hvs q (by omega)
          exact ⟨this.1, (hsm (vb q) (by omega) this.2.lt).trans this.2⟩
      · by_cases e1 : q = k
        · by_cases e2 : q' = k
          · omega
          · simp only [if_pos e1, if_neg e2] at e
            have := (hvs q' (by omega)).2.lt; omega
        · by_cases e2 : q' = k
          · simp only [if_neg e1, if_pos e2] at e
            have := (hvs q (by omega)).2.lt; omega
          · simp only [if_neg e1, if_neg e2] at e
            exact hinj q q' (by omega) (by omega) e
    · have hdc : decide ((k : Int) < (n : Int)) = false := by simp; omega
      have hke : k = n := by omega
      have HR := hide (And.intro hb (And.intro hx (And.intro hvs (And.intro hinj hke))))
      clear hb hx hvs hinj hke
      go_wp2
      go_ret
      obtain ⟨hb, hx, hvs, hinj, hke⟩ := unhide HR
      obtain ⟨hSt, hFS, hB2⟩ := unhide H2
      obtain ⟨bB, xB⟩ := unhide HX
      rw [hke] at hx hvs hinj
      have z1 := bB.size
      have z2 := hB2.size
      have h1d : W1.drew.heap.size = W1.heap.size := rfl
      refine ⟨w2.heap.size, fun j => j = w2.heap.size ∨ FS j ∨ ∃ q, q < n ∧ j = vb q, FS, vTo vb delay n, .iface tt (.pointer (some ⟨sb, 0, none⟩)), rfl, ⟨⟨hx, fun q hq => ?_, fun q hq => ?_, fun q hq => ?_, .inl rfl, fun q j hq e => ?_, fun q q' j hq hq' e e' => ?_, fun j hj => ?_, hn2, hn, ⟨hw1, hw⟩, hnum, Nat.zero_le _⟩, ?_, ?_⟩, fun j hj => ?_, (bB.trans (hB2.mono z1)).trans (hb.mono (by omega))⟩
      · simp only [vTo, if_pos hq]
        have := own_new (hvs q hq).2 (by omega)
        simpa [peer0, zRow] using this
      · simp only [vTo, if_neg (show ¬ q < n by omega)]
      · simp [peer0]; omega
      · simp only [vTo, if_pos hq] at e
        injection e with e
        have e2 : vb q = j := e
        have := (hvs q hq).1
        exact ⟨.inr (.inr ⟨q, hq, e2.symm⟩), by omega, fun h => by have := hFS j h; omega⟩
      · simp only [vTo, if_pos hq, if_pos hq'] at e e'
        injection e with e
        injection e' with e'
        have e2 : vb q = j := e
        have e3 : vb q' = j := e'
        exact hinj q q' hq hq' (by omega)
      · have := hFS j hj
        exact ⟨.inr (.inl hj), by omega⟩
      · have := (hSt (insM (peer0 delay) n)).same (w' := wr) (fun j hj => hb.block j (hFS j hj).2)
        simpa [peer0] using this
      · refine ⟨by simp [peer0], fun q _ => by simp [peer0]; omega, fun q _ j => ?_, by simp [peer0], fun q _ => by simp [peer0], by simp [peer0], hd⟩
        have : ((peer0 delay).known q).getD j 0 = 0 := by simp [peer0, List.getD_eq_getElem?_getD, List.getElem?_replicate]; split <;> rfl
        rw [this]; omega
      · rcases hj with rfl | hj | ⟨q, hq, rfl⟩
        · omega
        · have := hFS j hj; omega
        · have h1 := (hvs q hq).1
          have h2 := (hvs q hq).2.lt
          omega
end Go.Proofs.YtandblanpafjoabGreatDoor

namespace Go.Proofs.YtandblanpafjoabGreatDoor
open Go.RowKit Go.Extern.Stop Go.Stop Go.Extern

/-! What a net is made of. -/
theorem Tryz.infoI64 : (Tryz.prog.info? 3).map (fun i => (i.zero, i.size, i.bytes)) = some (some (.int .i64 0), 1, 8) := by kernel_rfl
theorem Tryz.sizeWire : (Tryz.prog.info? 81).map (·.size) = some 4 := by kernel_rfl
/-- Lags as they come in: none, or in a block of someone's. -/
def LagSrc (w : World) (lv : Value) (lags : List Int) : Prop := (lv = .slice none 0 0 ∧ lags = []) ∨ ∃ b c, lv = .slice (some ⟨b, 0, none⟩) lags.length c ∧ 0 < lags.length ∧ b < w.heap.size ∧ ∀ j, j < lags.length → w.cell? ⟨b, j, none⟩ = some (.int .i64 (lags.getD j 0))
theorem LagSrc.below {w w' : World} {lv : Value} {lags : List Int} (h : LagSrc w lv lags) (hb : Below w.heap.size w w') : LagSrc w' lv lags := by
  rcases h with h | ⟨b, c, e, h0, hl, hc⟩
  · exact .inl h
  · exact .inr ⟨b, c, e, h0, by have := hb.size; omega, fun j hj => (hb.cell (p := ⟨b, j, none⟩) hl).trans (hc j hj)⟩

set_option maxHeartbeats 400000 in
theorem canPlay_yes (n : Nat) (w : World) (h : 2 ≤ n ∧ n ≤ 4) : Calls Tryz.prog 43 #[.int .i64 (n : Int)] w fun e w' => e = .returned (.bool true) ∧ w' = w := by
  have d1 : decide ((2 : Int) ≤ (n : Int)) = true := by simp; omega
  have d2 : decide ((n : Int) ≤ 4) = true := by simp; omega
  go_enter Tryz.func43, Tryz.ntmps43
  go_wp2
  go_ret
  exact ⟨rfl, rfl⟩
set_option maxHeartbeats 400000 in
theorem lags_yes (lv : Value) (lags : List Int) (w : World) (h : LagSrc w lv lags) (hl : lags.length ≤ 8) (hr : ∀ x ∈ lags, -1 ≤ x ∧ x ≤ 20) : Calls Tryz.prog 93 #[lv] w fun e w' => e = .returned (.bool true) ∧ w' = w := by
  rcases h with ⟨rfl, rfl⟩ | ⟨b, c, rfl, h0, _, hc⟩
  · go_enter Tryz.func93, Tryz.ntmps93
    go_wp2_with fail
    go_loop [10] (fun i => i = .int .i64 0) (fun _ => 0)
    case atStart => rfl
    case round =>
      subst hrel
      go_wp2
      go_ret
      exact ⟨rfl, rfl⟩
  · have d1 : decide ((8 : Int) < (lags.length : Int)) = false := by simp; omega
    have HR := hide hr
    have HC := hide hc
    clear hr hc
    go_enter Tryz.func93, Tryz.ntmps93
    go_wp2_with fail
    go_loop [10] (fun i => ∃ k : Nat, k ≤ lags.length ∧ i = .int .i64 (k : Int)) (fun i => lags.length - (intOf i).toNat)
    case atStart => exact ⟨0, by omega, rfl⟩
    case round =>
      obtain ⟨k, hk, rfl⟩ := hrel
      by_cases hlt : k < lags.length
      · have hd : decide (k < lags.length) = true := by simp; omega
        have ck := unhide HC k hlt
        have k0 : (0 : Int) ≤ (k : Int) := by omega
        have k1 : (k : Int) < (lags.length : Int) := by omega
        have hadd := i64_id ((k : Int) + 1) (by omega) (by omega)
        have hx : -1 ≤ lags.getD k 0 ∧ lags.getD k 0 ≤ 20 := by
          rw [List.getD_eq_getElem?_getD, List.getElem?_eq_getElem hlt]
          exact unhide HR _ (List.getElem_mem _)
        generalize lags.getD k 0 = x at *
        have e1 : decide (x < -1) = false := by simp; omega
        have e2 : decide (20 < x) = false := by simp; omega
        clear hx
        go_wp2
        exact ⟨⟨k + 1, by omega, by go_num⟩, by simp [intOf]; omega⟩
      · have hd : decide (k < lags.length) = false := by simp; omega
        go_wp2
        go_ret
        exact ⟨rfl, rfl⟩
end Go.Proofs.YtandblanpafjoabGreatDoor

