import Derived.Test.YtandblanpafjoaaGreatDoorPack26
import Derived.Test.YtandblanpafjoaaGreatDoorPack25
namespace Go.Proofs.YtandblanpafjoaaGreatDoor
open Go.RowKit Go.Extern.Stop Go.Stop Go.Extern Go.Maps
def peer0 (delay : Nat) : PeerM := { known := fun _ => List.replicate delay 0, frame := 0, acked := fun _ => delay, dropped := 0 }
def zRow (n : Nat) : List Int := List.replicate n 0
theorem zRow_len (n : Nat) : (zRow n).length = n := by simp [zRow]
set_option maxRecDepth 10000 in
theorem makeBytesN (n : Nat) (hn : n ≤ 4) (w : World) : (Instr.makeSlice 46 (.int .i64 (n : Int)) (.int .i64 (n : Int))).run Tryz.prog w = .ok (.slice (some ⟨w.heap.size, 0, none⟩) n n) (w.alloc (.cells (nums .u8 (zRow n)) 5)) := by
  obtain ⟨i8, hi8, hz8, hs8, hy8⟩ := info_parts Tryz.infoU8
  rw [run_make w 46 5 i8 (.int .u8 0) Tryz.underlying46 hi8 hz8 .i64 .i64 _ _ (by omega) (Int.le_refl _) (by rw [hy8]; omega) (by omega)]
  rw [show ((n : Int)).toNat = n by omega, hs8, Nat.mul_one]
  congr 3
  apply Array.ext
  · simp [madeCells, nums, zRow]
  · intro i h1 h2
    simp [madeCells, nums, zRow, Value.cells, Nat.mod_one]
theorem own_new {w : World} {g n : Nat} (h : Blk w g (nums .u8 (zRow n)) 5) (hn : n ≤ 1000) : w.ownsRow 0 5 1 (.slice (some ⟨g, 0, none⟩) n n) n ((zRow n).map (Value.int .u8)) :=
  ⟨by simp [zRow], .inr ⟨g, n, _, rfl, Nat.zero_le _, h, Nat.le_refl _, by unfold maxLen; omega, by rw [nums_size, zRow_len]; omega, by simp [nums, zRow]⟩⟩
/-- The slices of the first k players. -/
def vTo (vb : Nat → Nat) (delay k : Nat) : Nat → Value := fun q => if q < k then .slice (some ⟨vb q, 0, none⟩) delay delay else .slice none 0 0
def aTo (delay k : Nat) : Nat → Nat := fun q => if q < k then delay else 0
theorem vTo_step (vb : Nat → Nat) (delay k g : Nat) : updV (vTo vb delay k) k (.slice (some ⟨g, 0, none⟩) delay delay) = vTo (fun i => if i = k then g else vb i) delay (k + 1) := by
  funext q
  simp only [updV, vTo]
  by_cases e : q = k
  · subst e; simp
  · by_cases h : q < k
    · rw [if_neg e, if_pos h, if_pos (by omega), if_neg e]
    · rw [if_neg e, if_neg h, if_neg (by omega)]
theorem pCells_ackTo (num n win delay dropped q m : Nat) (v : Nat → Value) (ak : Nat → Nat) (st : Value) (hq : q < 4) : (pCells num n win delay dropped v ak st).toArray.setIfInBounds (9 + q) (.int .i64 (m : Int)) = (pCells num n win delay dropped v (fun k => if k = q then m else ak k) st).toArray := by
  rcases q with _ | _ | _ | _ | q
  · simp [pCells]
  · simp [pCells]
  · simp [pCells]
  · simp [pCells]
  · omega
theorem aTo_step (delay k : Nat) : (fun q => if q = k then delay else aTo delay k q) = aTo delay (k + 1) := by
  funext q
  simp only [aTo]
  by_cases e : q = k
  · subst e; simp
  · by_cases h : q < k
    · rw [if_neg e, if_pos h, if_pos (by omega)]
    · rw [if_neg e, if_neg h, if_neg (by omega)]
set_option maxRecDepth 10000 in
set_option maxHeartbeats 2000000 in
theorem pNew_any (num n win delay kind : Nat) (lv : Value) (w : World) (hn2 : 2 ≤ n) (hn : n ≤ 4) (hw1 : 1 ≤ win) (hw : win ≤ 8) (hd : delay ≤ 3) (hnum : num < n) :
    Calls Tryz.prog 80 #[.int .i64 (num : Int), .agg #[.int .i64 (n : Int), .int .i64 (win : Int), .int .i64 (delay : Int), .int .i64 (kind : Int), lv]] w fun e w' => ∃ b F FS v st, e = .returned (.pointer (some ⟨b, 0, none⟩)) ∧ PeerAt w' b F FS num n win delay (peer0 delay) v st ∧ (∀ k, F k → w.heap.size ≤ k ∧ k < w'.heap.size) ∧ Below w.heap.size w w' := by
  have bB : Below w.heap.size w (w.alloc (.cells #[.int .i64 (n : Int), .int .i64 (win : Int), .int .i64 (delay : Int), .int .i64 (kind : Int), lv] 50)) := (Below.refl _ w).alloc (Nat.le_refl _) _
  have xB : Blk (w.alloc (.cells #[.int .i64 (n : Int), .int .i64 (win : Int), .int .i64 (delay : Int), .int .i64 (kind : Int), lv] 50)) w.heap.size #[.int .i64 (n : Int), .int .i64 (win : Int), .int .i64 (delay : Int), .int .i64 (kind : Int), lv] 50 := Blk.new _ _ _
  go_enter Tryz.func80, Tryz.ntmps80
  go_wp2_with fail
  generalize w.alloc (.cells #[.int .i64 (n : Int), .int .i64 (win : Int), .int .i64 (delay : Int), .int .i64 (kind : Int), lv] 50) = W1 at *
  have m0 : W1.cell? ⟨w.heap.size, 0, none⟩ = some (.int .i64 (n : Int)) := xB.cell 0
  have m1 : W1.cell? ⟨w.heap.size, 1, none⟩ = some (.int .i64 (win : Int)) := xB.cell 1
  have m2 : W1.cell? ⟨w.heap.size, 2, none⟩ = some (.int .i64 (delay : Int)) := xB.cell 2
  have m3 : W1.cell? ⟨w.heap.size, 3, none⟩ = some (.int .i64 (kind : Int)) := xB.cell 3
  have HX := hide (And.intro bB xB)
  have hxl := xB.lt
  clear bB xB
  refine wp_region_noPanic ?_
  refine wp_held_tail 13 14 (fun W' => W'.cell? ⟨w.heap.size, 0, none⟩ = some (.int .i64 (n : Int)) ∧ W'.cell? ⟨w.heap.size, 1, none⟩ = some (.int .i64 (win : Int)) ∧ W'.cell? ⟨w.heap.size, 2, none⟩ = some (.int .i64 (delay : Int)) ∧ W'.cell? ⟨w.heap.size, 3, none⟩ = some (.int .i64 (kind : Int))) (by kernel_rfl) (by decide) (by kernel_rfl) (by kernel_rfl) (by kernel_rfl) (fun _ _ _ _ _ h => h) ⟨m0, m1, m2, m3⟩ ?_
  simp only [List.take_succ_cons, List.take_zero, List.drop_succ_cons, List.drop_zero]
  refine wpHeld_op ?y0 rfl ?z0 ?_
  case z0 => intro w' hS; obtain ⟨hS1, hS2, hS3, hS4⟩ := hS; go_simp; rfl
  refine wpHeld_op ?y1 rfl ?z1 ?_
  case z1 => intro w' hS; obtain ⟨hS1, hS2, hS3, hS4⟩ := hS; go_simp; rfl
  refine wpHeld_op ?y2 rfl ?z2 ?_
  case z2 => intro w' hS; obtain ⟨hS1, hS2, hS3, hS4⟩ := hS; go_simp; rfl
  refine wpHeld_op ?y3 rfl ?z3 ?_
  case z3 => intro w' hS; obtain ⟨hS1, hS2, hS3, hS4⟩ := hS; go_simp; rfl
  refine wpHeld_op ?y4 rfl ?z4 ?_
  case z4 => intro w' hS; obtain ⟨hS1, hS2, hS3, hS4⟩ := hS; go_simp; rfl
  refine wpHeld_op ?y5 rfl ?z5 ?_
  case z5 => intro w' hS; obtain ⟨hS1, hS2, hS3, hS4⟩ := hS; go_simp; rfl
  refine wpHeld_op ?y6 rfl ?z6 ?_
  case z6 => intro w' hS; obtain ⟨hS1, hS2, hS3, hS4⟩ := hS; go_simp; rfl
  refine wpHeld_op ?y7 rfl ?z7 ?_
  case z7 => intro w' hS; obtain ⟨hS1, hS2, hS3, hS4⟩ := hS; go_simp; rfl
  refine wpHeld_op ?y8 rfl ?z8 ?_
  case z8 => intro w' hS; obtain ⟨hS1, hS2, hS3, hS4⟩ := hS; go_simp; rfl
  refine wpHeld_op ?y9 rfl ?z9 ?_
  case z9 => intro w' hS; obtain ⟨hS1, hS2, hS3, hS4⟩ := hS; go_simp; rfl
  refine wpHeld_op ?y10 rfl ?z10 ?_
  case z10 => intro w' hS; obtain ⟨hS1, hS2, hS3, hS4⟩ := hS; go_simp; rfl
  refine wpHeld_op ?y11 rfl ?z11 ?_
  case z11 => intro w' hS; obtain ⟨hS1, hS2, hS3, hS4⟩ := hS; go_simp; rfl
  refine wpHeld_op ?y12 rfl ?z12 ?_
  case z12 => intro w' hS; obtain ⟨hS1, hS2, hS3, hS4⟩ := hS; go_simp; rfl
  unfold wpHeld
  refine wpAnyH_all (rs := [13]) (by kernel_rfl) (by simp) ?_
  intro j hj
  obtain rfl : j = 13 := by simpa using hj
  refine wpOp_of_list _ rfl rfl ?_
  go_wp2_with fail
  refine (stNew_any kind n win W1.drew hn (by omega)).mono ?_
  rintro e w2 ⟨st, FS, rfl, hSt, hFS, hb2⟩
  obtain ⟨tt, sb, est, hm1, hm2⟩ := (hSt (fun _ => [])).frame_call
  clear hm1 hm2
  subst est
  have hB2 : Below W1.heap.size W1 w2 := ⟨hb2.os, hb2.tape, hb2.output, hb2.size, hb2.block⟩
  have k0 := (hB2.cell (p := ⟨w.heap.size, 0, none⟩) hxl).trans m0
  have k1 := (hB2.cell (p := ⟨w.heap.size, 1, none⟩) hxl).trans m1
  have k2 := (hB2.cell (p := ⟨w.heap.size, 2, none⟩) hxl).trans m2
  have k3 := (hB2.cell (p := ⟨w.heap.size, 3, none⟩) hxl).trans m3
  have H2 := hide (And.intro hSt (And.intro hFS hB2))
  clear hSt hFS hB2 hb2
  go_wp2_with fail
  refine ⟨⟨k0, k1, k2, k3⟩, ⟨by kernel_rfl, ?_⟩⟩
  change wpList _ _ _ _ _ _
  go_wp2_with fail
  refine NoPanic.normal ?_
  have x3 : Blk (w2.alloc (.cells #[.int .i64 (num : Int), .int .i64 (n : Int), .int .i64 (win : Int), .int .i64 (delay : Int), .int .i64 0, .slice none 0 0, .slice none 0 0, .slice none 0 0, .slice none 0 0, .int .i64 0, .int .i64 0, .int .i64 0, .int .i64 0, .iface tt (.pointer (some ⟨sb, 0, none⟩))] 122)) w2.heap.size (pCells num n win delay 0 (vTo (fun _ => 0) delay 0) (aTo delay 0) (.iface tt (.pointer (some ⟨sb, 0, none⟩)))).toArray 122 := Blk.new _ _ _
  have hb3 : Below w2.heap.size w2 (w2.alloc (.cells #[.int .i64 (num : Int), .int .i64 (n : Int), .int .i64 (win : Int), .int .i64 (delay : Int), .int .i64 0, .slice none 0 0, .slice none 0 0, .slice none 0 0, .slice none 0 0, .int .i64 0, .int .i64 0, .int .i64 0, .int .i64 0, .iface tt (.pointer (some ⟨sb, 0, none⟩))] 122)) := (Below.refl _ w2).alloc (Nat.le_refl _) _
  have hxl2 : w.heap.size < w2.heap.size := World.block_lt_of_cell? w2 _ k0
  obtain ⟨W3, hW3⟩ : ∃ W3, w2.alloc (.cells #[.int .i64 (num : Int), .int .i64 (n : Int), .int .i64 (win : Int), .int .i64 (delay : Int), .int .i64 0, .slice none 0 0, .slice none 0 0, .slice none 0 0, .slice none 0 0, .int .i64 0, .int .i64 0, .int .i64 0, .int .i64 0, .iface tt (.pointer (some ⟨sb, 0, none⟩))] 122) = W3 := ⟨_, rfl⟩
  rw [hW3] at x3 hb3 ⊢
  clear hW3
  have j0 : W3.cell? ⟨w.heap.size, 0, none⟩ = some (.int .i64 (n : Int)) := (hb3.cell (p := ⟨w.heap.size, 0, none⟩) hxl2).trans k0
  have H3 := hide (And.intro x3 hb3)
  clear x3 hb3 m0 m1 m2 m3 k0 k1 k3
  go_wp2_with fail
  go_loopw [25] (fun i wr => ∃ (k : Nat) (vb : Nat → Nat), k ≤ n ∧ i = .int .i64 (k : Int) ∧ Below w2.heap.size w2 wr ∧ w2.heap.size + 1 ≤ wr.heap.size ∧ Blk wr w2.heap.size (pCells num n win delay 0 (vTo vb delay k) (aTo delay k) (.iface tt (.pointer (some ⟨sb, 0, none⟩)))).toArray 122 ∧ (∀ q, q < k → w2.heap.size + 1 ≤ vb q ∧ Blk wr (vb q) (nums .u8 (zRow delay)) 5) ∧ (∀ q q', q < k → q' < k → vb q = vb q' → q = q')) (fun i _ => n - (intOf i).toNat)
  case atStart =>
    obtain ⟨x3, hb3⟩ := unhide H3
    exact ⟨0, fun _ => 0, by omega, rfl, hb3, x3.lt, x3, fun q hq => by omega, fun q q' hq => by omega⟩
  case round =>
    obtain ⟨k, vb, hk, rfl, hb, hsz, hx, hvs, hinj⟩ := hrel
    clear j0
    by_cases hlt : k < n
    · have hdc : decide ((k : Int) < (n : Int)) = true := by simp; omega
      have q0 : (0 : Int) ≤ (k : Int) := by omega
      have q1 : (k : Int) < 4 := by omega
      have hadd := i64_id ((k : Int) + 1) (by omega) (by omega)
      have cd : wr.cell? ⟨w.heap.size, 2, none⟩ = some (.int .i64 (delay : Int)) := (hb.cell (p := ⟨w.heap.size, 2, none⟩) hxl2).trans k2
      have hmk := makeBytesN delay (by omega)
      have HR := hide (And.intro hb (And.intro hx (And.intro hvs hinj)))
      have hbA : Below wr.heap.size wr (wr.alloc (.cells (nums .u8 (zRow delay)) 5)) := (Below.refl _ wr).alloc (Nat.le_refl _) _
      have hxA : Blk (wr.alloc (.cells (nums .u8 (zRow delay)) 5)) w2.heap.size (pCells num n win delay 0 (vTo vb delay k) (aTo delay k) (.iface tt (.pointer (some ⟨sb, 0, none⟩)))).toArray 122 := (hbA.block _ (by omega)).trans hx
      have cA : (wr.alloc (.cells (nums .u8 (zRow delay)) 5)).cell? ⟨w2.heap.size, 5 + k, none⟩ = some (.slice none 0 0) := by
        rw [hxA.cell]
        have hk4 : k < 4 := by omega
        rcases k with _ | _ | _ | _ | k
        · simp [pCells, vTo]
        · simp [pCells, vTo]
        · simp [pCells, vTo]
        · simp [pCells, vTo]
        · omega
      have fA : (wr.alloc (.cells (nums .u8 (zRow delay)) 5)).frozen? ⟨w2.heap.size, 5 + k, none⟩ = false := hxA.frozen _
      have cdA : (wr.alloc (.cells (nums .u8 (zRow delay)) 5)).cell? ⟨w.heap.size, 2, none⟩ = some (.int .i64 (delay : Int)) := (hbA.cell (p := ⟨w.heap.size, 2, none⟩) (by show w.heap.size < wr.heap.size; omega)).trans cd
      have hnA : Blk (wr.alloc (.cells (nums .u8 (zRow delay)) 5)) wr.heap.size (nums .u8 (zRow delay)) 5 := Blk.new _ _ _
      have HA := hide (And.intro hbA (And.intro hxA hnA))
      clear hb hx hvs hinj hbA hxA hnA
      go_wp2_with fail
      refine wp_region_noPanic ?_
      refine wp_held_tail 4 7 (fun W' => W'.cell? ⟨w.heap.size, 2, none⟩ = some (.int .i64 (delay : Int))) (by kernel_rfl) (by decide) (by kernel_rfl) (by kernel_rfl) (by kernel_rfl) (fun _ _ _ _ _ h => h) cd ?_
      simp only [List.take_succ_cons, List.take_zero, List.drop_succ_cons, List.drop_zero]
      refine wpHeld_op ?ya0 rfl ?za0 ?_
      case za0 => intro w' hS; go_simp; rfl
      refine wpHeld_op ?ya1 rfl ?za1 ?_
      case za1 => intro w' hS; go_simp; rfl
      refine wpHeld_op ?ya2 rfl ?za2 ?_
      case za2 => intro w' hS; go_simp; rfl
      refine wpHeld_op ?ya3 rfl ?za3 ?_
      case za3 => intro w' hS; go_simp; rfl
      unfold wpHeld
      refine wpAnyH_take (i := 5) (v := .pointer (some ⟨w2.heap.size, 0, none⟩)) rfl (by kernel_rfl) (by kernel_rfl) (by kernel_rfl) (fun _ _ _ h => h) (Or.inl ⟨by rfl, ?g5⟩) cd ?_
      case g5 => intro w' _; go_simp
      refine wpAnyH_take (i := 6) (v := .pointer (some ⟨w2.heap.size, 5, none⟩)) rfl (by kernel_rfl) (by kernel_rfl) (by kernel_rfl) (fun _ _ _ h => h) (Or.inl ⟨by rfl, ?g6⟩) cd ?_
      case g6 => intro w' _; go_simp
      refine wpAnyH_all (rs := [4]) (by kernel_rfl) (by simp) ?_
      intro j hj
      obtain rfl : j = 4 := by simpa using hj
      refine wpOp_of_list _ rfl rfl ?_
      go_wp2_with fail
      refine ⟨cdA, ⟨by kernel_rfl, ?_⟩⟩
      clear hmk
      generalize wr.alloc (.cells (nums .u8 (zRow delay)) 5) = W4 at *
      change wpList _ _ _ _ _ _
      go_wp2_with fail
      refine NoPanic.normal ?_
      go_wp2_with fail
      obtain ⟨hbA, hxA, hnA⟩ := unhide HA
      have hx5 := hxA.set (5 + k) (.slice (some ⟨wr.heap.size, 0, none⟩) delay delay)
      rw [pCells_set num n win delay 0 k _ _ _ _ (by omega), vTo_step] at hx5
      have c9 : (W4.setCell ⟨w2.heap.size, 5 + k, none⟩ (.slice (some ⟨wr.heap.size, 0, none⟩) delay delay)).cell? ⟨w2.heap.size, 9 + k, none⟩ = some (.int .i64 0) := by
        rw [hx5.cell]
        have hk4 : k < 4 := by omega
        rcases k with _ | _ | _ | _ | k
        · simp [pCells, aTo]
        · simp [pCells, aTo]
        · simp [pCells, aTo]
        · simp [pCells, aTo]
        · omega
      have f9 : (W4.setCell ⟨w2.heap.size, 5 + k, none⟩ (.slice (some ⟨wr.heap.size, 0, none⟩) delay delay)).frozen? ⟨w2.heap.size, 9 + k, none⟩ = false := hx5.frozen _
      have cd5 : (W4.setCell ⟨w2.heap.size, 5 + k, none⟩ (.slice (some ⟨wr.heap.size, 0, none⟩) delay delay)).cell? ⟨w.heap.size, 2, none⟩ = some (.int .i64 (delay : Int)) := (World.cell?_of_block (a := ⟨w.heap.size, 2, none⟩) (heap_setCell_other _ _ _ _ (fun e => by have : w.heap.size = w2.heap.size := e; omega))).trans cdA
      have hz4 := hbA.size
      have hzz : (W4.setCell ⟨w2.heap.size, 5 + k, none⟩ (.slice (some ⟨wr.heap.size, 0, none⟩) delay delay)).heap.size = W4.heap.size := by simp
      have hg5 : ∀ j, j ≠ w2.heap.size → (W4.setCell ⟨w2.heap.size, 5 + k, none⟩ (.slice (some ⟨wr.heap.size, 0, none⟩) delay delay)).heap[j]? = W4.heap[j]? := fun j hj => heap_setCell_other _ _ _ _ (fun e => hj e)
      have hos : (W4.setCell ⟨w2.heap.size, 5 + k, none⟩ (.slice (some ⟨wr.heap.size, 0, none⟩) delay delay)).os = wr.os ∧ (W4.setCell ⟨w2.heap.size, 5 + k, none⟩ (.slice (some ⟨wr.heap.size, 0, none⟩) delay delay)).tape = wr.tape ∧ (W4.setCell ⟨w2.heap.size, 5 + k, none⟩ (.slice (some ⟨wr.heap.size, 0, none⟩) delay delay)).output = wr.output := by
        have := (Chg.setCell (F := fun k => k = w2.heap.size) W4 w2.heap.size (5 + k) (.slice (some ⟨wr.heap.size, 0, none⟩) delay delay) rfl)
        exact ⟨this.os.trans hbA.os, this.tape.trans hbA.tape, this.output.trans hbA.output⟩
      have H5 := hide (And.intro hx5 (And.intro hzz (And.intro hg5 hos)))
      clear hx5 hg5 hzz hos cA fA cdA hbA hxA hnA
      generalize W4.setCell ⟨w2.heap.size, 5 + k, none⟩ (.slice (some ⟨wr.heap.size, 0, none⟩) delay delay) = W5 at *
      refine wp_moves_reads_tail0 6 (by kernel_rfl) (by kernel_rfl) (by kernel_rfl) (by kernel_rfl) ?_
      simp only [List.take_succ_cons, List.take_zero, List.drop_succ_cons, List.drop_zero]
      repeat still_step
      refine wpStill_nil ?_
      go_wp2
      obtain ⟨hb, hx, hvs, hinj⟩ := unhide HR
      obtain ⟨hbA, hxA, hnA⟩ := unhide HA
      obtain ⟨hx5, hzz, hg5, hos⟩ := unhide H5
      have hx6 := hx5.set (9 + k) (.int .i64 (delay : Int))
      rw [pCells_ackTo num n win delay 0 k delay _ _ _ (by omega), aTo_step] at hx6
      have hsm : ∀ j, j ≠ w2.heap.size → j < wr.heap.size → (W5.setCell ⟨w2.heap.size, 9 + k, none⟩ (.int .i64 (delay : Int))).heap[j]? = wr.heap[j]? := fun j hj hl => by
        rw [heap_setCell_other _ _ _ _ (fun e => hj e), hg5 j hj, hbA.block j hl]
      have hC6 := Chg.setCell (F := fun k => k = w2.heap.size) W5 w2.heap.size (9 + k) (.int .i64 (delay : Int)) rfl
      refine ⟨⟨k + 1, fun i => if i = k then wr.heap.size else vb i, by omega, by go_num, ⟨(hC6.os.trans hos.1).trans hb.os, (hC6.tape.trans hos.2.1).trans hb.tape, (hC6.output.trans hos.2.2).trans hb.output, ?_, fun j hj => (hsm j (by omega) (by omega)).trans (hb.block j hj)⟩, ?_, hx6, fun q hq => ?_, fun q q' hq hq' e => ?_⟩, by simp [intOf]; omega⟩
      · show w2.heap.size ≤ (W5.setCell ⟨w2.heap.size, 9 + k, none⟩ (.int .i64 (delay : Int))).heap.size
        simp; omega
      · show w2.heap.size + 1 ≤ (W5.setCell ⟨w2.heap.size, 9 + k, none⟩ (.int .i64 (delay : Int))).heap.size
        simp; omega
      · by_cases e : q = k
        · simp only [if_pos e]
          refine ⟨hsz, ?_⟩
          show (W5.setCell ⟨w2.heap.size, 9 + k, none⟩ (.int .i64 (delay : Int))).heap[wr.heap.size]? = _
          rw [heap_setCell_other _ _ _ _ (fun e => by have : wr.heap.size = w2.heap.size := e; omega), hg5 _ (by omega)]
          exact hnA
        · simp only [if_neg e]
          have := hvs q (by omega)
          exact ⟨this.1, (hsm (vb q) (by omega) this.2.lt).trans this.2⟩
      · by_cases e1 : q = k
        · by_cases e2 : q' = k
          · omega
          · simp only [if_pos e1, if_neg e2] at e
            have := (hvs q' (by omega)).2.lt; omega
        · by_cases e2 : q' = k
          · simp only [if_neg e1, if_pos e2] at e
            have := (hvs q (by omega)).2.lt; omega
          · simp only [if_neg e1, if_neg e2] at e
            exact hinj q q' (by omega) (by omega) e
    · have hdc : decide ((k : Int) < (n : Int)) = false := by simp; omega
      have hke : k = n := by omega
      have HR := hide (And.intro hb (And.intro hx (And.intro hvs (And.intro hinj hke))))
      clear hb hx hvs hinj hke
      go_wp2
      go_ret
      obtain ⟨hb, hx, hvs, hinj, hke⟩ := unhide HR
      obtain ⟨hSt, hFS, hB2⟩ := unhide H2
      obtain ⟨bB, xB⟩ := unhide HX
      rw [hke] at hx hvs hinj
      have z1 := bB.size
      have z2 := hB2.size
      have h1d : W1.drew.heap.size = W1.heap.size := rfl
      refine ⟨w2.heap.size, fun j => j = w2.heap.size ∨ FS j ∨ ∃ q, q < n ∧ j = vb q, FS, vTo vb delay n, .iface tt (.pointer (some ⟨sb, 0, none⟩)), rfl, ⟨⟨hx, fun q hq => ?_, fun q hq => ?_, fun q hq => ?_, .inl rfl, fun q j hq e => ?_, fun q q' j hq hq' e e' => ?_, fun j hj => ?_, hn2, hn, ⟨hw1, hw⟩, hnum, Nat.zero_le _⟩, ?_, ?_⟩, fun j hj => ?_, (bB.trans (hB2.mono z1)).trans (hb.mono (by omega))⟩
      · simp only [vTo, if_pos hq]
        have := own_new (hvs q hq).2 (by omega)
        simpa [peer0, zRow] using this
      · simp only [vTo, if_neg (show ¬ q < n by omega)]
      · simp [peer0]; omega
      · simp only [vTo, if_pos hq] at e
        injection e with e
        have e2 : vb q = j := e
        have := (hvs q hq).1
        exact ⟨.inr (.inr ⟨q, hq, e2.symm⟩), by omega, fun h => by have := hFS j h; omega⟩
      · simp only [vTo, if_pos hq, if_pos hq'] at e e'
        injection e with e
        injection e' with e'
        have e2 : vb q = j := e
        have e3 : vb q' = j := e'
        exact hinj q q' hq hq' (by omega)
      · have := hFS j hj
        exact ⟨.inr (.inl hj), by omega⟩
      · have := (hSt (insM (peer0 delay) n)).same (w' := wr) (fun j hj => hb.block j (hFS j hj).2)
        simpa [peer0] using this
      · refine ⟨by simp [peer0], fun q _ => by simp [peer0]; omega, fun q _ j => ?_, by simp [peer0], fun q _ => by simp [peer0], by simp [peer0], hd⟩
        have : ((peer0 delay).known q).getD j 0 = 0 := by simp [peer0, List.getD_eq_getElem?_getD, List.getElem?_replicate]; split <;> rfl
        rw [this]; omega
      · rcases hj with rfl | hj | ⟨q, hq, rfl⟩
        · omega
        · have := hFS j hj; omega
        · have h1 := (hvs q hq).1
          have h2 := (hvs q hq).2.lt
          omega
end Go.Proofs.YtandblanpafjoaaGreatDoor

namespace Go.Proofs.YtandblanpafjoaaGreatDoor
open Go.RowKit Go.Extern.Stop Go.Stop Go.Extern
theorem Tryz.infoI64 : (Tryz.prog.info? 3).map (fun i => (i.zero, i.size, i.bytes)) = some (some (.int .i64 0), 1, 8) := by kernel_rfl
theorem Tryz.sizeWire : (Tryz.prog.info? 64).map (·.size) = some 4 := by kernel_rfl
/-- Lags as they come in: none, or in a block of someone's. -/
def LagSrc (w : World) (lv : Value) (lags : List Int) : Prop := (lv = .slice none 0 0 ∧ lags = []) ∨ ∃ b c, lv = .slice (some ⟨b, 0, none⟩) lags.length c ∧ 0 < lags.length ∧ b < w.heap.size ∧ ∀ j, j < lags.length → w.cell? ⟨b, j, none⟩ = some (.int .i64 (lags.getD j 0))
theorem LagSrc.below {w w' : World} {lv : Value} {lags : List Int} (h : LagSrc w lv lags) (hb : Below w.heap.size w w') : LagSrc w' lv lags := by
  rcases h with h | ⟨b, c, e, h0, hl, hc⟩
  · exact .inl h
  · exact .inr ⟨b, c, e, h0, by have := hb.size; omega, fun j hj => (hb.cell (p := ⟨b, j, none⟩) hl).trans (hc j hj)⟩
set_option maxHeartbeats 400000 in
theorem canPlay_yes (n : Nat) (w : World) (h : 2 ≤ n ∧ n ≤ 4) : Calls Tryz.prog 103 #[.int .i64 (n : Int)] w fun e w' => e = .returned (.bool true) ∧ w' = w := by
  have d1 : decide ((2 : Int) ≤ (n : Int)) = true := by simp; omega
  have d2 : decide ((n : Int) ≤ 4) = true := by simp; omega
  go_enter Tryz.func103, Tryz.ntmps103
  go_wp2
  go_ret
  exact ⟨rfl, rfl⟩
set_option maxHeartbeats 400000 in
theorem lags_yes (lv : Value) (lags : List Int) (w : World) (h : LagSrc w lv lags) (hl : lags.length ≤ 8) (hr : ∀ x ∈ lags, -1 ≤ x ∧ x ≤ 20) : Calls Tryz.prog 104 #[lv] w fun e w' => e = .returned (.bool true) ∧ w' = w := by
  rcases h with ⟨rfl, rfl⟩ | ⟨b, c, rfl, h0, _, hc⟩
  · go_enter Tryz.func104, Tryz.ntmps104
    go_wp2_with fail
    go_loop [10] (fun i => i = .int .i64 0) (fun _ => 0)
    case atStart => rfl
    case round =>
      subst hrel
      go_wp2
      go_ret
      exact ⟨rfl, rfl⟩
  · have d1 : decide ((8 : Int) < (lags.length : Int)) = false := by simp; omega
    have HR := hide hr
    have HC := hide hc
    clear hr hc
    go_enter Tryz.func104, Tryz.ntmps104
    go_wp2_with fail
    go_loop [10] (fun i => ∃ k : Nat, k ≤ lags.length ∧ i = .int .i64 (k : Int)) (fun i => lags.length - (intOf i).toNat)
    case atStart => exact ⟨0, by omega, rfl⟩
    case round =>
      obtain ⟨k, hk, rfl⟩ := hrel
      by_cases hlt : k < lags.length
      · have hd : decide (k < lags.length) = true := by simp; omega
        have ck := unhide HC k hlt
        have k0 : (0 : Int) ≤ (k : Int) := by omega
        have k1 : (k : Int) < (lags.length : Int) := by omega
        have hadd := i64_id ((k : Int) + 1) (by omega) (by omega)
        have hx : -1 ≤ lags.getD k 0 ∧ lags.getD k 0 ≤ 20 := by
          rw [List.getD_eq_getElem?_getD, List.getElem?_eq_getElem hlt]
          exact unhide HR _ (List.getElem_mem _)
        generalize lags.getD k 0 = x at *
        have e1 : decide (x < -1) = false := by simp; omega
        have e2 : decide (20 < x) = false := by simp; omega
        clear hx
        go_wp2
        exact ⟨⟨k + 1, by omega, by go_num⟩, by simp [intOf]; omega⟩
      · have hd : decide (k < lags.length) = false := by simp; omega
        go_wp2
        go_ret
        exact ⟨rfl, rfl⟩
end Go.Proofs.YtandblanpafjoaaGreatDoor

namespace Go.Proofs.YtandblanpafjoaaGreatDoor
open Go.RowKit Go.Extern.Stop Go.Stop Go.Extern
set_option maxRecDepth 10000 in
set_option maxHeartbeats 800000 in
theorem possible_yes (n win delay kind : Nat) (lv : Value) (lags : List Int) (w : World) (h : LagSrc w lv lags) (hl : lags.length ≤ 8) (hr : ∀ x ∈ lags, -1 ≤ x ∧ x ≤ 20) (hn2 : 2 ≤ n) (hn : n ≤ 4) (hw1 : 1 ≤ win) (hw : win ≤ 8) (hd : delay ≤ 3) (hk : kind ≤ 1) :
    Calls Tryz.prog 78 #[.agg #[.int .i64 (n : Int), .int .i64 (win : Int), .int .i64 (delay : Int), .int .i64 (kind : Int), lv]] w fun e w' => e = .returned (.bool true) ∧ Below w.heap.size w w' := by
  have bB : Below w.heap.size w (w.alloc (.cells #[.int .i64 (n : Int), .int .i64 (win : Int), .int .i64 (delay : Int), .int .i64 (kind : Int), lv] 50)) := (Below.refl _ w).alloc (Nat.le_refl _) _
  have xB : Blk (w.alloc (.cells #[.int .i64 (n : Int), .int .i64 (win : Int), .int .i64 (delay : Int), .int .i64 (kind : Int), lv] 50)) w.heap.size #[.int .i64 (n : Int), .int .i64 (win : Int), .int .i64 (delay : Int), .int .i64 (kind : Int), lv] 50 := Blk.new _ _ _
  go_enter Tryz.func78, Tryz.ntmps78
  go_wp2_with fail
  refine (canPlay_yes n _ ⟨hn2, hn⟩).mono ?_
  rintro e w1 ⟨rfl, rfl⟩
  generalize w.alloc (.cells #[.int .i64 (n : Int), .int .i64 (win : Int), .int .i64 (delay : Int), .int .i64 (kind : Int), lv] 50) = W1 at *
  have m1 : W1.cell? ⟨w.heap.size, 1, none⟩ = some (.int .i64 (win : Int)) := xB.cell 1
  have m2 : W1.cell? ⟨w.heap.size, 2, none⟩ = some (.int .i64 (delay : Int)) := xB.cell 2
  have m3 : W1.cell? ⟨w.heap.size, 3, none⟩ = some (.int .i64 (kind : Int)) := xB.cell 3
  have m4 : W1.cell? ⟨w.heap.size, 4, none⟩ = some lv := xB.cell 4
  have d1 : decide ((1 : Int) ≤ (win : Int)) = true := by simp; omega
  have d2 : decide ((win : Int) ≤ 8) = true := by simp; omega
  have d3 : decide ((0 : Int) ≤ (delay : Int)) = true := by simp
  have d4 : decide ((delay : Int) ≤ 3) = true := by simp; omega
  have HX := hide (And.intro bB (h.below bB))
  clear bB xB h
  have HR := hide hr
  clear hr
  by_cases hk0 : kind = 0
  · have e1 : ((kind : Int) == 0) = true := by rw [beq_iff_eq]; omega
    clear hk0 hk
    go_wp2_with fail
    refine (lags_yes lv lags W1 (unhide HX).2 hl (unhide HR)).mono ?_
    rintro e w2 ⟨rfl, rfl⟩
    go_wp2
    go_ret
    exact ⟨rfl, (unhide HX).1⟩
  · have e1 : ((kind : Int) == 0) = false := by rw [beq_eq_false_iff_ne]; omega
    have e2 : ((kind : Int) == 1) = true := by rw [beq_iff_eq]; omega
    clear hk0 hk
    go_wp2_with fail
    refine (lags_yes lv lags W1 (unhide HX).2 hl (unhide HR)).mono ?_
    rintro e w2 ⟨rfl, rfl⟩
    go_wp2
    go_ret
    exact ⟨rfl, (unhide HX).1⟩
set_option maxRecDepth 10000 in
set_option maxHeartbeats 4000000 in
theorem wnew_any (lv : Value) (lags : List Int) (w : World) (h : LagSrc w lv lags) (hl : lags.length ≤ 8) :
    Calls Tryz.prog 79 #[lv] w fun e w' => ∃ lv', e = .returned (.agg #[lv', .int .i64 0, .int .i64 0, .slice none 0 0]) ∧ w'.ownsRow 0 3 1 lv' lags.length (lags.map (Value.int .i64)) ∧ (∀ k, lv'.ownBlock = some k → w.heap.size ≤ k) ∧ (∃ ao n c, lv' = .slice ao n c) ∧ Below w.heap.size w w' := by
  obtain ⟨i8, hi8, hz0, hz1, hz2⟩ := info_parts Tryz.infoI64
  rcases h with ⟨rfl, rfl⟩ | ⟨b, c, rfl, h0, hbl, hc⟩
  · go_enter Tryz.func79, Tryz.ntmps79
    go_wp2
    have hb : Blk (w.alloc (.cells #[.slice none 0 0, .int .i64 0, .int .i64 0, .slice none 0 0] 64)) w.heap.size #[.slice none 0 0, .int .i64 0, .int .i64 0, .slice none 0 0] 64 := Blk.new _ _ _
    refine bodyPost_ret (v := .agg #[.slice none 0 0, .int .i64 0, .int .i64 0, .slice none 0 0]) ?_ rfl ⟨.slice none 0 0, rfl, ⟨by simp, .inl ⟨rfl, rfl⟩⟩, fun k hk => (by simp [Value.ownBlock] at hk), ⟨_, _, _, rfl⟩, (Below.refl _ w).alloc (Nat.le_refl _) _⟩
    exact results_cell_row Tryz.results79 _ _ w.heap.size 64 _ (0, 0) _ rfl hb Tryz.underlying64 rfl Tryz.sizeWire
  · have HC := hide hc
    clear hc
    have bB : Below w.heap.size w (w.alloc (.cells #[.slice none 0 0, .int .i64 0, .int .i64 0, .slice none 0 0] 64)) := (Below.refl _ w).alloc (Nat.le_refl _) _
    have xB : Blk (w.alloc (.cells #[.slice none 0 0, .int .i64 0, .int .i64 0, .slice none 0 0] 64)) w.heap.size #[.slice none 0 0, .int .i64 0, .int .i64 0, .slice none 0 0] 64 := Blk.new _ _ _
    have zB : (w.alloc (.cells #[.slice none 0 0, .int .i64 0, .int .i64 0, .slice none 0 0] 64)).heap.size = w.heap.size + 1 := by simp
    have hnews : ∀ j u, (lags.map (Value.int .i64))[j]? = some u → (w.alloc (.cells #[.slice none 0 0, .int .i64 0, .int .i64 0, .slice none 0 0] 64)).cell? ((⟨b, 0, none⟩ : Addr).add j) = some u := fun j u hj => by
      have hjl : j < lags.length := by have := (List.getElem?_eq_some_iff.1 hj).1; simpa using this
      rw [Addr.add_mid, Nat.zero_add, bB.cell (p := ⟨b, j, none⟩) hbl, unhide HC j hjl]
      rw [List.getElem?_map, List.getElem?_eq_getElem hjl] at hj
      rw [List.getD_eq_getElem?_getD, List.getElem?_eq_getElem hjl]
      simpa using hj
    have hone : ∀ u ∈ lags.map (Value.int .i64), u.oneCell' = true := fun u hu => by
      obtain ⟨x, _, rfl⟩ := List.mem_map.1 hu
      rfl
    have HX := hide (And.intro bB (And.intro xB zB))
    clear bB xB zB
    go_enter Tryz.func79, Tryz.ntmps79
    go_wp2_with (at_builtin; refine wpList_append_own_at (w.alloc (.cells #[.slice none 0 0, .int .i64 0, .int .i64 0, .slice none 0 0] 64)) rfl (.const (.slice none 0 0)) (.tmp 3) 24 rfl 0 3 i8 (.int .i64 0) 1 8 Tryz.underlying24 hi8 hz0 hz1 hz2 rfl (by decide) (.slice none 0 0) 0 [] rfl ⟨rfl, .inl ⟨rfl, rfl⟩⟩ ⟨b, 0, none⟩ lags.length c (lags.map (Value.int .i64)) rfl (by simp) hnews hone (by unfold maxLen; omega) (by omega) (Nat.zero_le _) ?_)
    intro v' w3 hown3 hg3 hnil3 hloc3
    obtain ⟨g', cap', rfl, _, _, _⟩ := own_some hown3 (by omega)
    obtain ⟨bB, xB, zB⟩ := unhide HX
    have hb3 : Below w.heap.size w w3 := ⟨hg3.os.trans bB.os, hg3.tape.trans bB.tape, hg3.output.trans bB.output, Nat.le_trans bB.size hg3.size, fun k hk => (hg3.block k (by omega) (by simp [Value.ownBlock])).trans (bB.block k hk)⟩
    have x3 : Blk w3 w.heap.size #[.slice none 0 0, .int .i64 0, .int .i64 0, .slice none 0 0] 64 := (hg3.block _ (by omega) (by simp [Value.ownBlock])).trans xB
    have hgn : w.heap.size + 1 ≤ g' := by
      rcases hloc3 with e | e
      · simp [Value.ownBlock] at e
      · injection e with e; have : g' = w.heap.size + 1 := e
        omega
    have r0 : w3.cell? ⟨w.heap.size, 0, none⟩ = some (.slice none 0 0) := x3.cell 0
    have r1 : w3.cell? ⟨w.heap.size, 1, none⟩ = some (.int .i64 0) := x3.cell 1
    have r2 : w3.cell? ⟨w.heap.size, 2, none⟩ = some (.int .i64 0) := x3.cell 2
    have r3 : w3.cell? ⟨w.heap.size, 3, none⟩ = some (.slice none 0 0) := x3.cell 3
    have q0 : w3.frozen? ⟨w.heap.size, 0, none⟩ = false := x3.frozen 0
    have q1 : w3.frozen? ⟨w.heap.size, 1, none⟩ = false := x3.frozen 1
    have q2 : w3.frozen? ⟨w.heap.size, 2, none⟩ = false := x3.frozen 2
    have q3 : w3.frozen? ⟨w.heap.size, 3, none⟩ = false := x3.frozen 3
    have H3 := hide (And.intro hown3 (And.intro hb3 x3))
    clear hown3 hg3 hnil3 hloc3 hnews hone hb3 x3 bB xB zB
    go_wp2
    obtain ⟨hown3, hb3, x3⟩ := unhide H3
    have x4 : Blk ((((w3.setCell ⟨w.heap.size, 0, none⟩ (.slice (some ⟨g', 0, none⟩) lags.length cap')).setCell ⟨w.heap.size, 1, none⟩ (.int .i64 0)).setCell ⟨w.heap.size, 2, none⟩ (.int .i64 0)).setCell ⟨w.heap.size, 3, none⟩ (.slice none 0 0)) w.heap.size #[.slice (some ⟨g', 0, none⟩) lags.length cap', .int .i64 0, .int .i64 0, .slice none 0 0] 64 := by
      have := (((x3.set 0 (.slice (some ⟨g', 0, none⟩) lags.length cap')).set 1 (.int .i64 0)).set 2 (.int .i64 0)).set 3 (.slice none 0 0)
      simpa using this
    have o4 : ((((w3.setCell ⟨w.heap.size, 0, none⟩ (.slice (some ⟨g', 0, none⟩) lags.length cap')).setCell ⟨w.heap.size, 1, none⟩ (.int .i64 0)).setCell ⟨w.heap.size, 2, none⟩ (.int .i64 0)).setCell ⟨w.heap.size, 3, none⟩ (.slice none 0 0)).ownsRow 0 3 1 (.slice (some ⟨g', 0, none⟩) lags.length cap') lags.length (lags.map (Value.int .i64)) := by
      have hown4 : w3.ownsRow 0 3 1 (.slice (some ⟨g', 0, none⟩) lags.length cap') lags.length (lags.map (Value.int .i64)) := by simpa using hown3
      refine owns_same hown4 (fun k hk => ?_)
      injection hk with hk
      have e : g' = k := hk
      have hne : k ≠ w.heap.size := by omega
      rw [heap_setCell_other _ _ _ _ hne, heap_setCell_other _ _ _ _ hne, heap_setCell_other _ _ _ _ hne, heap_setCell_other _ _ _ _ hne]
    have b4 : Below w.heap.size w ((((w3.setCell ⟨w.heap.size, 0, none⟩ (.slice (some ⟨g', 0, none⟩) lags.length cap')).setCell ⟨w.heap.size, 1, none⟩ (.int .i64 0)).setCell ⟨w.heap.size, 2, none⟩ (.int .i64 0)).setCell ⟨w.heap.size, 3, none⟩ (.slice none 0 0)) := (((hb3.setCell (p := ⟨w.heap.size, 0, none⟩) (Nat.le_refl _) _).setCell (p := ⟨w.heap.size, 1, none⟩) (Nat.le_refl _) _).setCell (p := ⟨w.heap.size, 2, none⟩) (Nat.le_refl _) _).setCell (p := ⟨w.heap.size, 3, none⟩) (Nat.le_refl _) _
    generalize ((((w3.setCell ⟨w.heap.size, 0, none⟩ (.slice (some ⟨g', 0, none⟩) lags.length cap')).setCell ⟨w.heap.size, 1, none⟩ (.int .i64 0)).setCell ⟨w.heap.size, 2, none⟩ (.int .i64 0)).setCell ⟨w.heap.size, 3, none⟩ (.slice none 0 0)) = W4 at *
    refine bodyPost_ret (v := .agg #[.slice (some ⟨g', 0, none⟩) lags.length cap', .int .i64 0, .int .i64 0, .slice none 0 0]) ?_ rfl ⟨.slice (some ⟨g', 0, none⟩) lags.length cap', rfl, o4, fun k hk => ?_, ⟨_, _, _, rfl⟩, b4⟩
    · exact results_cell_row Tryz.results79 _ _ w.heap.size 64 _ (0, 0) _ rfl x4 Tryz.underlying64 rfl Tryz.sizeWire
    · injection hk with hk
      have e : g' = k := hk
      omega
end Go.Proofs.YtandblanpafjoaaGreatDoor

