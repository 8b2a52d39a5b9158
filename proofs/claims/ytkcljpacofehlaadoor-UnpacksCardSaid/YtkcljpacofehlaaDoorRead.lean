import Derived.Test.YtkcljpacofehlaaDoorStr
import Derived.RegionTactic
import Derived.Laws.ResultCell
namespace Go.Proofs.YtkcljpacofehlaaDoor
open Go.RowKit Go.Extern.Stop Go.Stop Go.Extern

def Z288 : List Int := List.replicate 288 0
theorem Z288_len : Z288.length = 288 := List.length_replicate
theorem Tryd.infoMem : (Tryd.prog.info? 80).map (fun i => (i.zero, i.size)) = some (some (.agg (nums .u8 Z288)), 288) := by kernel_rfl
theorem Tryd.zeroMem (w : World) : (zeroValue 80).run Tryd.prog w = .ok (.agg (nums .u8 Z288)) w := (zero_of_info Tryd.infoMem).1 w
theorem Tryd.sizeMem (l : List Int) (hl : l.length = 288) : (Tryd.prog.info? 80).map (·.size) = some (nums .u8 l).size := by
  rw [nums_size, hl]; exact (zero_of_info Tryd.infoMem).2

theorem ret_cell_tmp {P : Program} {W : World} {g : Nat} {cs : Array Value} {t ty : TypeId} {d : TypeDesc} {x : Value} (hg : Blk W g cs t)
    (hu : P.underlying ty = some d) (hd : (match d with | .struct _ | .array _ _ => true | _ => false) = true) (hi : (P.info? ty).map (·.size) = some cs.size) :
    ((asAddr (.pointer (some ⟨g, 0, none⟩))).run P W).andThen (fun a w₁ => ((loadVar ty a).run P w₁).andThen fun v w₂ => Result.ok (Value.tuple #[v, x]) w₂) = Result.ok (Value.tuple #[.agg cs, x]) W := by
  simp [asAddr, run_loadVar_row W g t ty cs (0, 0) d hg hu hd hi]

set_option maxRecDepth 100000 in
set_option maxHeartbeats 400000 in
theorem gread_no (b n c : Nat) (w : World) (hn : n ≠ 288) :
    Calls Tryd.prog 44 #[.slice (some ⟨b, 0, none⟩) n c] w fun e w' => e = .returned (.tuple #[.agg (nums .u8 Z288), .bool false]) ∧ Below w.heap.size w w' := by
  have hz := Tryd.zeroMem
  have hne : ((n : Int) != 288) = true := by rw [bne_iff_ne]; omega
  go_enter Tryd.func44, Tryd.ntmps44
  go_wp2_with (first | (refine wpList_load_blk rfl 80 _ rfl (w.heap.size + 1) rfl 80 (nums .u8 Z288) _ (heap_alloc2_new _ _ _) Tryd.underlying80 rfl (Tryd.sizeMem _ Z288_len) ?_) | (refine wpList_store_blk rfl 80 _ _ rfl w.heap.size 80 (nums .u8 Z288) (nums .u8 Z288) rfl rfl (heap_alloc2_old _ _ _) (Tryd.sizeMem _ Z288_len) rfl (nums_one _ _) ?_))
  refine bodyPost_ret (v := .tuple #[.agg (nums .u8 Z288), .bool false]) ?_ rfl ⟨rfl, ?_⟩
  · rw [results_cell_tmp Tryd.results44]
    exact ret_cell_tmp ((Blk.setRow (heap_alloc2_old _ _ _) _)) Tryd.underlying80 rfl (Tryd.sizeMem _ Z288_len)
  · exact below_setRow (((Below.refl _ _).alloc (Nat.le_refl _) _).alloc (by simp) _) (Nat.le_refl _) _

/-- A memory of which k pages have been read. -/
def memTo (l : List Int) (k : Nat) : List Int := l.take (16 * k) ++ List.replicate (288 - 16 * k) 0
theorem memTo_len (l : List Int) (k : Nat) (hl : l.length = 288) (hk : k ≤ 18) : (memTo l k).length = 288 := by simp [memTo, hl]; omega
theorem memTo_zero (l : List Int) : memTo l 0 = Z288 := by rw [memTo, Nat.mul_zero, List.take_zero, List.nil_append]; rfl
theorem memTo_all (l : List Int) (hl : l.length = 288) : memTo l 18 = l := by simp [memTo, List.take_of_length_le (show l.length ≤ 16 * 18 by omega)]
theorem memTo_succ (l : List Int) (k : Nat) (hl : l.length = 288) (hk : k < 18) : (memTo l k).take (16 * k) ++ pageL l k ++ (memTo l k).drop (16 * k + 16) = memTo l (k + 1) := by
  have h1 : (memTo l k).take (16 * k) = l.take (16 * k) := by
    rw [memTo, List.take_append_of_le_length (by simp [hl]; omega), List.take_take, Nat.min_self]
  have h2 : (memTo l k).drop (16 * k + 16) = List.replicate (288 - 16 * (k + 1)) 0 := by
    have hlen : (l.take (16 * k)).length = 16 * k := by simp [hl]; omega
    rw [memTo, List.drop_append, hlen, show 16 * k + 16 - 16 * k = 16 by omega, List.drop_of_length_le (by rw [hlen]; omega), List.nil_append, List.drop_replicate]
    congr 1
  rw [h1, h2, memTo, pageL, show 16 * (k + 1) = 16 * k + 16 by omega, List.take_add (l := l) (i := 16 * k) (j := 16)]

set_option maxRecDepth 100000 in
set_option maxHeartbeats 400000 in
theorem gread_yes (b c : Nat) (l : List Int) (w : World) (hl : l.length = 288) (hcap : 288 ≤ c) (hbl : b < w.heap.size)
    (hc : ∀ j, j < 288 → w.cell? ⟨b, j, none⟩ = some (.int .u8 (l.getD j 0))) :
    Calls Tryd.prog 44 #[.slice (some ⟨b, 0, none⟩) 288 c] w fun e w' => e = .returned (.tuple #[.agg (nums .u8 l), .bool true]) ∧ Below w.heap.size w w' := by
  have hz := Tryd.zeroMem
  have HC := hide hc
  clear hc
  go_enter Tryd.func44, Tryd.ntmps44
  go_wp2_with fail
  go_loopw [10] (fun i wr => ∃ k : Nat, k ≤ 18 ∧ i = .int .i64 k ∧ Below w.heap.size w wr ∧ Blk wr w.heap.size (nums .u8 Z288) 80 ∧ Blk wr (w.heap.size + 1) (nums .u8 (memTo l k)) 80) (fun i _ => 18 - (intOf i).toNat)
  case atStart => exact ⟨0, by omega, rfl, ((Below.refl _ _).alloc (Nat.le_refl _) _).alloc (by simp) _, heap_alloc2_old _ _ _, by rw [memTo_zero]; exact heap_alloc2_new _ _ _⟩
  case round =>
    obtain ⟨k, hk, rfl, hb, hb0, hb1⟩ := hrel
    by_cases hlt : k < 18
    · have hw2 := i64_id ((k : Int) * 16) (by omega) (by omega)
      have hi1 : (0 : Int) ≤ (k : Int) * 16 := by omega
      have hi2 : (k : Int) * 16 ≤ 288 := by omega
      have hi3 : (k : Int) < 18 := by omega
      have hcp : (Builtin.copy_ #[27, 27] 3 #[.slice (some ⟨w.heap.size + 1, k * 16, none⟩) 16 16, .slice (some ⟨b, k * 16, none⟩) (288 - k * 16) (c - k * 16)]).run Tryd.prog wr.drew
          = .ok (.int .i64 16) (wr.drew.setRow (w.heap.size + 1) (nums .u8 (memTo l (k + 1)))) := by
        have hpl := pageL_len l k hl hlt
        have := run_copy_row (P := Tryd.prog) wr.drew 27 27 3 5 (w.heap.size + 1) (k * 16) 16 16 ⟨b, k * 16, none⟩ (288 - k * 16) (c - k * 16) (nums .u8 (memTo l k)) 80 ((pageL l k).map (.int .u8)) Tryd.underlying27 (by kernel_rfl) hb1
          (by rw [List.length_map, hpl]; exact (Nat.min_eq_right (by omega)).symm)
          (fun j v hj => by
            have hj16 : j < 16 := by
              have := (List.getElem?_eq_some_iff.1 hj).1
              rw [List.length_map, hpl] at this; exact this
            rw [Addr.add_mid, World.cell?_drew, hb.cell (p := ⟨b, k * 16 + j, none⟩) hbl, unhide HC _ (by omega), ← hj, List.getElem?_map, List.getElem?_eq_getElem (by omega)]
            have := pageL_get l k j hj16
            rw [List.getD_eq_getElem?_getD, List.getElem?_eq_getElem (by omega)] at this
            rw [Nat.mul_comm k 16, ← this]; rfl)
          (by rw [List.length_map, hpl, nums_size, memTo_len l k hl hk]; omega) (nums_ones _ _)
        rw [this, List.length_map, hpl]
        have e : ((nums .u8 (memTo l k)).toList.take (k * 16) ++ (pageL l k).map (Value.int .u8) ++ (nums .u8 (memTo l k)).toList.drop (k * 16 + 16)).toArray = nums .u8 (memTo l (k + 1)) := by
          rw [← memTo_succ l k hl hlt, Nat.mul_comm k 16]
          simp [nums, List.map_take, List.map_drop]
        rw [e]; rfl
      have ht : ((k : Int) * 16).toNat = k * 16 := by omega
      have hne : (c = k * 16) = False := by simp; omega
      have HB0 := hide hb0
      have HB1 := hide hb1
      clear hb0 hb1
      go_wp2_with fail
      go_region
      go_wp2_with fail
      go_roundw
      case rel => exact ⟨k + 1, by omega, by go_num, below_setRow hb.drew (by omega) _, (unhide HB0).drew.setRowOther _ _ (by omega), (unhide HB1).drew.setRow _⟩
      case measure => simp [intOf]; omega
    · have hdk : decide ((k : Int) < 18) = false := by simp; omega
      rw [show k = 18 by omega, memTo_all l hl] at hb1
      have HB0 := hide hb0
      have HB1 := hide hb1
      clear hb0 hb1
      go_wp2_with (first | (refine wpList_load_blk rfl 80 _ rfl (w.heap.size + 1) rfl 80 (nums .u8 l) _ (unhide HB1) Tryd.underlying80 rfl (Tryd.sizeMem _ hl) ?_) | (refine wpList_store_blk rfl 80 _ _ rfl w.heap.size 80 (nums .u8 Z288) (nums .u8 l) rfl rfl (unhide HB0) (Tryd.sizeMem _ hl) (by rw [nums_size, nums_size, hl, Z288_len]) (nums_one _ _) ?_))
      refine bodyPost_ret (v := .tuple #[.agg (nums .u8 l), .bool true]) ?_ rfl ⟨rfl, ?_⟩
      · rw [results_cell_tmp Tryd.results44]
        exact ret_cell_tmp ((unhide HB0).setRow _) Tryd.underlying80 rfl (Tryd.sizeMem _ hl)
      · exact below_setRow hb (Nat.le_refl _) _
end Go.Proofs.YtkcljpacofehlaaDoor
