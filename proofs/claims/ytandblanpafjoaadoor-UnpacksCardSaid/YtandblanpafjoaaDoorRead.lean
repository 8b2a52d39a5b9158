import Derived.Test.YtandblanpafjoaaDoorMemZ
import Derived.RegionTactic
import Derived.Laws.ResultCell
namespace Go.Proofs.YtandblanpafjoaaDoor
open Go.RowKit Go.Extern.Stop Go.Stop Go.Extern

set_option maxRecDepth 100000 in
set_option maxHeartbeats 400000 in
theorem gread_no (b n c : Nat) (w : World) (hn : n ≠ 288) :
    Calls Tryd.prog 45 #[.slice (some ⟨b, 0, none⟩) n c] w fun e w' => e = .returned (.tuple #[.agg (nums .u8 Z288), .bool false]) ∧ Below w.heap.size w w' := by
  have hz := Tryd.zeroMem
  have hne : ((n : Int) != 288) = true := by rw [bne_iff_ne]; omega
  go_enter Tryd.func45, Tryd.ntmps45
  go_wp2_with (first | (refine wpList_load_blk rfl 81 _ rfl (w.heap.size + 1) rfl 81 (nums .u8 Z288) _ (heap_alloc2_new _ _ _) Tryd.underlying81 rfl (Tryd.sizeMem _ Z288_len) ?_) | (refine wpList_store_blk rfl 81 _ _ rfl w.heap.size 81 (nums .u8 Z288) (nums .u8 Z288) rfl rfl (heap_alloc2_old _ _ _) (Tryd.sizeMem _ Z288_len) rfl (nums_one _ _) ?_))
  refine bodyPost_ret (v := .tuple #[.agg (nums .u8 Z288), .bool false]) ?_ rfl ⟨rfl, ?_⟩
  · rw [results_cell_tmp Tryd.results45]
    exact ret_cell_tmp ((Blk.setRow (heap_alloc2_old _ _ _) _)) Tryd.underlying81 rfl (Tryd.sizeMem _ Z288_len)
  · exact below_setRow (((Below.refl _ _).alloc (Nat.le_refl _) _).alloc (by simp) _) (Nat.le_refl _) _

set_option maxRecDepth 100000 in
set_option maxHeartbeats 400000 in
theorem gread_yes (b c : Nat) (l : List Int) (w : World) (hl : l.length = 288) (hcap : 288 ≤ c) (hbl : b < w.heap.size)
    (hc : ∀ j, j < 288 → w.cell? ⟨b, j, none⟩ = some (.int .u8 (l.getD j 0))) :
    Calls Tryd.prog 45 #[.slice (some ⟨b, 0, none⟩) 288 c] w fun e w' => e = .returned (.tuple #[.agg (nums .u8 l), .bool true]) ∧ Below w.heap.size w w' := by
  have hz := Tryd.zeroMem
  have HC := hide hc
  clear hc
  go_enter Tryd.func45, Tryd.ntmps45
  go_wp2_with fail
  go_loopw [10] (fun i wr => ∃ k : Nat, k ≤ 18 ∧ i = .int .i64 k ∧ Below w.heap.size w wr ∧ Blk wr w.heap.size (nums .u8 Z288) 81 ∧ Blk wr (w.heap.size + 1) (nums .u8 (memTo l k)) 81) (fun i _ => 18 - (intOf i).toNat)
  case atStart => exact ⟨0, by omega, rfl, ((Below.refl _ _).alloc (Nat.le_refl _) _).alloc (by simp) _, heap_alloc2_old _ _ _, by rw [memTo_zero]; exact heap_alloc2_new _ _ _⟩
  case round =>
    obtain ⟨k, hk, rfl, hb, hb0, hb1⟩ := hrel
    by_cases hlt : k < 18
    · have hw2 := i64_id ((k : Int) * 16) (by omega) (by omega)
      have hi1 : (0 : Int) ≤ (k : Int) * 16 := by omega
      have hi2 : (k : Int) * 16 ≤ 288 := by omega
      have hi3 : (k : Int) < 18 := by omega
      have hcp : (Builtin.copy_ #[27, 27] 3 #[.slice (some ⟨w.heap.size + 1, k * 16, none⟩) 16 16, .slice (some ⟨b, k * 16, none⟩) (288 - k * 16) (c - k * 16)]).run Tryd.prog wr.drew
          = .ok (.int .i64 16) (wr.drew.setRow (w.heap.size + 1) (nums .u8 (memTo l (k + 1)))) := by
        have hpl := pageL_len l k hl hlt
        have := run_copy_row (P := Tryd.prog) wr.drew 27 27 3 5 (w.heap.size + 1) (k * 16) 16 16 ⟨b, k * 16, none⟩ (288 - k * 16) (c - k * 16) (nums .u8 (memTo l k)) 81 ((pageL l k).map (.int .u8)) Tryd.underlying27 (by kernel_rfl) hb1
          (by rw [List.length_map, hpl]; exact (Nat.min_eq_right (by omega)).symm)
          (fun j v hj => by
            have hj16 : j < 16 := by
              have := (List.getElem?_eq_some_iff.1 hj).1
              rw [List.length_map, hpl] at this; exact this
            rw [Addr.add_mid, World.cell?_drew, hb.cell (p := ⟨b, k * 16 + j, none⟩) hbl, unhide HC _ (by omega), ← hj, List.getElem?_map, List.getElem?_eq_getElem (by omega)]
            have := pageL_get l k j hj16
            rw [List.getD_eq_getElem?_getD, List.getElem?_eq_getElem (by omega)] at this
            rw [Nat.mul_comm k 16, ← this]; rfl)
          (by rw [List.length_map, hpl, nums_size, memTo_len l k hl hk]; omega) (nums_ones _ _)
        rw [this, List.length_map, hpl]
        have e : ((nums .u8 (memTo l k)).toList.take (k * 16) ++ (pageL l k).map (Value.int .u8) ++ (nums .u8 (memTo l k)).toList.drop (k * 16 + 16)).toArray = nums .u8 (memTo l (k + 1)) := by
          rw [← memTo_succ l k hl hlt, Nat.mul_comm k 16]
          simp [nums, List.map_take, List.map_drop]
        rw [e]; rfl
      have ht : ((k : Int) * 16).toNat = k * 16 := by omega
      have hne : (c = k * 16) = False := by simp; omega
      have HB0 := hide hb0
      have HB1 := hide hb1
      clear hb0 hb1
      go_wp2_with fail
      go_region
      go_wp2_with fail
      go_roundw
      case rel => exact ⟨k + 1, by omega, by go_num, below_setRow hb.drew (by omega) _, (unhide HB0).drew.setRowOther _ _ (by omega), (unhide HB1).drew.setRow _⟩
      case measure => simp [intOf]; omega
    · have hdk : decide ((k : Int) < 18) = false := by simp; omega
      rw [show k = 18 by omega, memTo_all l hl] at hb1
      have HB0 := hide hb0
      have HB1 := hide hb1
      clear hb0 hb1
      go_wp2_with (first | (refine wpList_load_blk rfl 81 _ rfl (w.heap.size + 1) rfl 81 (nums .u8 l) _ (unhide HB1) Tryd.underlying81 rfl (Tryd.sizeMem _ hl) ?_) | (refine wpList_store_blk rfl 81 _ _ rfl w.heap.size 81 (nums .u8 Z288) (nums .u8 l) rfl rfl (unhide HB0) (Tryd.sizeMem _ hl) (by rw [nums_size, nums_size, hl, Z288_len]) (nums_one _ _) ?_))
      refine bodyPost_ret (v := .tuple #[.agg (nums .u8 l), .bool true]) ?_ rfl ⟨rfl, ?_⟩
      · rw [results_cell_tmp Tryd.results45]
        exact ret_cell_tmp ((unhide HB0).setRow _) Tryd.underlying81 rfl (Tryd.sizeMem _ hl)
      · exact below_setRow hb (Nat.le_refl _) _
end Go.Proofs.YtandblanpafjoaaDoor
