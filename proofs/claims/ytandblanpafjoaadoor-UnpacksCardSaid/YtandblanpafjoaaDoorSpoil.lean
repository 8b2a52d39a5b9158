import Derived.Test.YtandblanpafjoaaDoorBase2
import Derived.Test.YtandblanpafjoaaDoorChecked
namespace Go.Proofs.YtandblanpafjoaaDoor
open Go.RowKit

/-! The caller writes into a row, its spare room too; whatever lies in it. -/
theorem one_u8 : (Tryd.prog.info? 5).map (·.size) = some 1 := by kernel_rfl
def spRow (cs : Array Value) (k : Nat) : Array Value := (List.replicate k (Value.int .u8 99) ++ cs.toList.drop k).toArray
theorem spRow_size (cs : Array Value) (k : Nat) (hk : k ≤ cs.size) : (spRow cs k).size = cs.size := by simp [spRow]; omega
theorem spRow_zero (cs : Array Value) : spRow cs 0 = cs := by simp [spRow]
theorem spRow_all (cs : Array Value) (k : Nat) (hk : cs.size = k) : spRow cs k = nums .u8 (List.replicate k 99) := by
  simp [spRow, nums, List.drop_of_length_le (show cs.toList.length ≤ k by simp [hk])]
theorem spRow_succ (cs : Array Value) (k : Nat) (hk : k < cs.size) : (spRow cs k).setIfInBounds k (.int .u8 99) = spRow cs (k + 1) := by
  apply Array.ext'
  unfold spRow
  rw [Array.toList_setIfInBounds]
  apply List.ext_getElem?
  intro j
  rw [List.getElem?_set]
  simp only [List.length_append, List.length_replicate, List.length_drop, Array.length_toList]
  by_cases h1 : k = j
  · subst h1
    rw [if_pos rfl, if_pos (by omega), List.getElem?_append_left (by simp), List.getElem?_replicate, if_pos (by omega)]
  · rw [if_neg h1]
    by_cases h2 : j < k
    · rw [List.getElem?_append_left (by simpa using h2), List.getElem?_append_left (by simp; omega), List.getElem?_replicate, List.getElem?_replicate, if_pos h2, if_pos (by omega)]
    · rw [List.getElem?_append_right (by simp; omega), List.getElem?_append_right (by simp; omega), List.getElem?_drop, List.getElem?_drop]
      congr 1
      simp
      omega

set_option maxHeartbeats 1000000 in
theorem spoilt_row (g n c : Nat) (cs : Array Value) (t : TypeId) (w : World) (hl : cs.size = c) (hc : c ≤ maxLen) (hnc : n ≤ c) (hb : Blk w g cs t) :
    Calls Tryd.prog 18 #[.slice (some ⟨g, 0, none⟩) n c] w fun e w' => e = .returned (.tuple #[]) ∧ Blk w' g (nums .u8 (List.replicate c 99)) t ∧ w.grownBy w' (some g) := by
  have HB := hide hb
  clear hb
  unfold maxLen at hc
  go_enter Tryd.func18, Tryd.ntmps18
  go_wp2_with fail
  go_loopw [3] (fun i wr => ∃ k : Nat, k ≤ c ∧ i = .int .i64 k ∧ Blk wr g (spRow cs k) t ∧ w.grownBy wr (some g)) (fun i _ => c - (intOf i).toNat)
  case atStart => exact ⟨0, by omega, rfl, by rw [spRow_zero]; exact unhide HB, grown_refl _ _⟩
  case round =>
    obtain ⟨k, hk, rfl, hbk, hgr⟩ := hrel
    by_cases hlt : k < c
    · have hlt' : (k : Int) < (c : Int) := by omega
      have hlen := spRow_size cs k (by omega)
      have HS := hide (spRow_succ cs k (by omega))
      go_wp2_with (refine wpList_store_one rfl 5 _ _ rfl g k (.int .u8 99) (spRow cs k) t rfl rfl rfl hbk (by omega) one_u8 ?_; intro w' hb1 hg1 hz1 hcl1)
      go_roundw
      case rel => exact ⟨k + 1, by omega, by go_num, by rw [← unhide HS]; exact hb1, grown_trans hgr hg1⟩
      case measure => simp [intOf]; omega
    · have hkn : k = c := by omega
      subst hkn
      go_wp2
      go_end0
      exact ⟨rfl, by rw [spRow_all cs k hl] at hbk; exact hbk, hgr⟩

set_option maxHeartbeats 1000000 in
theorem stays_row (g n c : Nat) (t : TypeId) (w : World) (hc : c ≤ maxLen) (_hnc : n ≤ c) (hb : Blk w g (nums .u8 (List.replicate c 99)) t) :
    Calls Tryd.prog 19 #[.slice (some ⟨g, 0, none⟩) n c] w fun e w' => e = .returned (.bool true) ∧ w' = w := by
  have HB := hide hb
  clear hb
  unfold maxLen at hc
  go_enter Tryd.func19, Tryd.ntmps19
  go_wp2_with fail
  go_loop [4] (fun i => ∃ k : Nat, k ≤ c ∧ i = .int .i64 k) (fun i => c - (intOf i).toNat)
  case atStart => exact ⟨0, by omega, rfl⟩
  case round =>
    obtain ⟨k, hk, rfl⟩ := hrel
    by_cases hlt : k < c
    · have hlt' : (k : Int) < (c : Int) := by omega
      have hck : w.cell? ⟨g, k, none⟩ = some (.int .u8 99) := by
        rw [(unhide HB).num k (by simp; omega), List.getD_eq_getElem?_getD, List.getElem?_replicate, if_pos hlt]; rfl
      go_wp2_with fail
      go_round
      case rel => exact ⟨k + 1, by omega, by go_num⟩
      case measure => simp [intOf]; omega
    · go_wp2
      go_ret
      exact ⟨rfl, rfl⟩
end Go.Proofs.YtandblanpafjoaaDoor
