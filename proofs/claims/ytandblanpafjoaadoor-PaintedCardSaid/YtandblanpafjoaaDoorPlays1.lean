import Derived.Test.YtandblanpafjoaaDoorMove
import Derived.Test.YtandblanpafjoaaDoorFrames
namespace Go.Proofs.YtandblanpafjoaaDoor
open Go.RowKit Go.Extern.Stop Go.Stop Go.Extern

set_option maxHeartbeats 1000000 in
theorem frame_any (g bi n : Nat) (m ins : List Int) (w : World) (hn : n ≤ 4) (hg : Good m n) (hlen : ins.length = n) (hri : ∀ j : Nat, 0 ≤ ins.getD j 0 ∧ ins.getD j 0 ≤ 255) (hne : bi ≠ g)
    (hbm : Blk w g (nums .i64 m) 3) (hbi : Blk w bi (nums .i64 ins) 3) :
    Calls Tryd.prog 16 #[.slice (some ⟨g, 0, none⟩) 288 288, .int .i64 (n : Int), .slice (some ⟨bi, 0, none⟩) n n] w fun e w' => e = .returned (.tuple #[]) ∧ Blk w' g (nums .i64 (frameL m n ins)) 3 ∧ w.grownBy w' (some g) := by
  have HG := hide hg
  have HRI := hide hri
  have HBM := hide hbm
  have HBI := hide hbi
  clear hg hri hbm hbi
  go_enter Tryd.func16, Tryd.ntmps16
  go_wp2_with fail
  go_loopw [6] (fun i wr => ∃ k : Nat, k ≤ n ∧ i = .int .i64 k ∧ Blk wr g (nums .i64 (turnsL m n ins k)) 3 ∧ w.grownBy wr (some g)) (fun i _ => n - (intOf i).toNat)
  case atStart => exact ⟨0, by omega, rfl, unhide HBM, grown_refl _ _⟩
  case round =>
    obtain ⟨k, hk, rfl, hbk, hgr⟩ := hrel
    by_cases hlt : k < n
    · have hlt' : (k : Int) < (n : Int) := by omega
      have hik := unhide HRI k
      obtain ⟨i, hi⟩ : ∃ i : Nat, ins.getD k 0 = (i : Int) := ⟨(ins.getD k 0).toNat, by omega⟩
      have hci : wr.cell? ⟨bi, k, none⟩ = some (.int .i64 (i : Int)) := by
        rw [((unhide HBI).grown hgr hne).num k (by omega), hi]
      have HT : Hid (turnsL m n ins (k + 1) = turnL (turnsL m n ins k) n k i) := hide (by
        show turnL (turnsL m n ins k) n k (ins.getD k 0).toNat = _
        rw [hi]; rfl)
      have HGK := hide (good_turns (unhide HG) ins hn k hk)
      have hi256 : i < 256 := by omega
      have HBK := hide hbk
      clear hik hi hbk
      generalize turnsL m n ins k = mk at *
      go_wp2_with fail
      refine (move_any g n k i mk wr hn hlt hi256 (unhide HGK) (unhide HBK)).mono ?_
      rintro e w2 ⟨rfl, hb2, hg2⟩
      go_wp2_with fail
      go_roundw
      case rel => exact ⟨k + 1, by omega, by go_num, by rw [unhide HT]; exact hb2, grown_trans hgr hg2⟩
      case measure => simp [intOf]; omega
    · have hkn : k = n := by omega
      subst hkn
      go_wp2
      go_end0
      exact ⟨rfl, hbk, hgr⟩

theorem make288b (w : World) : (Instr.makeSlice 27 (.int .i64 288) (.int .i64 288)).run Tryd.prog w = .ok (.slice (some ⟨w.heap.size, 0, none⟩) 288 288) (w.alloc (.cells (nums .u8 Z288) 5)) := by kernel_rfl
def byTo (m : List Int) (k : Nat) : List Int := m.take k ++ List.replicate (288 - k) 0
theorem byTo_len (m : List Int) (k : Nat) (hm : m.length = 288) (hk : k ≤ 288) : (byTo m k).length = 288 := by simp [byTo, hm]; omega
theorem byTo_succ (m : List Int) (k : Nat) (hm : m.length = 288) (hk : k < 288) : (byTo m k).set k (m.getD k 0) = byTo m (k + 1) := by
  apply list_ext (by rw [List.length_set, byTo_len m k hm (by omega), byTo_len m (k + 1) hm (by omega)])
  intro j
  have hget : ∀ q, q ≤ 288 → (byTo m q).getD j 0 = if j < q then m.getD j 0 else 0 := fun q hq => by
    unfold byTo
    by_cases hj : j < q
    · rw [if_pos hj, List.getD_eq_getElem?_getD, List.getElem?_append_left (by simp [hm]; omega), List.getElem?_take, if_pos hj]; rfl
    · rw [if_neg hj, List.getD_eq_getElem?_getD, List.getElem?_append_right (by simp [hm]; omega), List.getElem?_replicate]
      split <;> rfl
  rw [getD_set _ _ _ _ (by rw [byTo_len m k hm (by omega)]; exact hk), hget k (by omega), hget (k + 1) (by omega)]
  by_cases hj : k = j
  · subst hj; rw [if_pos rfl, if_pos (by omega)]
  · rw [if_neg hj]
    by_cases hj2 : j < k
    · rw [if_pos hj2, if_pos (by omega)]
    · rw [if_neg hj2, if_neg (by omega)]

set_option maxRecDepth 10000 in
set_option maxHeartbeats 1000000 in
theorem rbytes_any (g : Nat) (m : List Int) (w : World) (hm : m.length = 288) (hr : ∀ j : Nat, 0 ≤ m.getD j 0 ∧ m.getD j 0 ≤ 255) (hbm : Blk w g (nums .i64 m) 3) :
    Calls Tryd.prog 17 #[.slice (some ⟨g, 0, none⟩) 288 288] w fun e w' => e = .returned (.slice (some ⟨w.heap.size, 0, none⟩) 288 288) ∧ Blk w' w.heap.size (nums .u8 m) 5 ∧ Below w.heap.size w w' := by
  have hmk := make288b
  have HR := hide hr
  have HBM := hide hbm
  have hgl := hbm.lt
  clear hr hbm
  go_enter Tryd.func17, Tryd.ntmps17
  go_wp2_with fail
  clear hmk
  go_loopw [4] (fun i wr => ∃ k : Nat, k ≤ 288 ∧ i = .int .i64 k ∧ Below w.heap.size w wr ∧ Blk wr w.heap.size (nums .u8 (byTo m k)) 5) (fun i _ => 288 - (intOf i).toNat)
  case atStart => exact ⟨0, by omega, rfl, (Below.refl _ _).alloc (Nat.le_refl _) _, Blk.new _ _ _⟩
  case round =>
    obtain ⟨k, hk, rfl, hb, hbk⟩ := hrel
    by_cases hlt : k < 288
    · have hlt' : (k : Int) < 288 := by omega
      have hrk := unhide HR k
      have hlen := byTo_len m k hm hk
      have hck : wr.cell? ⟨g, k, none⟩ = some (.int .i64 (m.getD k 0)) := by
        rw [((unhide HBM).below hgl hb).num k (by omega)]
      have HS := hide (byTo_succ m k hm hlt)
      generalize m.getD k 0 = cv at *
      go_wp2_with (refine wpList_store_num rfl 5 _ _ rfl _ _ .u8 _ _ _ rfl rfl (by assumption) (by (try simp only [List.length_set]); omega) sizeU8 ?_; intro w' hb1 hg1 hz1 hcl1)
      go_roundw
      case rel => exact ⟨k + 1, by omega, by go_num, hb.trans (below_grown hg1 hb.size (Nat.le_refl _)), by rw [← unhide HS]; exact hb1⟩
      case measure => simp [intOf]; omega
    · have hkn : k = 288 := by omega
      subst hkn
      go_wp2
      go_ret
      have e : byTo m 288 = m := by simp [byTo, List.take_of_length_le (show m.length ≤ 288 by omega)]
      exact ⟨rfl, by rw [e] at hbk; exact hbk, hb⟩

def spTo (l : List Int) (k : Nat) : List Int := List.replicate k 99 ++ l.drop k
theorem spTo_len (l : List Int) (k : Nat) (hk : k ≤ l.length) : (spTo l k).length = l.length := by simp [spTo]; omega
theorem spTo_succ (l : List Int) (k : Nat) (hk : k < l.length) : (spTo l k).set k 99 = spTo l (k + 1) := by
  apply list_ext (by rw [List.length_set, spTo_len l k (by omega), spTo_len l (k + 1) (by omega)])
  intro j
  have hget : ∀ q, q ≤ l.length → (spTo l q).getD j 0 = if j < q then 99 else l.getD j 0 := fun q hq => by
    unfold spTo
    by_cases hj : j < q
    · rw [if_pos hj, List.getD_eq_getElem?_getD, List.getElem?_append_left (by simp; omega), List.getElem?_replicate, if_pos hj]; rfl
    · rw [if_neg hj, List.getD_eq_getElem?_getD, List.getElem?_append_right (by simp; omega), List.getElem?_drop, List.length_replicate, show q + (j - q) = j by omega]; rfl
  rw [getD_set _ _ _ _ (by rw [spTo_len l k (by omega)]; exact hk), hget k (by omega), hget (k + 1) (by omega)]
  by_cases hj : k = j
  · subst hj; rw [if_pos rfl, if_pos (by omega)]
  · rw [if_neg hj]
    by_cases hj2 : j < k
    · rw [if_pos hj2, if_pos (by omega)]
    · rw [if_neg hj2, if_neg (by omega)]

set_option maxHeartbeats 1000000 in
theorem spoilt_any (g n c : Nat) (l : List Int) (t : TypeId) (w : World) (hl : l.length = c) (hc : c ≤ 200000) (hnc : n ≤ c) (hb : Blk w g (nums .u8 l) t) :
    Calls Tryd.prog 18 #[.slice (some ⟨g, 0, none⟩) n c] w fun e w' => e = .returned (.tuple #[]) ∧ Blk w' g (nums .u8 (List.replicate c 99)) t ∧ w.grownBy w' (some g) := by
  have HB := hide hb
  clear hb
  go_enter Tryd.func18, Tryd.ntmps18
  go_wp2_with fail
  go_loopw [3] (fun i wr => ∃ k : Nat, k ≤ c ∧ i = .int .i64 k ∧ Blk wr g (nums .u8 (spTo l k)) t ∧ w.grownBy wr (some g)) (fun i _ => c - (intOf i).toNat)
  case atStart => exact ⟨0, by omega, rfl, by simpa [spTo] using unhide HB, grown_refl _ _⟩
  case round =>
    obtain ⟨k, hk, rfl, hbk, hgr⟩ := hrel
    by_cases hlt : k < c
    · have hlt' : (k : Int) < (c : Int) := by omega
      have hlen := spTo_len l k (by omega)
      have HS := hide (spTo_succ l k (by omega))
      go_wp2_with (refine wpList_store_num rfl 5 _ _ rfl _ _ .u8 _ _ _ rfl rfl (by assumption) (by (try simp only [List.length_set]); omega) sizeU8 ?_; intro w' hb1 hg1 hz1 hcl1)
      go_roundw
      case rel => exact ⟨k + 1, by omega, by go_num, by rw [← unhide HS]; exact hb1, grown_trans hgr hg1⟩
      case measure => simp [intOf]; omega
    · have hkn : k = c := by omega
      subst hkn
      go_wp2
      go_end0
      have e : spTo l k = List.replicate k 99 := by simp [spTo, List.drop_of_length_le (show l.length ≤ k by omega)]
      exact ⟨rfl, by rw [e] at hbk; exact hbk, hgr⟩

set_option maxHeartbeats 1000000 in
theorem stays_any (g n c : Nat) (t : TypeId) (w : World) (hc : c ≤ 200000) (_hnc : n ≤ c) (hb : Blk w g (nums .u8 (List.replicate c 99)) t) :
    Calls Tryd.prog 19 #[.slice (some ⟨g, 0, none⟩) n c] w fun e w' => e = .returned (.bool true) ∧ w' = w := by
  have HB := hide hb
  clear hb
  go_enter Tryd.func19, Tryd.ntmps19
  go_wp2_with fail
  go_loop [4] (fun i => ∃ k : Nat, k ≤ c ∧ i = .int .i64 k) (fun i => c - (intOf i).toNat)
  case atStart => exact ⟨0, by omega, rfl⟩
  case round =>
    obtain ⟨k, hk, rfl⟩ := hrel
    by_cases hlt : k < c
    · have hlt' : (k : Int) < (c : Int) := by omega
      have hck : w.cell? ⟨g, k, none⟩ = some (.int .u8 99) := by
        rw [(unhide HB).num k (by simp; omega), List.getD_eq_getElem?_getD, List.getElem?_replicate, if_pos hlt]; rfl
      go_wp2_with fail
      go_round
      case rel => exact ⟨k + 1, by omega, by go_num⟩
      case measure => simp [intOf]; omega
    · go_wp2
      go_ret
      exact ⟨rfl, rfl⟩
end Go.Proofs.YtandblanpafjoaaDoor
