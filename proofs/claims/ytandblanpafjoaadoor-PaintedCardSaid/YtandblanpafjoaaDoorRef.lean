import Derived.Test.YtandblanpafjoaaDoorPlay3
import Derived.Deep.QuietTactic
import Derived.BigQuiet
namespace Go.Proofs.YtandblanpafjoaaDoor
open Go.RowKit Go.Extern.Stop Go.Stop Go.Extern

theorem sizeInt : (Tryd.prog.info? 3).map (·.size) = some 1 := by kernel_rfl
def sdx : Nat → Int | 0 => 1 | 2 => 15 | _ => 0
def sdy : Nat → Int | 1 => 1 | 3 => 15 | _ => 0

set_option maxHeartbeats 400000 in
theorem steps_any (h : Nat) (w : World) (hh : h < 4) :
    Calls Tryd.prog 43 #[.int .i64 (h : Int)] w fun e w' => e = .returned (.tuple #[.int .i64 (sdx h), .int .i64 (sdy h)]) ∧ w' = w := by
  match h, hh with
  | 0, _ | 1, _ | 2, _ | 3, _ =>
    go_enter Tryd.func43, Tryd.ntmps43
    go_wp2
    go_ret2
    exact ⟨rfl, rfl⟩

set_option maxHeartbeats 1000000 in
theorem stands_any (g n k x y : Nat) (m M : List Int) (w : World) (hn : n ≤ 4) (hM : M.length = 288) (hX : ∀ o, o < n → M.getD (256 + 8 * o) 0 = (gx m o : Int)) (hY : ∀ o, o < n → M.getD (256 + 8 * o + 1) 0 = (gy m o : Int)) (hblk : Blk w g (nums .i64 M) 3) :
    Calls Tryd.prog 44 #[.slice (some ⟨g, 0, none⟩) 288 288, .int .i64 (n : Int), .int .i64 (k : Int), .int .i64 (x : Int), .int .i64 (y : Int)] w fun e w' => e = .returned (.bool (blocked m n k x y)) ∧ w' = w := by
  have HX := hide hX
  have HY := hide hY
  have HB := hide hblk
  clear hX hY hblk
  go_enter Tryd.func44, Tryd.ntmps44
  go_wp2_with fail
  go_loop [11] (fun i => ∃ o : Nat, o ≤ n ∧ i = .int .i64 o ∧ ∀ j, j < o → j ≠ k → ¬ (gx m j = x ∧ gy m j = y)) (fun i => n - (intOf i).toNat)
  case atStart => exact ⟨0, by omega, rfl, fun j hj => absurd hj (by omega)⟩
  case round =>
    obtain ⟨o, ho, rfl, hall⟩ := hrel
    have HA := hide hall
    clear hall
    by_cases hlt : o < n
    · have hlt' : (o : Int) < (n : Int) := by omega
      have hcx : w.cell? ⟨g, 256 + 8 * o, none⟩ = some (.int .i64 (gx m o : Int)) := by rw [(unhide HB).num _ (by omega), unhide HX o hlt]
      have hcy : w.cell? ⟨g, 257 + 8 * o, none⟩ = some (.int .i64 (gy m o : Int)) := by rw [show 257 + 8 * o = 256 + 8 * o + 1 by omega, (unhide HB).num _ (by omega), unhide HY o hlt]
      have ht0 : (256 + 8 * (o : Int)).toNat = 256 + 8 * o := by omega
      have ht1 : (257 + 8 * (o : Int)).toNat = 257 + 8 * o := by omega
      by_cases hok : o = k
      · subst hok
        have HA2 : Hid (∀ j, j < o + 1 → j ≠ o → ¬ (gx m j = x ∧ gy m j = y)) := hide (fun j hj hne => unhide HA j (by omega) hne)
        go_wp2_with fail
        go_round
        case rel => exact ⟨o + 1, by omega, by go_num, unhide HA2⟩
        case measure => simp [intOf]; omega
      · have hne : ((o : Int) != (k : Int)) = true := by rw [bne_iff_ne]; omega
        by_cases hx : gx m o = x
        · have hxe : ((gx m o : Int) == (x : Int)) = true := by rw [hx]; simp
          by_cases hy : gy m o = y
          · have hye : ((gy m o : Int) == (y : Int)) = true := by rw [hy]; simp
            have HF : Hid (blocked m n k x y = true) := hide (blocked_yes o hlt hok ⟨hx, hy⟩)
            clear hx hy
            go_wp2_with fail
            go_ret
            exact ⟨by rw [unhide HF]; rfl, rfl⟩
          · have hye : ((gy m o : Int) == (y : Int)) = false := by rw [beq_eq_false_iff_ne]; omega
            have HA2 : Hid (∀ j, j < o + 1 → j ≠ k → ¬ (gx m j = x ∧ gy m j = y)) := hide (fun j hj hne => by
              by_cases hjo : j = o
              · rw [hjo]; exact fun hh => hy hh.2
              · exact unhide HA j (by omega) hne)
            clear hx hy
            go_wp2_with fail
            go_round
            case rel => exact ⟨o + 1, by omega, by go_num, unhide HA2⟩
            case measure => simp [intOf]; omega
        · have hxe : ((gx m o : Int) == (x : Int)) = false := by rw [beq_eq_false_iff_ne]; omega
          have HA2 : Hid (∀ j, j < o + 1 → j ≠ k → ¬ (gx m j = x ∧ gy m j = y)) := hide (fun j hj hne => by
            by_cases hjo : j = o
            · rw [hjo]; exact fun hh => hx hh.1
            · exact unhide HA j (by omega) hne)
          clear hx
          go_wp2_with fail
          go_round
          case rel => exact ⟨o + 1, by omega, by go_num, unhide HA2⟩
          case measure => simp [intOf]; omega
    · have HF : Hid (blocked m n k x y = false) := hide (blocked_no (fun j hj hne => unhide HA j (by omega) hne))
      go_wp2_with fail
      go_ret
      exact ⟨by rw [unhide HF]; rfl, rfl⟩

def begTo : Nat → List Int
  | 0 => Z288
  | k + 1 => ((begTo k).set (256 + 8 * k) (4 * (k : Int) + 2)).set (257 + 8 * k) 8
theorem begTo_len : ∀ k, (begTo k).length = 288
  | 0 => Z288_len
  | k + 1 => by simp only [begTo, List.length_set]; exact begTo_len k
theorem beg_start (n : Nat) (hn : n ≤ 4) : begTo n = startTo n := by
  match n, hn with
  | 0, _ | 1, _ | 2, _ | 3, _ | 4, _ => decide +kernel
theorem makeInts (w : World) : (Instr.makeSlice 31 (.int .i64 288) (.int .i64 288)).run Tryd.prog w = .ok (.slice (some ⟨w.heap.size, 0, none⟩) 288 288) (w.alloc (.cells (nums .i64 Z288) 3)) := by kernel_rfl

set_option maxRecDepth 10000 in
set_option maxHeartbeats 1000000 in
theorem begin_any (n : Nat) (w : World) (hn : n ≤ 4) :
    Calls Tryd.prog 14 #[.int .i64 (n : Int)] w fun e w' => e = .returned (.slice (some ⟨w.heap.size, 0, none⟩) 288 288) ∧ Blk w' w.heap.size (nums .i64 (startTo n)) 3 ∧ Below w.heap.size w w' := by
  have hmk := makeInts
  go_enter Tryd.func14, Tryd.ntmps14
  go_wp2_with fail
  clear hmk
  go_loopw [4] (fun i wr => ∃ k : Nat, k ≤ n ∧ i = .int .i64 k ∧ Below w.heap.size w wr ∧ Blk wr w.heap.size (nums .i64 (begTo k)) 3) (fun i _ => n - (intOf i).toNat)
  case atStart => exact ⟨0, by omega, rfl, (Below.refl _ _).alloc (Nat.le_refl _) _, Blk.new _ _ _⟩
  case round =>
    obtain ⟨k, hk, rfl, hb, hbm⟩ := hrel
    by_cases hlt : k < n
    · have hlt' : (k : Int) < (n : Int) := by omega
      have hlen := begTo_len k
      have ht0 : (256 + 8 * (k : Int)).toNat = 256 + 8 * k := by omega
      have ht1 : (257 + 8 * (k : Int)).toNat = 257 + 8 * k := by omega
      go_wp2_with (refine wpList_store_num rfl 3 _ _ rfl _ _ .i64 _ _ _ rfl rfl (by assumption) (by (try simp only [List.length_set]); omega) sizeInt ?_; intro w' hb1 hg1 hz1 hcl1)
      go_roundw
      case rel => exact ⟨k + 1, by omega, by go_num, (hb.trans (below_grown (by assumption) hb.size (Nat.le_refl _))).trans (below_grown hg1 (by have := hb.size; omega) (Nat.le_refl _)), hb1⟩
      case measure => simp [intOf]; omega
    · have hkn : k = n := by omega
      subst hkn
      go_wp2
      go_ret
      exact ⟨rfl, by rw [← beg_start k hn]; exact hbm, hb⟩
end Go.Proofs.YtandblanpafjoaaDoor
