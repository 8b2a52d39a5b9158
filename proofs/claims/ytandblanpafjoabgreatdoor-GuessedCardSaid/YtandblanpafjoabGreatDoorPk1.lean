import Derived.Test.YtandblanpafjoabGreatDoorCom
import Derived.Test.YtandblanpafjoabGreatDoorSrc
import Derived.Test.YtandblanpafjoabGreatDoorFault
namespace Go.Proofs.YtandblanpafjoabGreatDoor
open Go.RowKit Go.Extern.Stop Go.Stop Go.Extern

/-! The parts of a packet that are checked. -/
set_option maxHeartbeats 1000000 in
theorem parts_yes (f st ak : Int) (ao : Option Addr) (n c : Nat) (w : World) (h : GoodP f st ak n) :
    Calls Tryz.prog 84 #[.agg #[.int .i64 f, .int .i64 st, .int .i64 ak, .slice ao n c]] w fun e w' => e = .returned .nilIface ∧ w' = w.alloc (.cells #[.int .i64 f, .int .i64 st, .int .i64 ak, .slice ao n c] 130) := by
  obtain ⟨⟨h1, h2⟩, ⟨h3, h4⟩, ⟨h5, h6⟩, h7⟩ := h
  have d1 : decide (f < 0) = false := by simp; omega
  have d2 : decide (st < 0) = false := by simp; omega
  have d3 : decide (ak < 0) = false := by simp; omega
  have h8 : ¬ (64 : Int) < (n : Int) := by omega
  go_enter Tryz.func84, Tryz.ntmps84
  go_wp2
  go_ret
  exact ⟨rfl, rfl⟩

set_option maxHeartbeats 4000000 in
theorem parts_no (f st ak : Int) (ao : Option Addr) (n c : Nat) (w : World) (h : ¬ GoodP f st ak n) :
    Calls Tryz.prog 84 #[.agg #[.int .i64 f, .int .i64 st, .int .i64 ak, .slice ao n c]] w fun e w' => (∃ s, e = .returned (.iface 219 (.agg #[.string s]))) ∧ w' = w.alloc (.cells #[.int .i64 f, .int .i64 st, .int .i64 ak, .slice ao n c] 130) := by
  unfold GoodP at h
  by_cases a1 : f < 0
  · go_enter Tryz.func84, Tryz.ntmps84
    go_wp2
    go_ret
    exact ⟨⟨_, rfl⟩, rfl⟩
  have d1 : decide (f < 0) = false := by simp; omega
  by_cases a2 : 4 ≤ f
  · go_enter Tryz.func84, Tryz.ntmps84
    go_wp2
    go_ret
    exact ⟨⟨_, rfl⟩, rfl⟩
  by_cases a3 : st < 0
  · go_enter Tryz.func84, Tryz.ntmps84
    go_wp2
    go_ret
    exact ⟨⟨_, rfl⟩, rfl⟩
  have d2 : decide (st < 0) = false := by simp; omega
  by_cases a4 : 65535 < st
  · go_enter Tryz.func84, Tryz.ntmps84
    go_wp2
    go_ret
    exact ⟨⟨_, rfl⟩, rfl⟩
  by_cases a5 : ak < 0
  · go_enter Tryz.func84, Tryz.ntmps84
    go_wp2
    go_ret
    exact ⟨⟨_, rfl⟩, rfl⟩
  have d3 : decide (ak < 0) = false := by simp; omega
  by_cases a6 : 65535 < ak
  · go_enter Tryz.func84, Tryz.ntmps84
    go_wp2
    go_ret
    exact ⟨⟨_, rfl⟩, rfl⟩
  have h8 : (64 : Int) < (n : Int) := by omega
  clear h
  go_enter Tryz.func84, Tryz.ntmps84
  go_wp2
  go_ret
  exact ⟨⟨_, rfl⟩, rfl⟩

set_option maxHeartbeats 400000 in
theorem pksum_any (b off n c : Nat) (l : List Int) (w : World) (hl : l.length = n) (hn : n ≤ 100000)
    (hc : ∀ j, j < n → w.cell? ⟨b, off + j, none⟩ = some (.int .u8 (l.getD j 0))) :
    Calls Tryz.prog 86 #[.slice (some ⟨b, off, none⟩) n c] w fun e w' => e = .returned (.int .u8 (xorL l)) ∧ w' = w := by
  go_enter Tryz.func86, Tryz.ntmps86
  go_wp2
  go_loop [3, 8] (fun v i => ∃ k : Nat, k ≤ n ∧ i = .int .i64 k ∧ v = .int .u8 (xorL (l.take k))) (fun _ i => n - (intOf i).toNat)
  case atStart => exact ⟨0, Nat.zero_le _, rfl, rfl⟩
  case round =>
    obtain ⟨k, hk, rfl, rfl⟩ := hrel
    by_cases hlt : k < n
    · have hcell := hc k hlt
      have hs := hide (xorL_snoc l k (by omega))
      go_wp2
      go_round
      case rel => exact ⟨k + 1, by omega, by go_num, int_eq (unhide hs).symm⟩
      case measure => simp [intOf]; omega
    · go_wp2
      go_ret
      exact ⟨ret_int (by rw [List.take_of_length_le (by omega)]), rfl⟩

set_option maxHeartbeats 400000 in
theorem pkappend_any (x : Int) (base g n cap : Nat) (xs : List Value) (w : World) (hx0 : 0 ≤ x) (hx1 : x ≤ 65535) (hown : w.ownsRow base 5 1 (.slice (some ⟨g, 0, none⟩) n cap) n xs) (hroom : n + 2 ≤ cap) :
    Calls Tryz.prog 85 #[.slice (some ⟨g, 0, none⟩) n cap, .int .i64 x] w fun e w' => e = .returned (.slice (some ⟨g, 0, none⟩) (n + 2) cap) ∧ w'.ownsRow base 5 1 (.slice (some ⟨g, 0, none⟩) (n + 2) cap) (n + 2) (xs ++ [.int .u8 (x / 256), .int .u8 (x % 256)]) ∧ w.grownBy w' (some g) := by
  obtain ⟨i8, hi8, hz8, hs8, hy8⟩ := info_parts Tryz.infoU8
  have HT := hide (And.intro hi8 hs8)
  have HOWN := hide hown
  clear hi8 hz8 hs8 hy8 hown
  go_enter Tryz.func85, Tryz.ntmps85
  go_wp2_with (at_builtin; refine wpList_append_fits rfl _ _ 35 rfl base 5 i8 Tryz.underlying35 (unhide HT).1 (unhide HT).2 g n cap xs rfl ((unhide HOWN).alloc _) _ 2 2 _ rfl (fun h => by cases h) rfl (src_new2 _ _ _ _ _ rfl) hroom ?_; intro w' hown' hgr')
  go_ret
  refine ⟨rfl, ?_, ?_⟩
  · simpa using hown'
  · exact grown_trans (World.grownBy_alloc w _ (some g)) hgr'
end Go.Proofs.YtandblanpafjoabGreatDoor
