import Derived.Test.YtandblanpafjoaaDoorTold
namespace Go.Proofs.YtandblanpafjoaaDoor
open Go.RowKit Go.Extern.Stop Go.Stop Go.Extern

set_option maxHeartbeats 1000000 in
theorem told0 (w : World) : Calls Tryd.prog 10 #[.int .i64 0, .int .i64 0, .int .i64 (-1)] w fun ev w' => ev = .returned (.bool true) ∧ Below w.heap.size w w' := by
  go_enter Tryd.func10, Tryd.ntmps10
  go_wp2_with (first | (go_at_call 30; refine (told_nil _).mono ?_; rintro e w1 ⟨rfl, hb1⟩) | (go_at_call 28; go_in))
  go_ret
  exact ⟨rfl, hb1⟩

set_option maxHeartbeats 1000000 in
theorem told1 (w : World) (hgL : Laid w) : Calls Tryd.prog 10 #[.int .i64 1, .int .i64 1, .int .i64 (-1)] w fun ev w' => ev = .returned (.bool true) ∧ Below w.heap.size w w' := by
  go_enter Tryd.func10, Tryd.ntmps10
  go_wp2_with (first | (go_at_call 30; refine (told_kind _ _ hgL).mono ?_; rintro e w1 ⟨rfl, hb1⟩) | (go_at_call 28; go_in))
  go_ret
  exact ⟨rfl, hb1⟩

set_option maxHeartbeats 1000000 in
theorem told2 (w : World) (hgL : Laid w) : Calls Tryd.prog 10 #[.int .i64 2, .int .i64 4, .int .i64 3] w fun ev w' => ev = .returned (.bool true) ∧ Below w.heap.size w w' := by
  go_enter Tryd.func10, Tryd.ntmps10
  go_wp2_with (first | (go_at_call 30; refine (told_peer _ 3 4 _ (hgL.alloc _) (by simp) (by simp)).mono ?_; rintro e w1 ⟨rfl, hb1⟩) | (go_at_call 28; go_in))
  go_ret
  exact ⟨rfl, ((Below.refl _ _).alloc (Nat.le_refl _) _).trans (hb1.mono (by simp))⟩

set_option maxHeartbeats 1000000 in
theorem names_any (w : World) (hgL : Laid w) : Calls Tryd.prog 3 #[] w fun ev w' => ev = .returned (.bool true) ∧ Below w.heap.size w w' := by
  go_enter Tryd.func3, Tryd.ntmps3
  go_wp2_with fail
  refine (told0 _).mono ?_
  rintro e w1 ⟨rfl, hb1⟩
  have hL1 := hgL.below hgL.lt hb1
  have hz1 := hb1.size
  go_wp2_with fail
  refine (told1 _ hL1).mono ?_
  rintro e w2 ⟨rfl, hb2⟩
  have hL2 := hL1.below hL1.lt hb2
  have hz2 := hb2.size
  go_wp2_with fail
  refine (told2 _ hL2).mono ?_
  rintro e w3 ⟨rfl, hb3⟩
  go_wp2
  go_ret
  exact ⟨rfl, (hb1.trans (hb2.mono hz1)).trans (hb3.mono (Nat.le_trans hz1 hz2))⟩
end Go.Proofs.YtandblanpafjoaaDoor
