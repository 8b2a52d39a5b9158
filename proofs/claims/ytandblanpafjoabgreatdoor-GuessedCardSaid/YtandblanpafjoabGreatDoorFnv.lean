import Derived.Test.YtandblanpafjoabGreatDoorChecked
import Derived.Test.YtandblanpafjoabGreatDoorBase
namespace Go.Proofs.YtandblanpafjoabGreatDoor
open Go.RowKit Go.Extern.Stop Go.Stop Go.Extern

/-- A step of FNV, in the walk's own words. -/
def fstep (v x : Int) : Int := bits .xor .u32 v (x % 4294967296) * 16777619 % 4294967296
def fnvL (l : List Int) : Int := l.foldl fstep 2166136261
theorem fnvL_snoc (l : List Int) (k : Nat) (h : k < l.length) : fnvL (l.take (k + 1)) = fstep (fnvL (l.take k)) l[k] := by
  unfold fnvL
  rw [List.take_succ_eq_append_getElem h, List.foldl_append]; rfl
theorem fnvL_range (l : List Int) : 0 ≤ fnvL l ∧ fnvL l ≤ 4294967295 := by
  unfold fnvL
  rcases List.eq_nil_or_concat l with rfl | ⟨r, x, rfl⟩
  · decide
  · rw [List.concat_eq_append, List.foldl_append]
    simp only [List.foldl_cons, List.foldl_nil, fstep]
    omega

set_option maxHeartbeats 400000 in
theorem gfnv_any (b off n c : Nat) (l : List Int) (w : World) (hl : l.length = n) (hn : n ≤ 1000)
    (hc : ∀ j, j < n → w.cell? ⟨b, off + j, none⟩ = some (.int .u8 (l.getD j 0))) (hr : ∀ j : Nat, 0 ≤ l.getD j 0 ∧ l.getD j 0 ≤ 255) :
    Calls Tryz.prog 75 #[.slice (some ⟨b, off, none⟩) n c] w fun e w' => e = .returned (.int .u32 (fnvL l)) ∧ w' = w := by
  go_enter Tryz.func75, Tryz.ntmps75
  go_wp2
  go_loop [3, 8] (fun v i => ∃ k : Nat, k ≤ n ∧ i = .int .i64 k ∧ v = .int .u32 (fnvL (l.take k))) (fun _ i => n - (intOf i).toNat)
  case atStart => exact ⟨0, Nat.zero_le _, rfl, rfl⟩
  case round =>
    obtain ⟨k, hk, rfl, rfl⟩ := hrel
    by_cases hlt : k < n
    · have hcell := hc k hlt
      have hrk := hr k
      have hs := hide (fnvL_snoc l k (by omega))
      go_wp2
      go_round
      case rel => exact ⟨k + 1, by omega, by go_num, int_eq (unhide hs).symm⟩
      case measure => simp [intOf]; omega
    · go_wp2
      go_ret
      exact ⟨ret_int (by rw [List.take_of_length_le (by omega)]), rfl⟩

end Go.Proofs.YtandblanpafjoabGreatDoor
