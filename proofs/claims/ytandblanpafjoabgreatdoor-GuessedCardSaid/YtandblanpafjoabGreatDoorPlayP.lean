import Derived.Test.YtandblanpafjoabGreatDoorPlay
namespace Go.Proofs.YtandblanpafjoabGreatDoor
open Go.RowKit Go.Extern.Stop Go.Stop Go.Extern

def playTo (n : Nat) (fs : List (List Int)) : Nat → List Int
  | 0 => startTo n
  | k + 1 => frameL (playTo n fs k) n (fs.getD k [])
def playL (n : Nat) (fs : List (List Int)) : List Int := playTo n fs fs.length
theorem good_zero (n : Nat) : Good Z288 n := by
  have h : ∀ j : Nat, Z288.getD j 0 = 0 := fun j => by
    unfold Z288
    rw [List.getD_eq_getElem?_getD, List.getElem?_replicate]
    split <;> rfl
  exact ⟨Z288_len, fun j => by rw [h]; omega, fun k _ => by unfold gx; rw [h]; decide, fun k _ => by unfold gy; rw [h]; decide, fun k _ => by unfold gh; rw [h]; decide⟩
theorem good_start (n : Nat) : ∀ k, k ≤ 4 → Good (startTo k) n
  | 0, _ => good_zero n
  | k + 1, h => good_put (good_start n k (by omega)) k _ _ _ _ (by omega) (by omega) (by omega) (by omega) (by omega)
theorem good_play (n : Nat) (hn : n ≤ 4) (fs : List (List Int)) : ∀ k, Good (playTo n fs k) n
  | 0 => good_start n n hn
  | k + 1 => good_turns (good_play n hn fs k) _ hn n (Nat.le_refl _)

end Go.Proofs.YtandblanpafjoabGreatDoor
