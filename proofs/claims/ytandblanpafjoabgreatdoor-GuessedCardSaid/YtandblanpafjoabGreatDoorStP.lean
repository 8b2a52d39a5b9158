import Derived.Test.YtandblanpafjoabGreatDoorPlayP
namespace Go.Proofs.YtandblanpafjoabGreatDoor
open Go.RowKit

/-! States of a game, frame by frame; pages: pure. -/
def stF (n : Nat) (fs : Nat → List Int) : Nat → List Int
  | 0 => startTo n
  | f + 1 => frameL (stF n fs f) n (fs f)
theorem stF_congr {n : Nat} {fs gs : Nat → List Int} : ∀ f, (∀ k, k < f → fs k = gs k) → stF n fs f = stF n gs f
  | 0, _ => rfl
  | f + 1, h => by
    unfold stF
    rw [stF_congr f (fun k hk => h k (by omega)), h f (by omega)]
theorem good_frame {m : List Int} {n : Nat} (hg : Good m n) (ins : List Int) (hn : n ≤ 4) : Good (frameL m n ins) n := good_turns hg ins hn n (Nat.le_refl _)
theorem stF_good {n : Nat} (hn : n ≤ 4) (fs : Nat → List Int) : ∀ f, Good (stF n fs f) n
  | 0 => good_start n n hn
  | f + 1 => good_frame (stF_good hn fs f) _ hn
theorem stF_len {n : Nat} (hn : n ≤ 4) (fs : Nat → List Int) (f : Nat) : (stF n fs f).length = 288 := (stF_good hn fs f).len
theorem stF_play (n : Nat) (l : List (List Int)) : ∀ k, playTo n l k = stF n (fun f => l.getD f []) k
  | 0 => rfl
  | k + 1 => by
    unfold playTo stF
    rw [stF_play n l k]

/-- A memory with some pages put over. -/
def overL (m : List Int) (M : Nat → Option (List Int)) : List Int := (List.range 288).map fun j => match M (j / 16) with
  | some p => p.getD (j % 16) 0
  | none => m.getD j 0
theorem overL_len (m : List Int) (M : Nat → Option (List Int)) : (overL m M).length = 288 := by simp [overL]
theorem overL_get (m : List Int) (M : Nat → Option (List Int)) (j : Nat) (hj : j < 288) : (overL m M).getD j 0 = match M (j / 16) with
  | some p => p.getD (j % 16) 0
  | none => m.getD j 0 := by
  simp only [overL, List.getD_eq_getElem?_getD, List.getElem?_map, List.getElem?_range hj]
  rfl
theorem list_ext288 {a b : List Int} (ha : a.length = 288) (hb : b.length = 288) (h : ∀ j, j < 288 → a.getD j 0 = b.getD j 0) : a = b := by
  apply List.ext_getElem (by rw [ha, hb])
  intro i h1 h2
  have := h i (by omega)
  simpa [h1, h2] using this
/-- The pages in which two memories part, as the first has them. -/
def diffL (a b : List Int) (i : Nat) : Option (List Int) := if i < 18 ∧ pageL a i ≠ pageL b i then some (pageL a i) else none
theorem over_diff {a b : List Int} (ha : a.length = 288) : overL b (diffL a b) = a := by
  refine list_ext288 (overL_len _ _) ha fun j hj => ?_
  rw [overL_get _ _ _ hj]
  have e : 16 * (j / 16) + j % 16 = j := by omega
  unfold diffL
  by_cases h : pageL a (j / 16) = pageL b (j / 16)
  · rw [if_neg (by simp [h])]
    have h1 := pageL_get a (j / 16) (j % 16) (by omega)
    have h2 := pageL_get b (j / 16) (j % 16) (by omega)
    rw [e] at h1 h2
    rw [← h1, h, h2]
  · rw [if_pos ⟨by omega, h⟩]
    simp only [pageL_get a (j / 16) (j % 16) (by omega), e]
end Go.Proofs.YtandblanpafjoabGreatDoor
