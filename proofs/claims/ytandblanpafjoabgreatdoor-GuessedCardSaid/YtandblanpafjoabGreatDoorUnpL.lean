import Derived.Test.YtandblanpafjoabGreatDoorSrc2
namespace Go.Proofs.YtandblanpafjoabGreatDoor
open Go.RowKit

/-! What packets are, in lists of bytes. -/
def Framed (l : List Int) : Prop := 8 ≤ l.length ∧ (l.length : Int) = 8 + l.getD 6 0 ∧ l.getD 0 0 = 82 ∧ l.getD (l.length - 1) 0 = xorL (l.take (l.length - 1))
instance (l : List Int) : Decidable (Framed l) := by unfold Framed; infer_instance
def fromL (l : List Int) : Int := l.getD 1 0
def numL (l : List Int) (j : Nat) : Int := l.getD j 0 * 256 + l.getD (j + 1) 0
def startL (l : List Int) : Int := numL l 2
def ackL (l : List Int) : Int := numL l 4

theorem parts7 (l : List Int) (k : Nat) (hl : l.length = k + 8) : ∃ a0 a1 a2 a3 a4 a5 a6 : Int, ∃ m : List Int, ∃ z : Int, l = [a0, a1, a2, a3, a4, a5, a6] ++ m ++ [z] ∧ m.length = k := by
  match l, hl with
  | a0 :: a1 :: a2 :: a3 :: a4 :: a5 :: a6 :: r, hl =>
    have hr : r.length = k + 1 := by simp at hl; omega
    rcases List.eq_nil_or_concat r with rfl | ⟨m, z, rfl⟩
    · simp at hr
    · exact ⟨a0, a1, a2, a3, a4, a5, a6, m, z, by simp, by simpa using hr⟩

theorem pack_is (l : List Int) (k : Nat) (hl : l.length = k + 8) (hr : ∀ j : Nat, 0 ≤ l.getD j 0 ∧ l.getD j 0 ≤ 255) : packL (fromL l) (startL l) (ackL l) ((l.drop 7).take k) = l ↔ Framed l := by
  obtain ⟨a0, a1, a2, a3, a4, a5, a6, m, z, rfl, hm⟩ := parts7 l k hl
  have r2 := hr 2
  have r3 := hr 3
  have r4 := hr 4
  have r5 := hr 5
  simp only [List.cons_append, List.nil_append, List.getD_cons_succ, List.getD_cons_zero] at r2 r3 r4 r5
  have hd : (([a0, a1, a2, a3, a4, a5, a6] ++ m ++ [z]).drop 7).take k = m := by
    subst hm
    simp
  have ht : ([a0, a1, a2, a3, a4, a5, a6] ++ m ++ [z]).take (k + 7) = [a0, a1, a2, a3, a4, a5, a6] ++ m := by
    subst hm
    rw [show m.length + 7 = ([a0, a1, a2, a3, a4, a5, a6] ++ m).length by simp, List.take_left']
    rfl
  have hz : ([a0, a1, a2, a3, a4, a5, a6] ++ m ++ [z]).getD (k + 7) 0 = z := by
    subst hm
    rw [show m.length + 7 = ([a0, a1, a2, a3, a4, a5, a6] ++ m).length by simp]
    simp
  have e2 : (a2 * 256 + a3) / 256 = a2 := by omega
  have e3 : (a2 * 256 + a3) % 256 = a3 := by omega
  have e4 : (a4 * 256 + a5) / 256 = a4 := by omega
  have e5 : (a4 * 256 + a5) % 256 = a5 := by omega
  have hh : headL (fromL ([a0, a1, a2, a3, a4, a5, a6] ++ m ++ [z])) (startL ([a0, a1, a2, a3, a4, a5, a6] ++ m ++ [z])) (ackL ([a0, a1, a2, a3, a4, a5, a6] ++ m ++ [z])) m = [82, a1, a2, a3, a4, a5, (k : Int)] ++ m := by
    simp [headL, fromL, startL, ackL, numL, e2, e3, e4, e5, hm]
  rw [hd]
  unfold packL
  rw [hh]
  unfold Framed
  rw [hl, show k + 8 - 1 = k + 7 by omega, ht, hz]
  simp only [List.cons_append, List.nil_append, List.getD_cons_succ, List.getD_cons_zero, List.cons.injEq, List.append_cancel_left_eq]
  constructor
  · rintro ⟨h0, _, _, _, _, _, h6, h7, _⟩
    subst h0
    subst h6
    exact ⟨by omega, by omega, rfl, h7.symm⟩
  · rintro ⟨_, h6, h0, h7⟩
    have h6' : a6 = (k : Int) := by omega
    subst h0
    subst h6'
    exact ⟨rfl, trivial, trivial, trivial, trivial, trivial, rfl, h7.symm, trivial⟩
end Go.Proofs.YtandblanpafjoabGreatDoor
