import Derived.Test.YtandblanpafjoabGreatDoorPack01
namespace Go.Proofs.YtandblanpafjoabGreatDoor
open Go.RowKit

/-! A ring in memory: the last things of a numbered row. -/
theorem rangeAt_same {w w' : World} {g o : Nat} {cs : List Value} (h : w.rangeAt g o cs) (hs : w'.heap[g]? = w.heap[g]?) : w'.rangeAt g o cs := fun j v hv =>
  (World.cell?_of_block (a := ⟨g, o + j, none⟩) hs).trans (h j v hv)
structure RingAt (w : World) (g : Nat) (t : TypeId) (W s lo hi : Nat) (el : Nat → List Value) : Prop where
  blk : ∃ cs, Blk w g cs t ∧ cs.size = W * s
  at_ : ∀ f, lo ≤ f → f < hi → w.rangeAt g (f % W * s) (el f)
theorem RingAt.same {w w' : World} {g : Nat} {t : TypeId} {W s lo hi : Nat} {el : Nat → List Value} (h : RingAt w g t W s lo hi el) (hs : w'.heap[g]? = w.heap[g]?) : RingAt w' g t W s lo hi el :=
  ⟨by obtain ⟨cs, h1, h2⟩ := h.blk; exact ⟨cs, hs.trans h1, h2⟩, fun f h1 h2 => rangeAt_same (h.at_ f h1 h2) hs⟩
theorem RingAt.less {w : World} {g : Nat} {t : TypeId} {W s lo hi lo' hi' : Nat} {el : Nat → List Value} (h : RingAt w g t W s lo hi el) (hl : lo ≤ lo') (hh : hi' ≤ hi) : RingAt w g t W s lo' hi' el :=
  ⟨h.blk, fun f h1 h2 => h.at_ f (by omega) (by omega)⟩
theorem RingAt.congr {w : World} {g : Nat} {t : TypeId} {W s lo hi : Nat} {el el' : Nat → List Value} (h : RingAt w g t W s lo hi el) (he : ∀ f, lo ≤ f → f < hi → el' f = el f) : RingAt w g t W s lo hi el' :=
  ⟨h.blk, fun f h1 h2 => by rw [he f h1 h2]; exact h.at_ f h1 h2⟩
theorem mod_apart {f g W : Nat} (h1 : f < g) (h2 : g < f + W) : f % W ≠ g % W := by
  intro e
  have a := Nat.div_add_mod f W
  have b := Nat.div_add_mod g W
  rw [e] at a
  have : W * (g / W) = W * (f / W) + (g - f) := by omega
  have hle : f / W ≤ g / W := Nat.div_le_div_right (by omega)
  obtain ⟨k, hk⟩ := Nat.exists_eq_add_of_le hle
  rw [hk, Nat.mul_add] at this
  have hk' : W * k = g - f := by omega
  rcases Nat.eq_zero_or_pos k with rfl | hp
  · simp at hk'; omega
  · have := Nat.le_mul_of_pos_right W hp; omega
theorem mul_apart {a b s : Nat} (h : a ≠ b) : a * s + s ≤ b * s ∨ b * s + s ≤ a * s := by
  rcases Nat.lt_or_gt_of_ne h with h | h
  · left; have := Nat.mul_le_mul_right s (show a + 1 ≤ b by omega); rw [Nat.add_mul] at this; omega
  · right; have := Nat.mul_le_mul_right s (show b + 1 ≤ a by omega); rw [Nat.add_mul] at this; omega
theorem slot_le {f W s : Nat} (hW : 0 < W) : f % W * s + s ≤ W * s := by
  have := Nat.mul_le_mul_right s (show f % W + 1 ≤ W from Nat.mod_lt f hW)
  rw [Nat.add_mul] at this; omega
theorem RingAt.there {w : World} {g : Nat} {t : TypeId} {W s lo hi : Nat} {el : Nat → List Value} (h : RingAt w g t W s lo hi el) (hW : 0 < W) (f : Nat) : w.there g (f % W * s) s := by
  obtain ⟨cs, h1, h2⟩ := h.blk
  exact h1.there (by rw [h2]; exact slot_le hW)
theorem RingAt.put {w : World} {g : Nat} {t : TypeId} {W s lo hi : Nat} {el : Nat → List Value} (h : RingAt w g t W s lo hi el) (hW : 0 < W) (x : List Value) (hx : x.length = s) (hs : ∀ f, lo ≤ f → f < hi → (el f).length = s) (hlo : hi < lo + W) :
    RingAt (w.setCells g (hi % W * s) x) g t W s lo (hi + 1) (fun f => if f = hi then x else el f) := by
  have ht := h.there hW hi
  obtain ⟨cs, h1, h2⟩ := h.blk
  refine ⟨⟨_, Blk.setCells x _ w cs h1, by rw [putA_toList]; exact h2⟩, fun f f1 f2 => ?_⟩
  by_cases e : f = hi
  · subst e
    rw [if_pos rfl]
    exact World.rangeAt_setCells_same w g _ x (by rw [hx]; exact ht)
  · rw [if_neg e]
    refine World.rangeAt_setCells_apart (h.at_ f f1 (by omega)) g _ x (.inr ?_)
    rw [hs f f1 (by omega), hx]
    exact mul_apart (mod_apart (by omega) (by omega))
end Go.Proofs.YtandblanpafjoabGreatDoor

