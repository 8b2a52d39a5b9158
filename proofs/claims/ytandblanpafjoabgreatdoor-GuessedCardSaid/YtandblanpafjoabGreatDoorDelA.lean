import Derived.Test.YtandblanpafjoabGreatDoorFullS
import Derived.Test.YtandblanpafjoabGreatDoorRingG
import Derived.Test.YtandblanpafjoabGreatDoorPages
import Derived.Test.YtandblanpafjoabGreatDoorArrEq
namespace Go.Proofs.YtandblanpafjoabGreatDoor
open Go.RowKit Go.Extern.Stop Go.Stop Go.Extern Go.Maps

/-! The store that keeps pages. -/
structure DeltaAt (w : World) (sb : Nat) (F : Nat → Prop) (n win lo frame : Nat) (fs : Nat → List Int) (pb rb : Nat) (mb : Nat → Nat) : Prop where
  blk : StBlk w sb 250 n frame (stF n fs frame) pb win rb (win + 1)
  pl : RingAt w pb 187 win 4 lo frame (fun f => insV n (fs f))
  ring : ∃ t, Blk w rb ((List.range (win + 1)).map fun i => Value.map (some (mb i))).toArray t
  maps : ∀ i, i < win + 1 → ∃ M, PgMap w (mb i) 18 M
  past : ∀ f, lo ≤ f → f < frame → PgMap w (mb (f % (win + 1))) 18 (diffL (stF n fs f) (stF n fs (f + 1)))
  next : PgMap w (mb (frame % (win + 1))) 0 (fun _ => none)
  inj : ∀ i j, i < win + 1 → j < win + 1 → mb i = mb j → i = j
  far : ∀ i, i < win + 1 → mb i ≠ sb ∧ mb i ≠ pb ∧ mb i ≠ rb ∧ F (mb i)
  ne1 : sb ≠ pb
  ne2 : sb ≠ rb
  ne3 : pb ≠ rb
  f1 : F sb
  f2 : F pb
  f3 : F rb
theorem DeltaAt.same {w w' : World} {sb : Nat} {F : Nat → Prop} {n win lo frame : Nat} {fs : Nat → List Int} {pb rb : Nat} {mb : Nat → Nat} (h : DeltaAt w sb F n win lo frame fs pb rb mb) (hs : Same F w w') : DeltaAt w' sb F n win lo frame fs pb rb mb :=
  ⟨h.blk.same (hs _ h.f1), h.pl.same (hs _ h.f2), by obtain ⟨t, ht⟩ := h.ring; exact ⟨t, (hs _ h.f3).trans ht⟩,
   fun i hi => by obtain ⟨M, hM⟩ := h.maps i hi; exact ⟨M, hM.same (hs _ (h.far i hi).2.2.2)⟩,
   fun f h1 h2 => (h.past f h1 h2).same (hs _ (h.far _ (Nat.mod_lt f (by omega))).2.2.2), h.next.same (hs _ (h.far _ (Nat.mod_lt frame (by omega))).2.2.2), h.inj, h.far, h.ne1, h.ne2, h.ne3, h.f1, h.f2, h.f3⟩
theorem DeltaAt.congr {w : World} {sb : Nat} {F : Nat → Prop} {n win lo frame : Nat} {fs gs : Nat → List Int} {pb rb : Nat} {mb : Nat → Nat} (h : DeltaAt w sb F n win lo frame fs pb rb mb) (he : ∀ f, f < frame → gs f = fs f) : DeltaAt w sb F n win lo frame gs pb rb mb :=
  ⟨by rw [stF_congr (gs := fs) frame he]; exact h.blk, h.pl.congr (fun f _ hf => by rw [he f hf]), h.ring, h.maps,
   fun f h1 h2 => by rw [stF_congr (gs := fs) f (fun k hk => he k (by omega)), stF_congr (gs := fs) (f + 1) (fun k hk => he k (by omega))]; exact h.past f h1 h2, h.next, h.inj, h.far, h.ne1, h.ne2, h.ne3, h.f1, h.f2, h.f3⟩
theorem DeltaAt.lower {w : World} {sb : Nat} {F : Nat → Prop} {n win lo lo' frame : Nat} {fs : Nat → List Int} {pb rb : Nat} {mb : Nat → Nat} (h : DeltaAt w sb F n win lo frame fs pb rb mb) (hl : lo ≤ lo') : DeltaAt w sb F n win lo' frame fs pb rb mb :=
  ⟨h.blk, h.pl.less hl (Nat.le_refl _), h.ring, h.maps, fun f h1 h2 => h.past f (by omega) h2, h.next, h.inj, h.far, h.ne1, h.ne2, h.ne3, h.f1, h.f2, h.f3⟩
theorem DeltaAt.slot {w : World} {sb : Nat} {F : Nat → Prop} {n win lo frame : Nat} {fs : Nat → List Int} {pb rb : Nat} {mb : Nat → Nat} (h : DeltaAt w sb F n win lo frame fs pb rb mb) (f : Nat) : w.cell? ⟨rb, f % (win + 1), none⟩ = some (.map (some (mb (f % (win + 1))))) := by
  obtain ⟨t, ht⟩ := h.ring
  rw [ht.cell]
  have := Nat.mod_lt f (show 0 < win + 1 by omega)
  simp [this]
theorem DeltaAt.rlt {w : World} {sb : Nat} {F : Nat → Prop} {n win lo frame : Nat} {fs : Nat → List Int} {pb rb : Nat} {mb : Nat → Nat} (h : DeltaAt w sb F n win lo frame fs pb rb mb) : rb < w.heap.size := by
  obtain ⟨t, ht⟩ := h.ring; exact ht.lt

/-- Those pages are put back that are no longer to come. -/
def backL (m : List Int) (M : Nat → Option (List Int)) (left : Lit → Bool) : List Int := overL m (fun i => if left (kI i) then none else M i)
theorem backL_len (m : List Int) (M : Nat → Option (List Int)) (left : Lit → Bool) : (backL m M left).length = 288 := overL_len _ _
theorem backL_start {m : List Int} {M : Nat → Option (List Int)} {left : Lit → Bool} (hm : m.length = 288) (h : ∀ i, M i ≠ none → left (kI i) = true) : backL m M left = m := by
  refine list_ext288 (backL_len _ _ _) hm fun j hj => ?_
  unfold backL
  rw [overL_get _ _ _ hj]
  by_cases e : left (kI (j / 16)) = true
  · simp [e]
  · have : M (j / 16) = none := by
      apply Classical.byContradiction
      intro hx; exact e (h _ hx)
    simp [this]
theorem backL_end {m : List Int} {M : Nat → Option (List Int)} {left : Lit → Bool} (h : ∀ kl, left kl = false) : backL m M left = overL m M := by
  unfold backL
  congr 1
  funext i
  simp [h]
theorem getD_three (A l C : List Int) (j : Nat) : (A ++ (l ++ C)).getD j 0 = if j < A.length then A.getD j 0 else if j < A.length + l.length then l.getD (j - A.length) 0 else C.getD (j - A.length - l.length) 0 := by
  simp only [List.getD_eq_getElem?_getD]
  split
  · rw [List.getElem?_append_left (by assumption)]
  · split
    · rw [List.getElem?_append_right (by omega), List.getElem?_append_left (by omega)]
    · rw [List.getElem?_append_right (by omega), List.getElem?_append_right (by omega)]
theorem getD_takeL (A : List Int) (k j : Nat) (h : j < k) : (A.take k).getD j 0 = A.getD j 0 := by simp [List.getD_eq_getElem?_getD, h]
theorem getD_dropL (A : List Int) (k j : Nat) : (A.drop k).getD j 0 = A.getD (k + j) 0 := by simp [List.getD_eq_getElem?_getD, List.getElem?_drop]
theorem backL_step {m : List Int} {M : Nat → Option (List Int)} {left : Lit → Bool} {i : Nat} {l : List Int} (hi : i < 18) (hM : M i = some l) (hl : l.length = 16) :
    backL m M (fun z => left z && !z.sameKey (kI i)) = (backL m M left).take (16 * i) ++ (l ++ (backL m M left).drop (16 * i + 16)) := by
  have hk : ∀ j, (kI j).sameKey (kI i) = decide (j = i) := fun j => by
    by_cases e : j = i
    · subst e; simp [kI, Lit.sameKey]
    · simp [kI, Lit.sameKey, e]; omega
  refine list_ext288 (backL_len _ _ _) (by simp [backL_len, hl]; omega) fun j hj => ?_
  unfold backL
  rw [overL_get _ _ _ hj]
  simp only [hk]
  have hlen : (overL m fun i => if left (kI i) = true then none else M i).length = 288 := overL_len _ _
  have htl : ((overL m fun i => if left (kI i) = true then none else M i).take (16 * i)).length = 16 * i := by simp [hlen]; omega
  rw [getD_three, htl, hl]
  by_cases h1 : j < 16 * i
  · have hne : j / 16 ≠ i := by omega
    rw [if_pos h1, getD_takeL _ _ _ h1, overL_get _ _ _ hj]
    simp [hne]
  · rw [if_neg h1]
    by_cases h2 : j < 16 * i + 16
    · have he : j / 16 = i := by omega
      have hm' : j % 16 = j - 16 * i := by omega
      rw [if_pos h2, he, hM, hm']
      simp
    · have hne : j / 16 ≠ i := by omega
      rw [if_neg h2, getD_dropL, show 16 * i + 16 + (j - 16 * i - 16) = j by omega, overL_get _ _ _ hj]
      simp [hne]
theorem back_state (n : Nat) (hn : n ≤ 4) (fs : Nat → List Int) (f : Nat) : overL (stF n fs (f + 1)) (diffL (stF n fs f) (stF n fs (f + 1))) = stF n fs f := over_diff (stF_len hn fs f)
end Go.Proofs.YtandblanpafjoabGreatDoor
