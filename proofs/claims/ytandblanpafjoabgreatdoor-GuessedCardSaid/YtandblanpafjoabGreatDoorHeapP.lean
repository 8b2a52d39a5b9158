import Derived.Test.YtandblanpafjoabGreatDoorNetF
namespace Go.Proofs.YtandblanpafjoabGreatDoor
open Go.RowKit

/-! A heap of packets, the next one first: pure. -/
def fl (l : List FlyM) (i : Nat) : FlyM := l.getD i fly0
def swapL (l : List FlyM) (i j : Nat) : List FlyM := (l.set i (fl l j)).set j (fl l i)
theorem swapL_len (l : List FlyM) (i j : Nat) : (swapL l i j).length = l.length := by simp [swapL]
theorem swapL_get (l : List FlyM) (i j k : Nat) (hi : i < l.length) (hj : j < l.length) : fl (swapL l i j) k = if k = j then fl l i else if k = i then fl l j else fl l k := by
  unfold swapL fl
  simp only [List.getD_eq_getElem?_getD, List.getElem?_set, List.length_set]
  by_cases h1 : j = k
  · subst h1; simp [hj]
  · by_cases h2 : i = k
    · subst h2; simp [h1, hi, Ne.symm h1]
    · simp [h1, h2, Ne.symm h1, Ne.symm h2]
theorem swapL_perm (l : List FlyM) (i j : Nat) (hi : i < l.length) (hj : j < l.length) : (swapL l i j).Perm l := by
  have e1 : fl l j = l[j] := by simp [fl, hj]
  have e2 : fl l i = l[i] := by simp [fl, hi]
  unfold swapL; rw [e1, e2]
  exact List.set_set_perm hi hj

theorem nb_trans {a b c : FlyM} (h : ¬ before b a) (k : ¬ before c b) : ¬ before c a := by
  unfold before at *; omega
theorem before_nb {a b : FlyM} (h : before a b) : ¬ before b a := by
  unfold before at *; omega

def HeapO (l : List FlyM) (n : Nat) : Prop := ∀ k, 0 < k → k < n → ¬ before (fl l k) (fl l ((k - 1) / 2))

def upL : Nat → List FlyM → Nat → List FlyM
  | 0, l, _ => l
  | t + 1, l, j => if j = 0 then l else if before (fl l j) (fl l ((j - 1) / 2)) then upL t (swapL l ((j - 1) / 2) j) ((j - 1) / 2) else l
theorem upL_len : ∀ t l j, (upL t l j).length = l.length
  | 0, l, _ => rfl
  | t + 1, l, j => by
    unfold upL; split
    · rfl
    · split
      · rw [upL_len t, swapL_len]
      · rfl
theorem upL_perm : ∀ t l j, j < l.length → (upL t l j).Perm l
  | 0, l, _, _ => .refl _
  | t + 1, l, j, hj => by
    unfold upL; split
    · exact .refl _
    · split
      · exact (upL_perm t _ _ (by rw [swapL_len]; omega)).trans (swapL_perm l _ _ (by omega) hj)
      · exact .refl _
/-- All is right but at j, whose children stand behind its parent. -/
def UpO (l : List FlyM) (n j : Nat) : Prop := (∀ k, 0 < k → k < n → k ≠ j → ¬ before (fl l k) (fl l ((k - 1) / 2))) ∧ (0 < j → ∀ k, 0 < k → k < n → (k - 1) / 2 = j → ¬ before (fl l k) (fl l ((j - 1) / 2)))
theorem upL_heap : ∀ t l j, j < l.length → j ≤ t → UpO l l.length j → HeapO (upL t l j) l.length
  | 0, l, j, hj, ht, h => by
    have : j = 0 := by omega
    subst this
    exact fun k h0 hk => h.1 k h0 hk (by omega)
  | t + 1, l, j, hj, ht, h => by
    unfold upL; split
    · rename_i h0; subst h0
      exact fun k h0 hk => h.1 k h0 hk (by omega)
    · rename_i h0
      split
      · rename_i hb
        have := upL_heap t (swapL l ((j - 1) / 2) j) ((j - 1) / 2) (by rw [swapL_len]; omega) (by omega) ?_
        · rwa [swapL_len] at this
        rw [swapL_len]
        have hi : (j - 1) / 2 < l.length := by omega
        have hij : (j - 1) / 2 ≠ j := by omega
        constructor
        · intro k k0 kn kne
          rw [swapL_get l _ _ _ hi hj, swapL_get l _ _ _ hi hj]
          by_cases k1 : k = j
          · subst k1
            rw [if_pos rfl, if_neg hij, if_pos rfl]
            exact before_nb hb
          · rw [if_neg k1, if_neg kne]
            by_cases p1 : (k - 1) / 2 = j
            · rw [if_pos p1]
              exact h.2 (by omega) k k0 kn p1
            · rw [if_neg p1]
              by_cases p2 : (k - 1) / 2 = (j - 1) / 2
              · rw [if_pos p2]
                have := h.1 k k0 kn k1
                rw [p2] at this
                exact nb_trans (before_nb hb) this
              · rw [if_neg p2]
                exact h.1 k k0 kn k1
        · intro i0 k k0 kn kp
          rw [swapL_get l _ _ _ hi hj, swapL_get l _ _ _ hi hj]
          have g1 : ((j - 1) / 2 - 1) / 2 ≠ j := by omega
          have g2 : ((j - 1) / 2 - 1) / 2 ≠ (j - 1) / 2 := by omega
          rw [if_neg g1, if_neg g2]
          have hp := h.1 ((j - 1) / 2) i0 hi (by omega)
          by_cases k1 : k = j
          · rw [if_pos k1]; exact hp
          · rw [if_neg k1, if_neg (by omega)]
            have := h.1 k k0 kn k1
            rw [kp] at this
            exact nb_trans hp this
      · rename_i hb
        intro k k0 kn
        by_cases k1 : k = j
        · subst k1; exact hb
        · exact h.1 k k0 kn k1

/-- The lesser child of i. -/
def kidL (l : List FlyM) (i n : Nat) : Nat := if 2 * i + 2 < n ∧ before (fl l (2 * i + 2)) (fl l (2 * i + 1)) then 2 * i + 2 else 2 * i + 1
theorem kidL_is (l : List FlyM) (i n : Nat) : kidL l i n = 2 * i + 1 ∨ (kidL l i n = 2 * i + 2 ∧ 2 * i + 2 < n) := by
  unfold kidL; split <;> omega
def downL : Nat → List FlyM → Nat → Nat → List FlyM
  | 0, l, _, _ => l
  | t + 1, l, i, n => if n ≤ 2 * i + 1 then l else if before (fl l (kidL l i n)) (fl l i) then downL t (swapL l i (kidL l i n)) (kidL l i n) n else l
theorem downL_len : ∀ t l i n, (downL t l i n).length = l.length
  | 0, l, _, _ => rfl
  | t + 1, l, i, n => by
    unfold downL; split
    · rfl
    · split
      · rw [downL_len t, swapL_len]
      · rfl
theorem downL_perm : ∀ t l i n, n ≤ l.length → (downL t l i n).Perm l
  | 0, l, _, _, _ => .refl _
  | t + 1, l, i, n, hn => by
    unfold downL; split
    · exact .refl _
    · have := kidL_is l i n
      split
      · exact (downL_perm t _ _ _ (by rw [swapL_len]; omega)).trans (swapL_perm l _ _ (by omega) (by omega))
      · exact .refl _
theorem downL_rest : ∀ t l i n k, n ≤ l.length → n ≤ k → fl (downL t l i n) k = fl l k
  | 0, l, _, _, _, _, _ => rfl
  | t + 1, l, i, n, k, hn, hk => by
    unfold downL; split
    · rfl
    · have := kidL_is l i n
      split
      · rw [downL_rest t _ _ _ _ (by rw [swapL_len]; omega) hk, swapL_get l _ _ _ (by omega) (by omega), if_neg (by omega), if_neg (by omega)]
      · rfl
/-- All is right but below i, whose parent stands ahead of its children. -/
def DownO (l : List FlyM) (n i : Nat) : Prop := (∀ k, 0 < k → k < n → (k - 1) / 2 ≠ i → ¬ before (fl l k) (fl l ((k - 1) / 2))) ∧ (0 < i → ∀ k, 0 < k → k < n → (k - 1) / 2 = i → ¬ before (fl l k) (fl l ((i - 1) / 2)))
theorem kidL_least (l : List FlyM) (i n k : Nat) (k0 : 0 < k) (kn : k < n) (kp : (k - 1) / 2 = i) : ¬ before (fl l k) (fl l (kidL l i n)) := by
  have : k = 2 * i + 1 ∨ k = 2 * i + 2 := by omega
  unfold kidL
  split
  · rename_i h
    rcases this with rfl | rfl
    · exact before_nb h.2
    · unfold before; omega
  · rename_i h
    rcases this with rfl | rfl
    · unfold before; omega
    · exact fun hb => h ⟨kn, hb⟩
theorem downL_heap : ∀ t l i n, n ≤ l.length → n ≤ i + t → DownO l n i → HeapO (downL t l i n) n
  | 0, l, i, n, hn, ht, h => fun k k0 kn => h.1 k k0 kn (by omega)
  | t + 1, l, i, n, hn, ht, h => by
    unfold downL; split
    · exact fun k k0 kn => h.1 k k0 kn (by omega)
    · rename_i hlt
      have hkid := kidL_is l i n
      have hleast := kidL_least l i n
      generalize kidL l i n = j at hkid hleast ⊢
      split
      · rename_i hb
        refine downL_heap t (swapL l i j) j n (by rw [swapL_len]; omega) (by omega) ?_
        have hi : i < l.length := by omega
        have hj : j < l.length := by omega
        constructor
        · intro k k0 kn kp
          rw [swapL_get l _ _ _ hi hj, swapL_get l _ _ _ hi hj, if_neg kp]
          by_cases k1 : k = j
          · subst k1
            rw [if_pos rfl, if_pos (by omega)]
            exact before_nb hb
          · rw [if_neg k1]
            by_cases k2 : k = i
            · subst k2
              rw [if_pos rfl, if_neg (by omega)]
              exact h.2 k0 j (by omega) (by omega) (by omega)
            · rw [if_neg k2]
              by_cases p2 : (k - 1) / 2 = i
              · rw [if_pos p2]; exact hleast k k0 kn p2
              · rw [if_neg p2]; exact h.1 k k0 kn p2
        · intro _ k k0 kn kp
          rw [swapL_get l _ _ _ hi hj, swapL_get l _ _ _ hi hj, if_neg (by omega), if_neg (by omega), if_neg (by omega), if_pos (by omega)]
          have := h.1 k k0 kn (by omega)
          rwa [kp] at this
      · rename_i hb
        intro k k0 kn
        by_cases p1 : (k - 1) / 2 = i
        · rw [p1]
          exact nb_trans hb (hleast k k0 kn p1)
        · exact h.1 k k0 kn p1

theorem heap_top {l : List FlyM} (h : HeapO l l.length) : ∀ k, k < l.length → ¬ before (fl l k) (fl l 0)
  | 0, _ => by unfold before; omega
  | k + 1, hk => nb_trans (heap_top h (k / 2) (by omega)) (by
      have := h (k + 1) (by omega) hk
      simpa using this)
theorem heap_first {l : List FlyM} (h : HeapO l l.length) (f : FlyM) (hf : f ∈ l) : ¬ before f (fl l 0) := by
  obtain ⟨i, hi, rfl⟩ := List.getElem_of_mem hf
  have := heap_top h i hi
  simpa [fl, hi] using this
/-- A new one at the end, and up. -/
def pushL (l : List FlyM) (f : FlyM) : List FlyM := upL (l.length + 1) (l ++ [f]) l.length
theorem pushL_perm (l : List FlyM) (f : FlyM) : (pushL l f).Perm (l ++ [f]) := upL_perm _ _ _ (by simp)
theorem pushL_heap {l : List FlyM} (f : FlyM) (h : HeapO l l.length) : HeapO (pushL l f) (pushL l f).length := by
  unfold pushL
  rw [upL_len]
  refine upL_heap _ _ _ (by simp) (by omega) ⟨?_, ?_⟩
  · intro k k0 kn kne
    simp only [List.length_append, List.length_singleton] at kn
    have e : ∀ i, i < l.length → fl (l ++ [f]) i = fl l i := fun i hi => by simp [fl, List.getElem?_append, hi]
    rw [e k (by omega), e _ (by omega)]
    exact h k k0 (by omega)
  · intro _ k k0 kn kp
    simp only [List.length_append, List.length_singleton] at kn
    omega
/-- The first away: the last in its place, and down. -/
def popL (l : List FlyM) : List FlyM := (downL l.length (swapL l 0 (l.length - 1)) 0 (l.length - 1)).take (l.length - 1)
theorem popL_perm (l : List FlyM) (hl : 0 < l.length) : (fl l 0 :: popL l).Perm l := by
  have h1 := downL_perm l.length (swapL l 0 (l.length - 1)) 0 (l.length - 1) (by rw [swapL_len]; omega)
  have h2 := swapL_perm l 0 (l.length - 1) hl (by omega)
  have hr := downL_rest l.length (swapL l 0 (l.length - 1)) 0 (l.length - 1) (l.length - 1) (by rw [swapL_len]; omega) (Nat.le_refl _)
  have hlen := downL_len l.length (swapL l 0 (l.length - 1)) 0 (l.length - 1)
  rw [swapL_len] at hlen
  rw [swapL_get l _ _ _ hl (by omega), if_pos rfl] at hr
  unfold popL
  generalize downL l.length (swapL l 0 (l.length - 1)) 0 (l.length - 1) = d at h1 hr hlen ⊢
  refine .trans ?_ (h1.trans h2)
  have hd : d = d.take (l.length - 1) ++ [fl l 0] := by
    conv => lhs; rw [← List.take_append_drop (l.length - 1) d]
    congr 1
    rw [← hr]
    have hx : l.length - 1 < d.length := by omega
    rw [List.drop_eq_getElem_cons hx, List.drop_eq_nil_of_le (by omega)]
    simp [fl, hx]
  conv => rhs; rw [hd]
  exact (List.perm_append_comm (l₁ := [fl l 0]) (l₂ := d.take (l.length - 1)))
theorem popL_heap {l : List FlyM} (hl : 0 < l.length) (h : HeapO l l.length) : HeapO (popL l) (popL l).length := by
  have h1 := downL_heap l.length (swapL l 0 (l.length - 1)) 0 (l.length - 1) (by rw [swapL_len]; omega) (by omega) ⟨?_, by omega⟩
  · have hlen := downL_len l.length (swapL l 0 (l.length - 1)) 0 (l.length - 1)
    rw [swapL_len] at hlen
    have e : (popL l).length = l.length - 1 := by unfold popL; rw [List.length_take, hlen]; omega
    rw [e]
    intro k k0 kn
    have g : ∀ i, i < l.length - 1 → fl (popL l) i = fl (downL l.length (swapL l 0 (l.length - 1)) 0 (l.length - 1)) i := fun i hi => by
      unfold popL fl
      simp only [List.getD_eq_getElem?_getD, List.getElem?_take, if_pos hi]
    rw [g k kn, g _ (by omega)]
    exact h1 k k0 kn
  · intro k k0 kn kp
    rw [swapL_get l _ _ _ hl (by omega), swapL_get l _ _ _ hl (by omega), if_neg (by omega), if_neg (by omega), if_neg (by omega), if_neg kp]
    exact h k k0 (by omega)
end Go.Proofs.YtandblanpafjoabGreatDoor
