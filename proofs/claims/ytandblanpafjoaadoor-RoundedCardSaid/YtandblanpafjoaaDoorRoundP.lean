import Derived.Test.YtandblanpafjoaaDoorPlay3
namespace Go.Proofs.YtandblanpafjoaaDoor
/-! The inputs of the law Rounded, and what the game makes of them: reckoned. -/
def rcount (v : Nat) : Nat := if 1 < v then 16 else 4
def rfr (n p v i : Nat) : List Int := if rcount v = 16 ∧ 0 < i then ((List.replicate n 3).set p (1 + ((v % 2 : Nat) : Int))).set p 0 else (List.replicate n 3).set p (1 + ((v % 2 : Nat) : Int))
def rfs (n p v : Nat) : List (List Int) := (List.range (rcount v)).map (rfr n p v)

theorem list_ext' {a b : List Int} (hl : a.length = b.length) (h : ∀ j : Nat, a.getD j 0 = b.getD j 0) : a = b := by
  apply List.ext_getElem hl
  intro j h1 h2
  have := h j
  simpa [h1, h2] using this
theorem put_self {m : List Int} {n k : Nat} (hg : Good m n) (hk : k < n) (hn : n ≤ 4) : putL m k (gx m k) (gy m k) (gh m k) (gs m k) = m := by
  have hs := hg.ship hk
  have e1 : gs m k % 256 = gb m k := by have := hs.hb; unfold gs; omega
  have e2 : gs m k / 256 = ga m k := by have := hs.hb; unfold gs; omega
  refine list_ext' (putL_len ..) (fun j => ?_)
  rw [putL_get m k _ _ _ _ j hg.len (by omega), e1, e2, ← hs.ex, ← hs.ey, ← hs.eh, ← hs.ea, ← hs.eb]
  by_cases j4 : j = 256 + 8 * k + 4
  · rw [if_pos j4, j4]
  · rw [if_neg j4]
    by_cases j3 : j = 256 + 8 * k + 3
    · rw [if_pos j3, j3]
    · rw [if_neg j3]
      by_cases j2 : j = 256 + 8 * k + 2
      · rw [if_pos j2, j2]
      · rw [if_neg j2]
        by_cases j1 : j = 256 + 8 * k + 1
        · rw [if_pos j1, j1]
        · rw [if_neg j1]
          by_cases j0 : j = 256 + 8 * k
          · rw [if_pos j0, j0]
          · rw [if_neg j0]
theorem put_put (m : List Int) (k x y h s x' y' h' s' : Nat) (hm : m.length = 288) (hk : k < 4) : putL (putL m k x y h s) k x' y' h' s' = putL m k x' y' h' s' := by
  refine list_ext' (by rw [putL_len, putL_len, putL_len]) (fun j => ?_)
  rw [putL_get _ k _ _ _ _ j (by rw [putL_len]; exact hm) hk, putL_get m k x' y' h' s' j hm hk, putL_get m k x y h s j hm hk]
  by_cases j4 : j = 256 + 8 * k + 4
  · rw [if_pos j4, if_pos j4]
  · rw [if_neg j4, if_neg j4, if_neg j4]
    by_cases j3 : j = 256 + 8 * k + 3
    · rw [if_pos j3, if_pos j3]
    · rw [if_neg j3, if_neg j3, if_neg j3]
      by_cases j2 : j = 256 + 8 * k + 2
      · rw [if_pos j2, if_pos j2]
      · rw [if_neg j2, if_neg j2, if_neg j2]
        by_cases j1 : j = 256 + 8 * k + 1
        · rw [if_pos j1, if_pos j1]
        · rw [if_neg j1, if_neg j1, if_neg j1]
          by_cases j0 : j = 256 + 8 * k
          · rw [if_pos j0, if_pos j0]
          · rw [if_neg j0, if_neg j0, if_neg j0]
/-- Input 3 does nothing. -/
theorem turn_three {m : List Int} {n k : Nat} (hg : Good m n) (hk : k < n) (hn : n ≤ 4) : turnL m n k 3 = m := by
  have e : settleL m k (gx m k) (gy m k) (gh m k) (gs m k) 3 = m := by
    unfold settleL; rw [if_neg (by rintro ⟨h, _⟩; omega)]; exact put_self hg hk hn
  unfold turnL
  have e1 : goX (gx m k) (gh m k) (3 % 4) = gx m k := rfl
  have e2 : goY (gy m k) (gh m k) (3 % 4) = gy m k := rfl
  have e3 : newHead (gh m k) (3 % 4) = gh m k := rfl
  rw [e1, e2, e3, e, ite_self]
theorem start_ship : ∀ (n p : Nat), n ≤ 4 → p < n → ShipAt (startTo n) p (4 * p + 2) 8 0 0 0
  | 0, p, _, h => absurd h (by omega)
  | n + 1, p, hn, hp => by
    have hl := startTo_len n
    have hg : ∀ j : Nat, (startTo (n + 1)).getD j 0 = _ := fun j => putL_get (startTo n) n (4 * n + 2) 8 0 0 j hl (by omega)
    by_cases h : p = n
    · subst h
      exact ⟨by rw [hg]; simp, by rw [hg]; simp, by rw [hg]; simp, by rw [hg]; simp, by rw [hg]; simp, by omega, by omega, by omega, by omega, by omega⟩
    · have ih := start_ship n p (by omega) (by omega)
      exact ⟨by rw [hg, if_neg (by omega), if_neg (by omega), if_neg (by omega), if_neg (by omega), if_neg (by omega)]; exact ih.ex, by rw [hg, if_neg (by omega), if_neg (by omega), if_neg (by omega), if_neg (by omega), if_neg (by omega)]; exact ih.ey,
        by rw [hg, if_neg (by omega), if_neg (by omega), if_neg (by omega), if_neg (by omega), if_neg (by omega)]; exact ih.eh, by rw [hg, if_neg (by omega), if_neg (by omega), if_neg (by omega), if_neg (by omega), if_neg (by omega)]; exact ih.ea,
        by rw [hg, if_neg (by omega), if_neg (by omega), if_neg (by omega), if_neg (by omega), if_neg (by omega)]; exact ih.eb, by omega, by omega, by omega, by omega, by omega⟩
/-- Ship p elsewhere, all else as at the beginning. -/
def mst (n p x y h : Nat) : List Int := putL (startTo n) p x y h 0
theorem good_mst (n p x y h : Nat) (hn : n ≤ 4) (hp : p < n) (hx : x < 16) (hy : y < 16) (hh : h < 4) : Good (mst n p x y h) n := good_put (good_start n n hn) p x y h 0 (by omega) hx hy hh (by omega)
theorem mst_x (n p x y h : Nat) (hn : n ≤ 4) (hp : p < n) (o : Nat) (ho : o < n) : gx (mst n p x y h) o = if o = p then x else 4 * o + 2 := by
  unfold gx mst
  rw [putL_get _ p x y h 0 _ (startTo_len n) (by omega)]
  by_cases h' : o = p
  · subst h'; simp
  · rw [if_neg (by omega), if_neg (by omega), if_neg (by omega), if_neg (by omega), if_neg (by omega), if_neg h', (start_ship n o hn ho).ex]; rfl
theorem mst_y (n p x y h : Nat) (hn : n ≤ 4) (hp : p < n) (o : Nat) (ho : o < n) : gy (mst n p x y h) o = if o = p then y else 8 := by
  unfold gy mst
  rw [putL_get _ p x y h 0 _ (startTo_len n) (by omega)]
  by_cases h' : o = p
  · subst h'; simp
  · rw [if_neg (by omega), if_neg (by omega), if_neg (by omega), if_neg (by omega), if_neg (by omega), if_neg h', (start_ship n o hn ho).ey]; rfl
theorem mst_h (n p x y h : Nat) (hn : n ≤ 4) (hp : p < n) : gh (mst n p x y h) p = h := by
  unfold gh mst
  rw [putL_get _ p x y h 0 _ (startTo_len n) (by omega)]; simp
theorem mst_s (n p x y h : Nat) (hn : n ≤ 4) (hp : p < n) : gs (mst n p x y h) p = 0 := by
  unfold gs ga gb mst
  rw [putL_get _ p x y h 0 _ (startTo_len n) (by omega), putL_get _ p x y h 0 _ (startTo_len n) (by omega)]; simp
def hitS (n p tx ty : Nat) : Bool := (List.range n).any fun o => decide (o ≠ p) && (decide (4 * o + 2 = tx) && decide (8 = ty))
theorem mst_blocked (n p x y h tx ty : Nat) (hn : n ≤ 4) (hp : p < n) : blocked (mst n p x y h) n p tx ty = hitS n p tx ty := by
  unfold blocked hitS
  rw [Bool.eq_iff_iff, List.any_eq_true, List.any_eq_true]
  constructor
  · rintro ⟨o, ho, h1⟩
    refine ⟨o, ho, ?_⟩
    rw [List.mem_range] at ho
    simp only [Bool.and_eq_true, decide_eq_true_eq] at h1 ⊢
    rw [mst_x n p x y h hn hp o ho, mst_y n p x y h hn hp o ho, if_neg h1.1, if_neg h1.1] at h1
    exact h1
  · rintro ⟨o, ho, h1⟩
    refine ⟨o, ho, ?_⟩
    rw [List.mem_range] at ho
    simp only [Bool.and_eq_true, decide_eq_true_eq] at h1 ⊢
    rw [mst_x n p x y h hn hp o ho, mst_y n p x y h hn hp o ho, if_neg h1.1, if_neg h1.1]
    exact h1
def stepS (n p : Nat) (s : Nat × Nat × Nat) (i : Nat) : Nat × Nat × Nat :=
  if hitS n p (goX s.1 s.2.2 i) (goY s.2.1 s.2.2 i) then (s.1, s.2.1, newHead s.2.2 i) else (goX s.1 s.2.2 i, goY s.2.1 s.2.2 i, newHead s.2.2 i)
theorem turn_mst (n p : Nat) (s : Nat × Nat × Nat) (i : Nat) (hn : n ≤ 4) (hp : p < n) (hi : i < 3) : turnL (mst n p s.1 s.2.1 s.2.2) n p i = mst n p (stepS n p s i).1 (stepS n p s i).2.1 (stepS n p s i).2.2 := by
  obtain ⟨x, y, h⟩ := s
  have e0 : i % 4 = i := by omega
  have hset : ∀ a b c : Nat, settleL (mst n p x y h) p a b c 0 i = mst n p a b c := fun a b c => by
    unfold settleL; rw [if_neg (by rintro ⟨h, _⟩; omega)]; exact put_put _ p _ _ _ _ _ _ _ _ (startTo_len n) (by omega)
  unfold turnL stepS
  rw [mst_x n p x y h hn hp p hp, mst_y n p x y h hn hp p hp, mst_h n p x y h hn hp, mst_s n p x y h hn hp, if_pos rfl, if_pos rfl, e0, mst_blocked n p x y h _ _ hn hp]
  split
  · exact hset _ _ _
  · exact hset _ _ _
theorem turns_mst (n p : Nat) (s : Nat × Nat × Nat) (ins : List Int) (i : Nat) (hn : n ≤ 4) (hp : p < n) (hi : i < 3) (hx : s.1 < 16) (hy : s.2.1 < 16) (hh : s.2.2 < 4) (hx' : (stepS n p s i).1 < 16) (hy' : (stepS n p s i).2.1 < 16) (hh' : (stepS n p s i).2.2 < 4)
    (h3 : ∀ q, q < n → q ≠ p → ins.getD q 0 = 3) (hpi : ins.getD p 0 = (i : Int)) :
    ∀ k, k ≤ n → turnsL (mst n p s.1 s.2.1 s.2.2) n ins k = if k ≤ p then mst n p s.1 s.2.1 s.2.2 else mst n p (stepS n p s i).1 (stepS n p s i).2.1 (stepS n p s i).2.2
  | 0, _ => by rw [if_pos (by omega)]; rfl
  | k + 1, hk => by
    have ih := turns_mst n p s ins i hn hp hi hx hy hh hx' hy' hh' h3 hpi k (by omega)
    show turnL (turnsL (mst n p s.1 s.2.1 s.2.2) n ins k) n k (ins.getD k 0).toNat = _
    rw [ih]
    by_cases hkp : k = p
    · subst hkp
      rw [if_pos (Nat.le_refl _), if_neg (by omega), hpi]
      exact turn_mst n k s i hn hp hi
    · rw [h3 k (by omega) hkp]
      by_cases hlt : k ≤ p
      · rw [if_pos hlt, if_pos (by omega)]
        exact turn_three (good_mst n p _ _ _ hn hp hx hy hh) (by omega) hn
      · rw [if_neg hlt, if_neg (by omega)]
        exact turn_three (good_mst n p _ _ _ hn hp hx' hy' hh') (by omega) hn
def rin (v i : Nat) : Nat := if rcount v = 16 ∧ 0 < i then 0 else 1 + v % 2
def stS (n p v : Nat) : Nat → Nat × Nat × Nat
  | 0 => (4 * p + 2, 8, 0)
  | i + 1 => stepS n p (stS n p v i) (rin v i)
theorem stS_fine (n p v : Nat) (hn : n ≤ 4) (hp : p < n) : ∀ i, (stS n p v i).1 < 16 ∧ (stS n p v i).2.1 < 16 ∧ (stS n p v i).2.2 < 4
  | 0 => ⟨by show 4 * p + 2 < 16; omega, by show 8 < 16; omega, by show 0 < 4; omega⟩
  | i + 1 => by
    obtain ⟨h1, h2, h3⟩ := stS_fine n p v hn hp i
    show (stepS n p (stS n p v i) (rin v i)).1 < 16 ∧ (stepS n p (stS n p v i) (rin v i)).2.1 < 16 ∧ (stepS n p (stS n p v i) (rin v i)).2.2 < 4
    unfold stepS
    split
    · exact ⟨h1, h2, newHead_lt _ _ h3⟩
    · exact ⟨goX_lt _ _ _ h1, goY_lt _ _ _ h2, newHead_lt _ _ h3⟩
theorem stS_end2 : ∀ (p : Fin 2) (v : Fin 4), stS 2 p v (rcount v) = (4 * p.val + 2, 8, if rcount v = 16 then 1 + 2 * (v.val % 2) else 0) := by decide +kernel
theorem stS_end3 : ∀ (p : Fin 3) (v : Fin 4), stS 3 p v (rcount v) = (4 * p.val + 2, 8, if rcount v = 16 then 1 + 2 * (v.val % 2) else 0) := by decide +kernel
theorem stS_end4 : ∀ (p : Fin 4) (v : Fin 4), stS 4 p v (rcount v) = (4 * p.val + 2, 8, if rcount v = 16 then 1 + 2 * (v.val % 2) else 0) := by decide +kernel
theorem stS_end (n p v : Nat) (h2 : 2 ≤ n) (h4 : n ≤ 4) (hp : p < n) (hv : v < 4) : stS n p v (rcount v) = (4 * p + 2, 8, if rcount v = 16 then 1 + 2 * (v % 2) else 0) := by
  have h : n = 2 ∨ n = 3 ∨ n = 4 := by omega
  rcases h with rfl | rfl | rfl
  · exact stS_end2 ⟨p, hp⟩ ⟨v, hv⟩
  · exact stS_end3 ⟨p, hp⟩ ⟨v, hv⟩
  · exact stS_end4 ⟨p, hp⟩ ⟨v, hv⟩
theorem mst_start (n p : Nat) (hn : n ≤ 4) (hp : p < n) : mst n p (4 * p + 2) 8 0 = startTo n := by
  have hs := start_ship n p hn hp
  have h := put_self (good_start n n hn) hp hn
  have e1 : gx (startTo n) p = 4 * p + 2 := by unfold gx; rw [hs.ex]; rfl
  have e2 : gy (startTo n) p = 8 := by unfold gy; rw [hs.ey]; rfl
  have e3 : gh (startTo n) p = 0 := by unfold gh; rw [hs.eh]; rfl
  have e4 : gs (startTo n) p = 0 := by unfold gs ga gb; rw [hs.ea, hs.eb]; rfl
  rw [e1, e2, e3, e4] at h
  exact h

theorem rfr_len (n p v i : Nat) : (rfr n p v i).length = n := by unfold rfr; split <;> simp
theorem rfs_len (n p v : Nat) : (rfs n p v).length = rcount v := by simp [rfs]
theorem rfs_get (n p v i : Nat) (hi : i < rcount v) : (rfs n p v).getD i [] = rfr n p v i := by simp [rfs, hi]
theorem rcount_le (v : Nat) : rcount v ≤ 16 := by unfold rcount; split <;> omega
theorem rfs_size (n p v i : Nat) (hn : n ≤ 4) : ((rfs n p v).getD i []).length ≤ 100000 := by
  by_cases hi : i < rcount v
  · rw [rfs_get n p v i hi, rfr_len]; omega
  · rw [List.getD_eq_getElem?_getD, List.getElem?_eq_none (by rw [rfs_len]; omega)]; simp
theorem rfr_range (n p v i j : Nat) : 0 ≤ (rfr n p v i).getD j 0 ∧ (rfr n p v i).getD j 0 ≤ 255 := by
  have hrep : ∀ j : Nat, 0 ≤ (List.replicate n (3 : Int)).getD j 0 ∧ (List.replicate n (3 : Int)).getD j 0 ≤ 255 := fun j => by
    rw [List.getD_eq_getElem?_getD, List.getElem?_replicate]; split <;> simp
  have hset : ∀ (l : List Int) (x : Int), (∀ j : Nat, 0 ≤ l.getD j 0 ∧ l.getD j 0 ≤ 255) → 0 ≤ x → x ≤ 255 → ∀ j : Nat, 0 ≤ (l.set p x).getD j 0 ∧ (l.set p x).getD j 0 ≤ 255 := fun l x hl h0 h1 j => by
    by_cases hp : p < l.length
    · rw [getD_set l p j x hp]; split
      · exact ⟨h0, h1⟩
      · exact hl j
    · rw [List.set_eq_of_length_le (by omega)]; exact hl j
  unfold rfr
  split
  · exact hset _ 0 (hset _ _ hrep (by omega) (by omega)) (by omega) (by omega) j
  · exact hset _ _ hrep (by omega) (by omega) j
theorem rfs_range (n p v i j : Nat) : 0 ≤ ((rfs n p v).getD i []).getD j 0 ∧ ((rfs n p v).getD i []).getD j 0 ≤ 255 := by
  by_cases hi : i < rcount v
  · rw [rfs_get n p v i hi]; exact rfr_range n p v i j
  · have e : (rfs n p v).getD i [] = [] := by rw [List.getD_eq_getElem?_getD, List.getElem?_eq_none (by rw [rfs_len]; omega)]; rfl
    rw [e]; simp
theorem rfs_fit (n p v : Nat) : fitB (n : Int) (rfs n p v) = true := by
  unfold fitB
  rw [Bool.and_eq_true]
  refine ⟨decide_eq_true (by rw [rfs_len]; have := rcount_le v; omega), decide_eq_true (fun i hi => ?_)⟩
  rw [rfs_len] at hi
  rw [rfs_get n p v i hi, rfr_len]
theorem rfr_get (n p v i q : Nat) (hp : p < n) (hq : q < n) : (rfr n p v i).getD q 0 = if q = p then (rin v i : Int) else 3 := by
  have hrep : (List.replicate n (3 : Int)).getD q 0 = 3 := by rw [List.getD_eq_getElem?_getD, List.getElem?_replicate, if_pos hq]; rfl
  unfold rfr rin
  by_cases h : rcount v = 16 ∧ 0 < i
  · rw [if_pos h, if_pos h, getD_set _ _ _ _ (by simp; exact hp), getD_set _ _ _ _ (by simp; exact hp), hrep]
    by_cases hqp : q = p
    · subst hqp; simp
    · rw [if_neg (fun e => hqp e.symm), if_neg (fun e => hqp e.symm), if_neg hqp]
  · rw [if_neg h, if_neg h, getD_set _ _ _ _ (by simp; exact hp), hrep]
    by_cases hqp : q = p
    · subst hqp; simp
    · rw [if_neg (fun e => hqp e.symm), if_neg hqp]
theorem play_mst (n p v : Nat) (hn : n ≤ 4) (hp : p < n) : ∀ k, k ≤ rcount v → playTo n (rfs n p v) k = mst n p (stS n p v k).1 (stS n p v k).2.1 (stS n p v k).2.2
  | 0, _ => (mst_start n p hn hp).symm
  | k + 1, hk => by
    have ih := play_mst n p v hn hp k (by omega)
    obtain ⟨a1, a2, a3⟩ := stS_fine n p v hn hp k
    obtain ⟨b1, b2, b3⟩ := stS_fine n p v hn hp (k + 1)
    have hi : rin v k < 3 := by unfold rin; split <;> omega
    show frameL (playTo n (rfs n p v) k) n ((rfs n p v).getD k []) = _
    rw [ih, rfs_get n p v k (by omega)]
    unfold frameL
    rw [turns_mst n p (stS n p v k) (rfr n p v k) (rin v k) hn hp hi a1 a2 a3 b1 b2 b3 (fun q hq hne => by rw [rfr_get n p v k q hp hq, if_neg hne]) (by rw [rfr_get n p v k p hp hp, if_pos rfl]) n (Nat.le_refl _), if_neg (by omega)]
    rfl
theorem play_round (n p v : Nat) (h2 : 2 ≤ n) (hn : n ≤ 4) (hp : p < n) (hv : v < 4) : playL n (rfs n p v) = mst n p (4 * p + 2) 8 (if rcount v = 16 then 1 + 2 * (v % 2) else 0) := by
  unfold playL
  rw [rfs_len, play_mst n p v hn hp _ (Nat.le_refl _), stS_end n p v h2 hn hp hv]
theorem round_cell (n p v i : Nat) (h2 : 2 ≤ n) (hn : n ≤ 4) (hp : p < n) (hv : v < 4) : (playL n (rfs n p v)).getD i 0 = (startTo n).getD i 0 ∨ (i = 258 + 8 * p ∧ rcount v = 16) := by
  rw [play_round n p v h2 hn hp hv]
  by_cases hc : rcount v = 16
  · by_cases hi : i = 258 + 8 * p
    · exact Or.inr ⟨hi, hc⟩
    · refine Or.inl ?_
      rw [← mst_start n p hn hp]
      unfold mst
      rw [putL_get _ p _ _ _ _ i (startTo_len n) (by omega), putL_get _ p _ _ _ _ i (startTo_len n) (by omega), if_neg (show ¬ i = 256 + 8 * p + 2 by omega), if_neg (show ¬ i = 256 + 8 * p + 2 by omega)]
  · refine Or.inl ?_
    rw [if_neg hc, mst_start n p hn hp]
theorem round_head (n p v : Nat) (h2 : 2 ≤ n) (hn : n ≤ 4) (hp : p < n) (hv : v < 4) (hc : rcount v = 16) : (playL n (rfs n p v)).getD (258 + 8 * p) 0 = 1 + 2 * ((v % 2 : Nat) : Int) := by
  rw [play_round n p v h2 hn hp hv, if_pos hc]
  unfold mst
  rw [putL_get _ p _ _ _ _ _ (startTo_len n) (by omega), if_neg (by omega), if_neg (by omega), if_pos (by omega)]
  omega
end Go.Proofs.YtandblanpafjoaaDoor
