import Derived.Test.YtandblanpafjoaaDoorRoundP
namespace Go.Proofs.YtandblanpafjoaaDoor
/-! What Painted says of a game's memory, reckoned. -/
def cnt (m : List Int) (v : Int) : Nat := (m.take 256).count v
structure Fair (m : List Int) (n : Nat) (f : Nat → Nat) : Prop where
  cells : ∀ j : Nat, j < 256 → m.getD j 0 ≤ (n : Int)
  none : ∀ k : Nat, n ≤ k → k < 4 → ∀ i : Nat, i < 8 → m.getD (256 + 8 * k + i) 0 = 0
  won : ∀ k : Nat, k < n → cnt m ((k : Int) + 1) ≤ gs m k
  score : ∀ k : Nat, k < n → gs m k ≤ f k
  apart : ∀ j k : Nat, j < n → k < n → j ≠ k → ¬ (gx m j = gx m k ∧ gy m j = gy m k)

theorem put_gx (m : List Int) (k x y h s o : Nat) (hm : m.length = 288) (hk : k < 4) : gx (putL m k x y h s) o = if o = k then x else gx m o := by
  unfold gx
  rw [putL_get m k x y h s _ hm hk, if_neg (by omega), if_neg (by omega), if_neg (by omega), if_neg (by omega)]
  by_cases h' : o = k
  · rw [if_pos (by omega), if_pos h']; rfl
  · rw [if_neg (by omega), if_neg h']
theorem put_gy (m : List Int) (k x y h s o : Nat) (hm : m.length = 288) (hk : k < 4) : gy (putL m k x y h s) o = if o = k then y else gy m o := by
  unfold gy
  rw [putL_get m k x y h s _ hm hk, if_neg (by omega), if_neg (by omega), if_neg (by omega)]
  by_cases h' : o = k
  · rw [if_pos (by omega), if_pos h']; rfl
  · rw [if_neg (by omega), if_neg (by omega), if_neg h']
theorem put_gs (m : List Int) (k x y h s o : Nat) (hm : m.length = 288) (hk : k < 4) : gs (putL m k x y h s) o = if o = k then s else gs m o := by
  unfold gs ga gb
  rw [putL_get m k x y h s _ hm hk, putL_get m k x y h s _ hm hk]
  by_cases h' : o = k
  · subst h'
    rw [if_neg (by omega), if_pos rfl, if_pos rfl, if_pos rfl]; omega
  · rw [if_neg (by omega), if_neg (by omega), if_neg (by omega), if_neg (by omega), if_neg (by omega), if_neg (by omega), if_neg (by omega), if_neg (by omega), if_neg (by omega), if_neg (by omega), if_neg h']
theorem put_cell (m : List Int) (k x y h s j : Nat) (hm : m.length = 288) (hk : k < 4) (hj : j < 256) : (putL m k x y h s).getD j 0 = m.getD j 0 := by
  rw [putL_get m k x y h s _ hm hk, if_neg (by omega), if_neg (by omega), if_neg (by omega), if_neg (by omega), if_neg (by omega)]
theorem take_eq {a b : List Int} (ha : a.length = 288) (hb : b.length = 288) (h : ∀ j : Nat, j < 256 → a.getD j 0 = b.getD j 0) : a.take 256 = b.take 256 := by
  apply List.ext_getElem (by simp [ha, hb])
  intro j h1 h2
  have hj : j < 256 := by simp at h1; omega
  have := h j hj
  rw [List.getElem_take, List.getElem_take]
  simpa [show j < a.length by omega, show j < b.length by omega] using this
theorem put_cnt (m : List Int) (k x y h s : Nat) (v : Int) (hm : m.length = 288) (hk : k < 4) : cnt (putL m k x y h s) v = cnt m v := by
  unfold cnt
  rw [take_eq (by rw [putL_len]; exact hm) hm (fun j hj => put_cell m k x y h s j hm hk hj)]
theorem set_cnt (m : List Int) (q : Nat) (v u : Int) (hm : m.length = 288) (hq : q < 256) : cnt (m.set q v) u ≤ cnt m u + (if v = u then 1 else 0) := by
  unfold cnt
  rw [List.take_set, List.count_set (by simp [hm]; omega)]
  by_cases h : v = u
  · subst h; simp
  · rw [if_neg h]
    have : (v == u) = false := by rw [beq_eq_false_iff_ne]; exact h
    rw [this]; simp
theorem set_far (m : List Int) (q : Nat) (v : Int) (j : Nat) (hq : q < 256) (hj : 256 ≤ j) : (m.set q v).getD j 0 = m.getD j 0 := getD_set_ne m q j v (by omega)

theorem fair_put {m : List Int} {n : Nat} {f : Nat → Nat} (hf : Fair m n f) (hm : m.length = 288) (k x y h s : Nat) (hk : k < n) (hn : n ≤ 4) (hs : gs m k ≤ s) (hap : ∀ o, o < n → o ≠ k → ¬ (gx m o = x ∧ gy m o = y)) :
    Fair (putL m k x y h s) n (fun o => if o = k then s else f o) where
  cells j hj := by rw [put_cell m k x y h s j hm (by omega) hj]; exact hf.cells j hj
  none o ho ho4 i hi := by
    rw [putL_get m k x y h s _ hm (by omega), if_neg (by omega), if_neg (by omega), if_neg (by omega), if_neg (by omega), if_neg (by omega)]; exact hf.none o ho ho4 i hi
  won o ho := by
    rw [put_cnt m k x y h s _ hm (by omega), put_gs m k x y h s o hm (by omega)]
    have := hf.won o ho
    split
    · next e => subst e; omega
    · exact this
  score o ho := by
    rw [put_gs m k x y h s o hm (by omega)]
    have := hf.score o ho
    show (if o = k then s else gs m o) ≤ if o = k then s else f o
    split
    · exact Nat.le_refl _
    · exact this
  apart a b ha hb hab := by
    rw [put_gx m k x y h s a hm (by omega), put_gx m k x y h s b hm (by omega), put_gy m k x y h s a hm (by omega), put_gy m k x y h s b hm (by omega)]
    by_cases h1 : a = k
    · by_cases h2 : b = k
      · omega
      · rw [if_pos h1, if_pos h1, if_neg h2, if_neg h2]
        rintro ⟨e1, e2⟩
        exact hap b hb h2 ⟨e1.symm, e2.symm⟩
    · by_cases h2 : b = k
      · rw [if_neg h1, if_neg h1, if_pos h2, if_pos h2]
        exact hap a ha h1
      · rw [if_neg h1, if_neg h1, if_neg h2, if_neg h2]
        exact hf.apart a b ha hb hab
theorem fair_settle {m : List Int} {n : Nat} {f : Nat → Nat} (hf : Fair m n f) (hm : m.length = 288) (k x y h i : Nat) (hk : k < n) (hn : n ≤ 4) (hx : x < 16) (hy : y < 16) (hfk : f k < 65535) (hap : ∀ o, o < n → o ≠ k → ¬ (gx m o = x ∧ gy m o = y)) :
    Fair (settleL m k x y h (gs m k) i) n (fun o => if o = k then f k + 1 else f o) := by
  have hsk := hf.score k hk
  have weaken : ∀ m' g, Fair m' n g → (∀ o, o < n → g o ≤ (if o = k then f k + 1 else f o)) → Fair m' n (fun o => if o = k then f k + 1 else f o) := fun m' g hg hle =>
    ⟨hg.cells, hg.none, hg.won, fun o ho => Nat.le_trans (hg.score o ho) (hle o ho), hg.apart⟩
  unfold settleL
  by_cases hc : i / 4 % 2 = 1 ∧ m.getD (16 * y + x) 0 ≠ (k : Int) + 1
  · rw [if_pos hc, Nat.mod_eq_of_lt (by omega)]
    have hq : 16 * y + x < 256 := by omega
    have e1 : ∀ o, gx (m.set (16 * y + x) ((k : Int) + 1)) o = gx m o := fun o => by unfold gx; rw [set_far m _ _ _ hq (by omega)]
    have e2 : ∀ o, gy (m.set (16 * y + x) ((k : Int) + 1)) o = gy m o := fun o => by unfold gy; rw [set_far m _ _ _ hq (by omega)]
    have e3 : ∀ o, gs (m.set (16 * y + x) ((k : Int) + 1)) o = gs m o := fun o => by unfold gs ga gb; rw [set_far m _ _ _ hq (by omega), set_far m _ _ _ hq (by omega)]
    have hm' : (m.set (16 * y + x) ((k : Int) + 1)).length = 288 := by rw [List.length_set]; exact hm
    refine ⟨fun j hj => ?_, fun o ho ho4 q hq' => ?_, fun o ho => ?_, fun o ho => ?_, fun a b ha hb hab => ?_⟩
    · rw [put_cell _ k x y h _ j hm' (by omega) hj, getD_set m _ _ _ (by omega)]
      have := hf.cells j hj
      split <;> omega
    · rw [putL_get _ k x y h _ _ hm' (by omega), if_neg (by omega), if_neg (by omega), if_neg (by omega), if_neg (by omega), if_neg (by omega), set_far m _ _ _ hq (by omega)]; exact hf.none o ho ho4 q hq'
    · rw [put_cnt _ k x y h _ _ hm' (by omega), put_gs _ k x y h _ o hm' (by omega), e3]
      have h1 := hf.won o ho
      have h2 := set_cnt m (16 * y + x) ((k : Int) + 1) ((o : Int) + 1) hm hq
      by_cases ho2 : o = k
      · subst ho2
        rw [if_pos rfl] at h2
        rw [if_pos rfl]; omega
      · rw [if_neg (by omega)] at h2
        rw [if_neg ho2]; omega
    · rw [put_gs _ k x y h _ o hm' (by omega), e3]
      have := hf.score o ho
      show (if o = k then gs m k + 1 else gs m o) ≤ if o = k then f k + 1 else f o
      split
      · omega
      · exact this
    · rw [put_gx _ k x y h _ a hm' (by omega), put_gx _ k x y h _ b hm' (by omega), put_gy _ k x y h _ a hm' (by omega), put_gy _ k x y h _ b hm' (by omega), e1, e1, e2, e2]
      by_cases h1 : a = k
      · by_cases h2 : b = k
        · omega
        · rw [if_pos h1, if_pos h1, if_neg h2, if_neg h2]
          rintro ⟨e1, e2⟩
          exact hap b hb h2 ⟨e1.symm, e2.symm⟩
      · by_cases h2 : b = k
        · rw [if_neg h1, if_neg h1, if_pos h2, if_pos h2]
          exact hap a ha h1
        · rw [if_neg h1, if_neg h1, if_neg h2, if_neg h2]
          exact hf.apart a b ha hb hab
  · rw [if_neg hc]
    refine weaken _ _ (fair_put hf hm k x y h (gs m k) hk hn (Nat.le_refl _) hap) (fun o _ => ?_)
    show (if o = k then gs m k else f o) ≤ _
    split <;> omega
theorem fair_turn {m : List Int} {n : Nat} {f : Nat → Nat} (hg : Good m n) (hf : Fair m n f) (k i : Nat) (hk : k < n) (hn : n ≤ 4) (hfk : f k < 65535) : Fair (turnL m n k i) n (fun o => if o = k then f k + 1 else f o) := by
  have hx := hg.sx k hk
  have hy := hg.sy k hk
  unfold turnL
  cases hb : blocked m n k (goX (gx m k) (gh m k) (i % 4)) (goY (gy m k) (gh m k) (i % 4)) with
  | true =>
    rw [if_pos rfl]
    exact fair_settle hf hg.len k _ _ _ i hk hn hx hy hfk (fun o ho hok => hf.apart o k ho hk hok)
  | false =>
    rw [if_neg (by decide)]
    refine fair_settle hf hg.len k _ _ _ i hk hn (goX_lt _ _ _ hx) (goY_lt _ _ _ hy) hfk (fun o ho hok hh => ?_)
    unfold blocked at hb
    rw [List.any_eq_false] at hb
    exact hb o (List.mem_range.2 ho) (by simp only [Bool.and_eq_true, decide_eq_true_eq]; exact ⟨hok, hh⟩)
theorem fair_turns {m : List Int} {n K : Nat} (hg : Good m n) (hf : Fair m n (fun _ => K)) (ins : List Int) (hn : n ≤ 4) (hK : K < 65535) : ∀ k, k ≤ n → Fair (turnsL m n ins k) n (fun o => if o < k then K + 1 else K)
  | 0, _ => ⟨hf.cells, hf.none, hf.won, fun o ho => by have := hf.score o ho; rw [if_neg (by omega)]; exact this, hf.apart⟩
  | k + 1, hk => by
    have ih := fair_turns hg hf ins hn hK k (by omega)
    have h := fair_turn (good_turns hg ins hn k (by omega)) ih k (ins.getD k 0).toNat (by omega) hn (by rw [if_neg (by omega)]; exact hK)
    refine ⟨h.cells, h.none, h.won, fun o ho => ?_, h.apart⟩
    have hs := h.score o ho
    refine Nat.le_trans hs ?_
    show (if o = k then (if k < k then K + 1 else K) + 1 else if o < k then K + 1 else K) ≤ if o < k + 1 then K + 1 else K
    by_cases h1 : o = k
    · rw [if_pos h1, if_neg (by omega), if_pos (by omega)]; exact Nat.le_refl _
    · rw [if_neg h1]
      by_cases h2 : o < k
      · rw [if_pos h2, if_pos (by omega)]; exact Nat.le_refl _
      · rw [if_neg h2, if_neg (by omega)]; exact Nat.le_refl _
theorem start_cell : ∀ (n j : Nat), n ≤ 4 → (j < 256 ∨ 256 + 8 * n ≤ j) → (startTo n).getD j 0 = 0
  | 0, j, _, _ => by
    show Z288.getD j 0 = 0
    unfold Z288
    rw [List.getD_eq_getElem?_getD, List.getElem?_replicate]
    split <;> rfl
  | n + 1, j, hn, hj => by
    show (putL (startTo n) n (4 * n + 2) 8 0 0).getD j 0 = 0
    rw [putL_get _ n _ _ _ _ j (startTo_len n) (by omega), if_neg (by omega), if_neg (by omega), if_neg (by omega), if_neg (by omega), if_neg (by omega)]
    exact start_cell n j (by omega) (by omega)
theorem fair_start (n : Nat) (hn : n ≤ 4) : Fair (startTo n) n (fun _ => 0) where
  cells j hj := by rw [start_cell n j hn (Or.inl hj)]; omega
  none k hk hk4 i hi := start_cell n _ hn (Or.inr (by omega))
  won k hk := by
    have : cnt (startTo n) ((k : Int) + 1) = 0 := by
      unfold cnt
      rw [List.count_eq_zero]
      intro hmem
      obtain ⟨j, hj, he⟩ := List.getElem_of_mem hmem
      have hl := startTo_len n
      have hj2 : j < 256 := by simp at hj; omega
      rw [List.getElem_take] at he
      have h0 := start_cell n j hn (Or.inl hj2)
      rw [List.getD_eq_getElem?_getD, List.getElem?_eq_getElem (by omega), Option.getD_some, he] at h0
      omega
    omega
  score k hk := by
    have hs := start_ship n k hn hk
    unfold gs ga gb; rw [hs.ea, hs.eb]; exact Nat.le_refl _
  apart j k hj hk hjk := by
    have h1 := start_ship n j hn hj
    have h2 := start_ship n k hn hk
    unfold gx gy; rw [h1.ex, h2.ex]
    rintro ⟨e, _⟩
    have e1 : ((4 * j + 2 : Nat) : Int).toNat = 4 * j + 2 := rfl
    have e2 : ((4 * k + 2 : Nat) : Int).toNat = 4 * k + 2 := rfl
    omega
theorem fair_play (n : Nat) (hn : n ≤ 4) (fs : List (List Int)) : ∀ k, k ≤ 200 → Fair (playTo n fs k) n (fun _ => k)
  | 0, _ => fair_start n hn
  | k + 1, hk => by
    have ih := fair_play n hn fs k (by omega)
    have h := fair_turns (good_play n hn fs k) ih (fs.getD k []) hn (by omega) n (Nat.le_refl _)
    exact ⟨h.cells, h.none, h.won, fun o ho => by have := h.score o ho; rw [if_pos ho] at this; exact this, h.apart⟩

/-! The count of the cells, as it grows. -/
def cellsTo (m : List Int) (i : Nat) : List Int := (List.range 256).map fun (v : Nat) => (((m.take i).count ((v : Nat) : Int) : Nat) : Int)
theorem cellsTo_len (m : List Int) (i : Nat) : (cellsTo m i).length = 256 := by simp [cellsTo]
theorem cellsTo_get (m : List Int) (i v : Nat) (hv : v < 256) : (cellsTo m i).getD v 0 = (((m.take i).count (v : Int) : Nat) : Int) := by simp [cellsTo, hv]
theorem cellsTo_range (m : List Int) (i v : Nat) (hi : i ≤ 256) : 0 ≤ (cellsTo m i).getD v 0 ∧ (cellsTo m i).getD v 0 ≤ 256 := by
  by_cases hv : v < 256
  · rw [cellsTo_get m i v hv]
    have h1 := List.count_le_length (a := (v : Int)) (l := m.take i)
    have h2 : (m.take i).length ≤ i := by simp; omega
    omega
  · rw [List.getD_eq_getElem?_getD, List.getElem?_eq_none (by rw [cellsTo_len]; omega)]; simp
theorem cellsTo_succ (m : List Int) (i v : Nat) (hm : m.length = 288) (hi : i < 256) (hv : v < 256) (he : m.getD i 0 = (v : Int)) : (cellsTo m i).set v ((cellsTo m i).getD v 0 + 1) = cellsTo m (i + 1) := by
  apply list_ext' (by rw [List.length_set, cellsTo_len, cellsTo_len])
  intro j
  have hge : m[i]'(by omega) = (v : Int) := by
    rw [List.getD_eq_getElem?_getD, List.getElem?_eq_getElem (by omega)] at he; exact he
  have hc : ∀ u : Int, (m.take (i + 1)).count u = (m.take i).count u + if (v : Int) = u then 1 else 0 := fun u => by
    rw [List.take_add_one, List.getElem?_eq_getElem (show i < m.length by omega), hge, List.count_append]
    congr 1
    by_cases h : (v : Int) = u
    · rw [if_pos h, h]; simp
    · rw [if_neg h]; simp [h]
  rw [getD_set _ _ _ _ (by rw [cellsTo_len]; exact hv), cellsTo_get m i v hv]
  by_cases hj : j < 256
  · rw [cellsTo_get m (i + 1) j hj, cellsTo_get m i j hj, hc]
    by_cases hvj : v = j
    · subst hvj; rw [if_pos rfl, if_pos rfl]; omega
    · rw [if_neg hvj, if_neg (by omega)]; simp
  · rw [if_neg (by omega), List.getD_eq_getElem?_getD, List.getD_eq_getElem?_getD, List.getElem?_eq_none (by rw [cellsTo_len]; omega), List.getElem?_eq_none (by rw [cellsTo_len]; omega)]
theorem cellsTo_zero (m : List Int) : cellsTo m 0 = List.replicate 256 0 := by
  apply list_ext' (by rw [cellsTo_len, List.length_replicate])
  intro j
  by_cases hj : j < 256
  · rw [cellsTo_get m 0 j hj, List.getD_eq_getElem?_getD, List.getElem?_replicate, if_pos hj]; simp
  · rw [List.getD_eq_getElem?_getD, List.getD_eq_getElem?_getD, List.getElem?_eq_none (by rw [cellsTo_len]; omega), List.getElem?_eq_none (by rw [List.length_replicate]; omega)]
theorem cellsTo_all (m : List Int) (v : Nat) (hv : v < 256) : (cellsTo m 256).getD v 0 = (cnt m (v : Int) : Int) := cellsTo_get m 256 v hv
end Go.Proofs.YtandblanpafjoaaDoor
