import Derived.Test.YtandblanpafjoaaGreatDoorPack05
import Derived.Test.YtandblanpafjoaaGreatDoorPack01
import Derived.Test.YtandblanpafjoaaGreatDoorPack02
namespace Go.Proofs.YtandblanpafjoaaGreatDoor
open Go.RowKit
structure Nums (n : NetM) : Prop where
  lt : ∀ f ∈ n.flights, f.num < n.sent
  row : n.flights.Pairwise fun a b => a.num < b.num
theorem Nums.new (players window delay : Nat) (lags : List Int) : Nums (newM players window delay lags) := ⟨fun f hf => by simp [newM] at hf, by simp [newM]⟩
theorem Nums.send {n : NetM} (h : Nums n) (p q : Nat) : Nums (n.send p q) := by
  by_cases hl : 0 ≤ n.lag
  · have e : (n.send p q).flights = n.flights ++ [{ to := q, due := n.now + n.lag.toNat, num := n.sent, bytes := packM (n.peers p) p q }] := by simp [NetM.send, hl]
    refine ⟨fun f hf => ?_, ?_⟩
    · rw [e] at hf
      show f.num < n.sent + 1
      rcases List.mem_append.1 hf with hf | hf
      · have := h.lt f hf; omega
      · obtain rfl := List.mem_singleton.1 hf
        show n.sent < n.sent + 1
        omega
    · rw [e, List.pairwise_append]
      refine ⟨h.row, List.pairwise_singleton _ _, fun a ha b hb => ?_⟩
      obtain rfl := List.mem_singleton.1 hb
      exact h.lt a ha
  · have e : (n.send p q).flights = n.flights := by simp [NetM.send, hl]
    exact ⟨fun f hf => by rw [e] at hf; have := h.lt f hf; show f.num < n.sent + 1; omega, by rw [e]; exact h.row⟩
theorem Nums.sendTo {n : NetM} (h : Nums n) (p : Nat) : ∀ k, Nums (sendTo n p k)
  | 0 => h
  | k + 1 => by
    unfold Go.Proofs.YtandblanpafjoaaGreatDoor.sendTo
    split
    · exact h.sendTo p k
    · exact (h.sendTo p k).send p k
theorem Nums.stepped {n : NetM} (h : Nums n) (p : Nat) (v : Int) : Nums (n.stepped p v) := ⟨h.lt, h.row⟩
theorem Nums.advance {n : NetM} (h : Nums n) (p : Nat) (v : Int) : Nums (n.advance p v).2 := by
  unfold NetM.advance
  split
  · exact h
  · split
    · exact h
    · exact (h.stepped p v).sendTo p _
theorem take_sent (n : NetM) (p : Nat) (b : List Int) : (n.take p b).2.sent = n.sent := by
  unfold NetM.take
  split <;> rfl
theorem Nums.take {n : NetM} (h : Nums n) (p : Nat) (b : List Int) : Nums (n.take p b).2 :=
  ⟨fun f hf => by rw [take_flights] at hf; rw [take_sent]; exact h.lt f hf, by rw [take_flights]; exact h.row⟩
theorem Nums.fewer {n : NetM} (h : Nums n) {l : List FlyM} (hl : l.Sublist n.flights) : Nums { n with flights := l } :=
  ⟨fun f hf => h.lt f (hl.subset hf), h.row.sublist hl⟩
theorem Nums.come : ∀ k (n : NetM), Nums n → Nums (comeM k n)
  | 0, _, h => h
  | k + 1, n, h => by
    unfold comeM
    split
    · exact h
    · split
      · exact h
      · exact Nums.come k _ ((h.fewer (List.eraseIdx_sublist _ _)).take _ _)
theorem Nums.againTo {n : NetM} (h : Nums n) (p : Nat) : ∀ k, Nums (againTo n p k)
  | 0 => h
  | k + 1 => by
    unfold Go.Proofs.YtandblanpafjoaaGreatDoor.againTo
    split
    · exact (h.againTo p k).send p k
    · exact h.againTo p k
theorem Nums.againAll {n : NetM} (h : Nums n) : ∀ k, Nums (againAll n k)
  | 0 => h
  | k + 1 => by
    unfold Go.Proofs.YtandblanpafjoaaGreatDoor.againAll
    exact (h.againAll k).againTo k _
theorem Nums.tick {n : NetM} (h : Nums n) : Nums n.tick := by
  unfold NetM.tick
  exact (Nums.come _ _ (⟨h.lt, h.row⟩ : Nums { n with now := n.now + 1 })).againAll _
theorem firstTo_best (l : List FlyM) : ∀ k i, i < k → ¬ before (l.getD i fly0) (l.getD (firstTo l fly0 k) fly0)
  | k + 1, i, hi => by
    unfold firstTo
    split
    · rename_i hb
      by_cases e : i = k
      · subst e; unfold before; omega
      · have := firstTo_best l k i (by omega)
        unfold before at *
        omega
    · rename_i hb
      by_cases e : i = k
      · subst e; exact hb
      · exact firstTo_best l k i (by omega)
theorem firstM_best (l : List FlyM) (f : FlyM) (hf : f ∈ l) : ¬ before f (l.getD (firstM l) fly0) := by
  obtain ⟨i, hi, e⟩ := List.getElem_of_mem hf
  have := firstTo_best l l.length i hi
  have e2 : l.getD i fly0 = f := by rw [List.getD_eq_getElem?_getD, List.getElem?_eq_getElem hi, Option.getD_some, e]
  rw [e2] at this
  exact this
/-- Whatever comes ahead of all others is the first. -/
theorem first_is (l : List FlyM) (f : FlyM) (hf : f ∈ l) (h : ∀ g ∈ l, g = f ∨ before f g) : l.getD (firstM l) fly0 = f := by
  have hm := getD_mem l _ (firstM_lt l (List.ne_nil_of_mem hf))
  rcases h _ hm with e | e
  · exact e
  · exact absurd e (firstM_best l f hf)
theorem before_total {l : List FlyM} (h : l.Pairwise fun a b => a.num < b.num) {f g : FlyM} (hf : f ∈ l) (hg : g ∈ l) : f = g ∨ before f g ∨ before g f := by
  by_cases e : f.num = g.num
  · left
    obtain ⟨i, hi, ei⟩ := List.getElem_of_mem hf
    obtain ⟨j, hj, ej⟩ := List.getElem_of_mem hg
    have hp := List.pairwise_iff_getElem.1 h
    rcases Nat.lt_trichotomy i j with hlt | heq | hgt
    · have := hp i j hi hj hlt; rw [ei, ej] at this; omega
    · subst heq; rw [← ei, ← ej]
    · have := hp j i hj hi hgt; rw [ei, ej] at this; omega
  · right
    unfold before
    omega
theorem first_all {l : List FlyM} (h : l.Pairwise fun a b => a.num < b.num) (hne : l ≠ []) : ∀ g ∈ l, g = l.getD (firstM l) fly0 ∨ before (l.getD (firstM l) fly0) g := by
  intro g hg
  rcases before_total h hg (getD_mem _ _ (firstM_lt _ hne)) with e | e | e
  · exact .inl e
  · exact absurd e (firstM_best _ g hg)
  · exact .inr e
/-- The packets under way, as they will come. -/
def outTo : Nat → List FlyM → List FlyM
  | 0, _ => []
  | k + 1, l => if l = [] then [] else l.getD (firstM l) fly0 :: outTo k (l.eraseIdx (firstM l))
def outM (l : List FlyM) : List FlyM := outTo l.length l
theorem erase_perm : ∀ (l : List FlyM) (i : Nat), i < l.length → (l.getD i fly0 :: l.eraseIdx i).Perm l
  | x :: l, 0, _ => by simp
  | x :: l, i + 1, h => by
    have ih := erase_perm l i (by simpa using h)
    rw [List.getD_cons_succ, List.eraseIdx_cons_succ]
    exact (List.Perm.swap _ _ _).trans (ih.cons x)
theorem outTo_perm : ∀ k (l : List FlyM), l.length ≤ k → (outTo k l).Perm l
  | 0, l, h => by
    have : l = [] := List.eq_nil_of_length_eq_zero (by omega)
    subst this; exact List.Perm.refl _
  | k + 1, l, h => by
    unfold outTo
    by_cases e : l = []
    · rw [if_pos e, e]
    · rw [if_neg e]
      have hlt := firstM_lt l e
      exact ((outTo_perm k _ (by rw [List.length_eraseIdx_of_lt hlt]; omega)).cons _).trans (erase_perm l _ hlt)
theorem outM_perm (l : List FlyM) : (outM l).Perm l := outTo_perm _ _ (Nat.le_refl _)
theorem outTo_sorted : ∀ k (l : List FlyM), l.length ≤ k → (l.Pairwise fun a b => a.num < b.num) → (outTo k l).Pairwise before
  | 0, _, _, _ => List.Pairwise.nil
  | k + 1, l, h, hr => by
    unfold outTo
    by_cases e : l = []
    · rw [if_pos e]; exact List.Pairwise.nil
    · rw [if_neg e]
      have hlt := firstM_lt l e
      have hlen : (l.eraseIdx (firstM l)).length ≤ k := by rw [List.length_eraseIdx_of_lt hlt]; omega
      refine List.Pairwise.cons (fun g hg => ?_) (outTo_sorted k _ hlen (hr.sublist (List.eraseIdx_sublist _ _)))
      have hg' : g ∈ l.eraseIdx (firstM l) := (outTo_perm k _ hlen).subset hg
      have hgl : g ∈ l := List.mem_of_mem_eraseIdx hg'
      rcases first_all hr e g hgl with e2 | e2
      · exfalso
        obtain ⟨j, hj, ej⟩ := List.mem_eraseIdx_iff_getElem?.1 hg'
        have hjl : j < l.length := by
          rcases Nat.lt_or_ge j l.length with h | h
          · exact h
          · rw [List.getElem?_eq_none h] at ej; cases ej
        have eg : l[j] = g := by rw [List.getElem?_eq_getElem hjl] at ej; exact Option.some.inj ej
        have ef : l[firstM l] = g := by
          have e3 : g = l.getD (firstM l) fly0 := e2
          rw [List.getD_eq_getElem?_getD, List.getElem?_eq_getElem hlt] at e3
          exact e3.symm
        have hp := List.pairwise_iff_getElem.1 hr
        rcases Nat.lt_trichotomy j (firstM l) with h1 | h1 | h1
        · have := hp j _ hjl hlt h1; rw [eg, ef] at this; omega
        · exact hj h1
        · have := hp _ j hlt hjl h1; rw [eg, ef] at this; omega
      · exact e2
theorem outM_sorted {n : NetM} (h : Nums n) : (outM n.flights).Pairwise before := outTo_sorted _ _ (Nat.le_refl _) h.row
/-- There is one order alone. -/
theorem sorted_unique : ∀ (a b : List FlyM), a.Pairwise before → b.Pairwise before → a.Perm b → a = b
  | [], b, _, _, h => (List.Perm.nil_eq h).symm ▸ rfl
  | x :: a, b, ha, hb, h => by
    cases b with
    | nil => exact absurd h.symm (by intro h'; have := h'.length_eq; simp at this)
    | cons y b =>
      have ha' := List.pairwise_cons.1 ha
      have hb' := List.pairwise_cons.1 hb
      have exy : x = y := by
        have hx : x ∈ y :: b := h.subset List.mem_cons_self
        have hy : y ∈ x :: a := h.symm.subset List.mem_cons_self
        rcases List.mem_cons.1 hx with e | e
        · exact e
        · rcases List.mem_cons.1 hy with e2 | e2
          · exact e2.symm
          · have h1 := ha'.1 y e2
            have h2 := hb'.1 x e
            unfold before at h1 h2
            omega
      subst exy
      rw [sorted_unique a b ha'.2 hb'.2 (List.Perm.cons_inv h)]
end Go.Proofs.YtandblanpafjoaaGreatDoor

namespace Go.Proofs.YtandblanpafjoaaGreatDoor
open Go.RowKit
def fl (l : List FlyM) (i : Nat) : FlyM := l.getD i fly0
def swapL (l : List FlyM) (i j : Nat) : List FlyM := (l.set i (fl l j)).set j (fl l i)
theorem swapL_len (l : List FlyM) (i j : Nat) : (swapL l i j).length = l.length := by simp [swapL]
theorem swapL_get (l : List FlyM) (i j k : Nat) (hi : i < l.length) (hj : j < l.length) : fl (swapL l i j) k = if k = j then fl l i else if k = i then fl l j else fl l k := by
  unfold swapL fl
  simp only [List.getD_eq_getElem?_getD, List.getElem?_set, List.length_set]
  by_cases h1 : j = k
  · subst h1; simp [hj]
  · by_cases h2 : i = k
    · subst h2; simp [h1, hi, Ne.symm h1]
    · simp [h1, h2, Ne.symm h1, Ne.symm h2]
theorem swapL_perm (l : List FlyM) (i j : Nat) (hi : i < l.length) (hj : j < l.length) : (swapL l i j).Perm l := by
  have e1 : fl l j = l[j] := by simp [fl, hj]
  have e2 : fl l i = l[i] := by simp [fl, hi]
  unfold swapL; rw [e1, e2]
  exact List.set_set_perm hi hj
theorem nb_trans {a b c : FlyM} (h : ¬ before b a) (k : ¬ before c b) : ¬ before c a := by
  unfold before at *; omega
theorem before_nb {a b : FlyM} (h : before a b) : ¬ before b a := by
  unfold before at *; omega
def HeapO (l : List FlyM) (n : Nat) : Prop := ∀ k, 0 < k → k < n → ¬ before (fl l k) (fl l ((k - 1) / 2))
def upL : Nat → List FlyM → Nat → List FlyM
  | 0, l, _ => l
  | t + 1, l, j => if j = 0 then l else if before (fl l j) (fl l ((j - 1) / 2)) then upL t (swapL l ((j - 1) / 2) j) ((j - 1) / 2) else l
theorem upL_len : ∀ t l j, (upL t l j).length = l.length
  | 0, l, _ => rfl
  | t + 1, l, j => by
    unfold upL; split
    · rfl
    · split
      · rw [upL_len t, swapL_len]
      · rfl
theorem upL_perm : ∀ t l j, j < l.length → (upL t l j).Perm l
  | 0, l, _, _ => .refl _
  | t + 1, l, j, hj => by
    unfold upL; split
    · exact .refl _
    · split
      · exact (upL_perm t _ _ (by rw [swapL_len]; omega)).trans (swapL_perm l _ _ (by omega) hj)
      · exact .refl _
/-- All is right but at j, whose children stand behind its parent. -/
def UpO (l : List FlyM) (n j : Nat) : Prop := (∀ k, 0 < k → k < n → k ≠ j → ¬ before (fl l k) (fl l ((k - 1) / 2))) ∧ (0 < j → ∀ k, 0 < k → k < n → (k - 1) / 2 = j → ¬ before (fl l k) (fl l ((j - 1) / 2)))
theorem upL_heap : ∀ t l j, j < l.length → j ≤ t → UpO l l.length j → HeapO (upL t l j) l.length
  | 0, l, j, hj, ht, h => by
    have : j = 0 := by omega
    subst this
    exact fun k h0 hk => h.1 k h0 hk (by omega)
  | t + 1, l, j, hj, ht, h => by
    unfold upL; split
    · rename_i h0; subst h0
      exact fun k h0 hk => h.1 k h0 hk (by omega)
    · rename_i h0
      split
      · rename_i hb
        have := upL_heap t (swapL l ((j - 1) / 2) j) ((j - 1) / 2) (by rw [swapL_len]; omega) (by omega) ?_
        · rwa [swapL_len] at this
        rw [swapL_len]
        have hi : (j - 1) / 2 < l.length := by omega
        have hij : (j - 1) / 2 ≠ j := by omega
        constructor
        · intro k k0 kn kne
          rw [swapL_get l _ _ _ hi hj, swapL_get l _ _ _ hi hj]
          by_cases k1 : k = j
          · subst k1
            rw [if_pos rfl, if_neg hij, if_pos rfl]
            exact before_nb hb
          · rw [if_neg k1, if_neg kne]
            by_cases p1 : (k - 1) / 2 = j
            · rw [if_pos p1]
              exact h.2 (by omega) k k0 kn p1
            · rw [if_neg p1]
              by_cases p2 : (k - 1) / 2 = (j - 1) / 2
              · rw [if_pos p2]
                have := h.1 k k0 kn k1
                rw [p2] at this
                exact nb_trans (before_nb hb) this
              · rw [if_neg p2]
                exact h.1 k k0 kn k1
        · intro i0 k k0 kn kp
          rw [swapL_get l _ _ _ hi hj, swapL_get l _ _ _ hi hj]
          have g1 : ((j - 1) / 2 - 1) / 2 ≠ j := by omega
          have g2 : ((j - 1) / 2 - 1) / 2 ≠ (j - 1) / 2 := by omega
          rw [if_neg g1, if_neg g2]
          have hp := h.1 ((j - 1) / 2) i0 hi (by omega)
          by_cases k1 : k = j
          · rw [if_pos k1]; exact hp
          · rw [if_neg k1, if_neg (by omega)]
            have := h.1 k k0 kn k1
            rw [kp] at this
            exact nb_trans hp this
      · rename_i hb
        intro k k0 kn
        by_cases k1 : k = j
        · subst k1; exact hb
        · exact h.1 k k0 kn k1
/-- The lesser child of i. -/
def kidL (l : List FlyM) (i n : Nat) : Nat := if 2 * i + 2 < n ∧ before (fl l (2 * i + 2)) (fl l (2 * i + 1)) then 2 * i + 2 else 2 * i + 1
theorem kidL_is (l : List FlyM) (i n : Nat) : kidL l i n = 2 * i + 1 ∨ (kidL l i n = 2 * i + 2 ∧ 2 * i + 2 < n) := by
  unfold kidL; split <;> omega
def downL : Nat → List FlyM → Nat → Nat → List FlyM
  | 0, l, _, _ => l
  | t + 1, l, i, n => if n ≤ 2 * i + 1 then l else if before (fl l (kidL l i n)) (fl l i) then downL t (swapL l i (kidL l i n)) (kidL l i n) n else l
theorem downL_len : ∀ t l i n, (downL t l i n).length = l.length
  | 0, l, _, _ => rfl
  | t + 1, l, i, n => by
    unfold downL; split
    · rfl
    · split
      · rw [downL_len t, swapL_len]
      · rfl
theorem downL_perm : ∀ t l i n, n ≤ l.length → (downL t l i n).Perm l
  | 0, l, _, _, _ => .refl _
  | t + 1, l, i, n, hn => by
    unfold downL; split
    · exact .refl _
    · have := kidL_is l i n
      split
      · exact (downL_perm t _ _ _ (by rw [swapL_len]; omega)).trans (swapL_perm l _ _ (by omega) (by omega))
      · exact .refl _
theorem downL_rest : ∀ t l i n k, n ≤ l.length → n ≤ k → fl (downL t l i n) k = fl l k
  | 0, l, _, _, _, _, _ => rfl
  | t + 1, l, i, n, k, hn, hk => by
    unfold downL; split
    · rfl
    · have := kidL_is l i n
      split
      · rw [downL_rest t _ _ _ _ (by rw [swapL_len]; omega) hk, swapL_get l _ _ _ (by omega) (by omega), if_neg (by omega), if_neg (by omega)]
      · rfl
/-- All is right but below i, whose parent stands ahead of its children. -/
def DownO (l : List FlyM) (n i : Nat) : Prop := (∀ k, 0 < k → k < n → (k - 1) / 2 ≠ i → ¬ before (fl l k) (fl l ((k - 1) / 2))) ∧ (0 < i → ∀ k, 0 < k → k < n → (k - 1) / 2 = i → ¬ before (fl l k) (fl l ((i - 1) / 2)))
theorem kidL_least (l : List FlyM) (i n k : Nat) (k0 : 0 < k) (kn : k < n) (kp : (k - 1) / 2 = i) : ¬ before (fl l k) (fl l (kidL l i n)) := by
  have : k = 2 * i + 1 ∨ k = 2 * i + 2 := by omega
  unfold kidL
  split
  · rename_i h
    rcases this with rfl | rfl
    · exact before_nb h.2
    · unfold before; omega
  · rename_i h
    rcases this with rfl | rfl
    · unfold before; omega
    · exact fun hb => h ⟨kn, hb⟩
theorem downL_heap : ∀ t l i n, n ≤ l.length → n ≤ i + t → DownO l n i → HeapO (downL t l i n) n
  | 0, l, i, n, hn, ht, h => fun k k0 kn => h.1 k k0 kn (by omega)
  | t + 1, l, i, n, hn, ht, h => by
    unfold downL; split
    · exact fun k k0 kn => h.1 k k0 kn (by omega)
    · rename_i hlt
      have hkid := kidL_is l i n
      have hleast := kidL_least l i n
      generalize kidL l i n = j at hkid hleast ⊢
      split
      · rename_i hb
        refine downL_heap t (swapL l i j) j n (by rw [swapL_len]; omega) (by omega) ?_
        have hi : i < l.length := by omega
        have hj : j < l.length := by omega
        constructor
        · intro k k0 kn kp
          rw [swapL_get l _ _ _ hi hj, swapL_get l _ _ _ hi hj, if_neg kp]
          by_cases k1 : k = j
          · subst k1
            rw [if_pos rfl, if_pos (by omega)]
            exact before_nb hb
          · rw [if_neg k1]
            by_cases k2 : k = i
            · subst k2
              rw [if_pos rfl, if_neg (by omega)]
              exact h.2 k0 j (by omega) (by omega) (by omega)
            · rw [if_neg k2]
              by_cases p2 : (k - 1) / 2 = i
              · rw [if_pos p2]; exact hleast k k0 kn p2
              · rw [if_neg p2]; exact h.1 k k0 kn p2
        · intro _ k k0 kn kp
          rw [swapL_get l _ _ _ hi hj, swapL_get l _ _ _ hi hj, if_neg (by omega), if_neg (by omega), if_neg (by omega), if_pos (by omega)]
          have := h.1 k k0 kn (by omega)
          rwa [kp] at this
      · rename_i hb
        intro k k0 kn
        by_cases p1 : (k - 1) / 2 = i
        · rw [p1]
          exact nb_trans hb (hleast k k0 kn p1)
        · exact h.1 k k0 kn p1
theorem heap_top {l : List FlyM} (h : HeapO l l.length) : ∀ k, k < l.length → ¬ before (fl l k) (fl l 0)
  | 0, _ => by unfold before; omega
  | k + 1, hk => nb_trans (heap_top h (k / 2) (by omega)) (by
      have := h (k + 1) (by omega) hk
      simpa using this)
theorem heap_first {l : List FlyM} (h : HeapO l l.length) (f : FlyM) (hf : f ∈ l) : ¬ before f (fl l 0) := by
  obtain ⟨i, hi, rfl⟩ := List.getElem_of_mem hf
  have := heap_top h i hi
  simpa [fl, hi] using this
/-- A new one at the end, and up. -/
def pushL (l : List FlyM) (f : FlyM) : List FlyM := upL (l.length + 1) (l ++ [f]) l.length
theorem pushL_perm (l : List FlyM) (f : FlyM) : (pushL l f).Perm (l ++ [f]) := upL_perm _ _ _ (by simp)
theorem pushL_heap {l : List FlyM} (f : FlyM) (h : HeapO l l.length) : HeapO (pushL l f) (pushL l f).length := by
  unfold pushL
  rw [upL_len]
  refine upL_heap _ _ _ (by simp) (by omega) ⟨?_, ?_⟩
  · intro k k0 kn kne
    simp only [List.length_append, List.length_singleton] at kn
    have e : ∀ i, i < l.length → fl (l ++ [f]) i = fl l i := fun i hi => by simp [fl, List.getElem?_append, hi]
    rw [e k (by omega), e _ (by omega)]
    exact h k k0 (by omega)
  · intro _ k k0 kn kp
    simp only [List.length_append, List.length_singleton] at kn
    omega
/-- The first away: the last in its place, and down. -/
def popL (l : List FlyM) : List FlyM := (downL l.length (swapL l 0 (l.length - 1)) 0 (l.length - 1)).take (l.length - 1)
theorem popL_perm (l : List FlyM) (hl : 0 < l.length) : (fl l 0 :: popL l).Perm l := by
  have h1 := downL_perm l.length (swapL l 0 (l.length - 1)) 0 (l.length - 1) (by rw [swapL_len]; omega)
  have h2 := swapL_perm l 0 (l.length - 1) hl (by omega)
  have hr := downL_rest l.length (swapL l 0 (l.length - 1)) 0 (l.length - 1) (l.length - 1) (by rw [swapL_len]; omega) (Nat.le_refl _)
  have hlen := downL_len l.length (swapL l 0 (l.length - 1)) 0 (l.length - 1)
  rw [swapL_len] at hlen
  rw [swapL_get l _ _ _ hl (by omega), if_pos rfl] at hr
  unfold popL
  generalize downL l.length (swapL l 0 (l.length - 1)) 0 (l.length - 1) = d at h1 hr hlen ⊢
  refine .trans ?_ (h1.trans h2)
  have hd : d = d.take (l.length - 1) ++ [fl l 0] := by
    conv => lhs; rw [← List.take_append_drop (l.length - 1) d]
    congr 1
    rw [← hr]
    have hx : l.length - 1 < d.length := by omega
    rw [List.drop_eq_getElem_cons hx, List.drop_eq_nil_of_le (by omega)]
    simp [fl, hx]
  conv => rhs; rw [hd]
  exact (List.perm_append_comm (l₁ := [fl l 0]) (l₂ := d.take (l.length - 1)))
theorem popL_heap {l : List FlyM} (hl : 0 < l.length) (h : HeapO l l.length) : HeapO (popL l) (popL l).length := by
  have h1 := downL_heap l.length (swapL l 0 (l.length - 1)) 0 (l.length - 1) (by rw [swapL_len]; omega) (by omega) ⟨?_, by omega⟩
  · have hlen := downL_len l.length (swapL l 0 (l.length - 1)) 0 (l.length - 1)
    rw [swapL_len] at hlen
    have e : (popL l).length = l.length - 1 := by unfold popL; rw [List.length_take, hlen]; omega
    rw [e]
    intro k k0 kn
    have g : ∀ i, i < l.length - 1 → fl (popL l) i = fl (downL l.length (swapL l 0 (l.length - 1)) 0 (l.length - 1)) i := fun i hi => by
      unfold popL fl
      simp only [List.getD_eq_getElem?_getD, List.getElem?_take, if_pos hi]
    rw [g k kn, g _ (by omega)]
    exact h1 k k0 kn
  · intro k k0 kn kp
    rw [swapL_get l _ _ _ hl (by omega), swapL_get l _ _ _ hl (by omega), if_neg (by omega), if_neg (by omega), if_neg (by omega), if_neg kp]
    exact h k k0 (by omega)
end Go.Proofs.YtandblanpafjoaaGreatDoor

namespace Go.Proofs.YtandblanpafjoaaGreatDoor
open Go.RowKit Go.Extern.Stop Go.Stop Go.Extern
def cmpI (a b : Int) : Int := if a < b then -1 else if b < a then 1 else 0
def orI (a b : Int) : Int := if a = 0 then b else a
def ordI (d1 t1 d2 t2 : Int) : Int := orI (cmpI d1 d2) (cmpI t1 t2)
theorem ordI_lt (d1 t1 d2 t2 : Nat) : decide (ordI d1 t1 d2 t2 < 0) = decide (d1 < d2 ∨ (d1 = d2 ∧ t1 < t2)) := by
  apply decide_eq_decide.2
  rcases Nat.lt_trichotomy d1 d2 with h | h | h
  · have e : cmpI d1 d2 = -1 := by unfold cmpI; rw [if_pos (by omega)]
    unfold ordI orI; rw [e]; simp; omega
  · subst h
    have e : cmpI d1 d1 = 0 := by unfold cmpI; rw [if_neg (by omega), if_neg (by omega)]
    unfold ordI orI; rw [e, if_pos rfl]
    rcases Nat.lt_trichotomy t1 t2 with k | k | k
    · have e : cmpI t1 t2 = -1 := by unfold cmpI; rw [if_pos (by omega)]
      rw [e]; simp; omega
    · subst k
      have e : cmpI t1 t1 = 0 := by unfold cmpI; rw [if_neg (by omega), if_neg (by omega)]
      rw [e]; simp
    · have e : cmpI t1 t2 = 1 := by unfold cmpI; rw [if_neg (by omega), if_pos (by omega)]
      rw [e]; simp; omega
  · have e : cmpI d1 d2 = 1 := by unfold cmpI; rw [if_neg (by omega), if_pos (by omega)]
    unfold ordI orI; rw [e]; simp; omega
set_option maxHeartbeats 400000 in
theorem nan_any (a : Int) (w : World) : Calls Tryz.prog 136 #[.int .i64 a] w fun e w' => e = .returned (.bool false) ∧ w' = w := by
  have h : (a != a) = false := by simp
  go_enter Tryz.func136, Tryz.ntmps136
  go_wp2
  go_ret
  exact ⟨rfl, rfl⟩
set_option maxHeartbeats 400000 in
theorem cmp_any (a b : Int) (w : World) : Calls Tryz.prog 123 #[.int .i64 a, .int .i64 b] w fun e w' => e = .returned (.int .i64 (cmpI a b)) ∧ w' = w := by
  have hc : cmpI a b = if a < b then -1 else if b < a then 1 else 0 := rfl
  generalize cmpI a b = c at *
  go_enter Tryz.func123, Tryz.ntmps123
  go_wp2_with fail
  refine (nan_any a w).mono ?_
  rintro e w1 ⟨rfl, rfl⟩
  go_wp2_with fail
  refine (nan_any b w1).mono ?_
  rintro e w2 ⟨rfl, rfl⟩
  by_cases h1 : a < b
  · have d1 : decide (a < b) = true := by simp [h1]
    rw [if_pos h1] at hc
    clear h1
    subst hc
    go_wp2
    go_ret
    exact ⟨rfl, rfl⟩
  · have d1 : decide (a < b) = false := by simp [h1]
    rw [if_neg h1] at hc
    by_cases h2 : b < a
    · have d2 : decide (b < a) = true := by simp [h2]
      rw [if_pos h2] at hc
      clear h1 h2
      subst hc
      go_wp2
      go_ret
      exact ⟨rfl, rfl⟩
    · have d2 : decide (b < a) = false := by simp [h2]
      rw [if_neg h2] at hc
      clear h1 h2
      subst hc
      go_wp2
      go_ret
      exact ⟨rfl, rfl⟩
set_option maxHeartbeats 400000 in
theorem or_any (g : Nat) (a b : Int) (w : World) (h0 : w.cell? ⟨g, 0, none⟩ = some (.int .i64 a)) (h1 : w.cell? ⟨g, 1, none⟩ = some (.int .i64 b)) :
    Calls Tryz.prog 122 #[.slice (some ⟨g, 0, none⟩) 2 2] w fun e w' => e = .returned (.int .i64 (orI a b)) ∧ w' = w := by
  obtain ⟨r, hr⟩ : ∃ r, orI a b = r := ⟨_, rfl⟩
  rw [hr]
  have HR := hide hr
  clear hr
  go_enter Tryz.func122, Tryz.ntmps122
  go_wp2_with fail
  go_loopw [8] (fun i wr => wr = w ∧ (i = .int .i64 0 ∨ (i = .int .i64 1 ∧ a = 0) ∨ (i = .int .i64 2 ∧ a = 0 ∧ b = 0))) (fun i _ => 2 - (intOf i).toNat)
  case atStart => exact ⟨rfl, .inl rfl⟩
  case round =>
    obtain ⟨rfl, rfl | ⟨rfl, ha⟩ | ⟨rfl, ha, hb⟩⟩ := hrel
    · by_cases ha : a = 0
      · have hd : (a != 0) = false := by simp [ha]
        have HA := hide ha
        clear ha
        go_wp2
        exact ⟨⟨by trivial, .inr (.inl ⟨by go_num, unhide HA⟩)⟩, by simp [intOf]⟩
      · have hd : (a != 0) = true := by simp [ha]
        have HA := hide ha
        clear ha
        go_wp2
        go_ret
        exact ⟨by rw [← unhide HR, orI, if_neg (unhide HA)]; rfl, rfl⟩
    · have HA := hide ha
      clear ha
      by_cases hb : b = 0
      · have hd : (b != 0) = false := by simp [hb]
        have HB := hide hb
        clear hb
        go_wp2
        exact ⟨⟨by trivial, .inr (.inr ⟨by go_num, unhide HA, unhide HB⟩)⟩, by simp [intOf]⟩
      · have hd : (b != 0) = true := by simp [hb]
        have HB := hide hb
        clear hb
        go_wp2
        go_ret
        exact ⟨by rw [← unhide HR, orI, if_pos (unhide HA)]; rfl, rfl⟩
    · have HA := hide ha
      have HB := hide hb
      clear ha hb
      go_wp2
      go_ret
      exact ⟨by rw [← unhide HR, orI, if_pos (unhide HA), unhide HB]; rfl, rfl⟩
set_option maxRecDepth 10000 in
set_option maxHeartbeats 800000 in
theorem order_any (to1 d1 n1 to2 d2 n2 : Int) (v1 v2 : Value) (w : World) :
    Calls Tryz.prog 101 #[.agg #[.int .i64 to1, .int .i64 d1, v1, .int .i64 n1], .agg #[.int .i64 to2, .int .i64 d2, v2, .int .i64 n2]] w fun e w' => e = .returned (.int .i64 (ordI d1 n1 d2 n2)) ∧ Below w.heap.size w w' := by
  have bB : Below w.heap.size w ((w.alloc (.cells #[.int .i64 to1, .int .i64 d1, v1, .int .i64 n1] 126)).alloc (.cells #[.int .i64 to2, .int .i64 d2, v2, .int .i64 n2] 126)) := ((Below.refl _ w).alloc (Nat.le_refl _) _).alloc (by simp) _
  have x1 : Blk ((w.alloc (.cells #[.int .i64 to1, .int .i64 d1, v1, .int .i64 n1] 126)).alloc (.cells #[.int .i64 to2, .int .i64 d2, v2, .int .i64 n2] 126)) w.heap.size #[.int .i64 to1, .int .i64 d1, v1, .int .i64 n1] 126 := (Blk.new w _ _).alloc _
  have x2 : Blk ((w.alloc (.cells #[.int .i64 to1, .int .i64 d1, v1, .int .i64 n1] 126)).alloc (.cells #[.int .i64 to2, .int .i64 d2, v2, .int .i64 n2] 126)) (w.heap.size + 1) #[.int .i64 to2, .int .i64 d2, v2, .int .i64 n2] 126 := by
    have := Blk.new (w.alloc (.cells #[.int .i64 to1, .int .i64 d1, v1, .int .i64 n1] 126)) #[.int .i64 to2, .int .i64 d2, v2, .int .i64 n2] 126
    simpa using this
  obtain ⟨V, hV⟩ : ∃ V, (w.alloc (.cells #[.int .i64 to1, .int .i64 d1, v1, .int .i64 n1] 126)).alloc (.cells #[.int .i64 to2, .int .i64 d2, v2, .int .i64 n2] 126) = V := ⟨_, rfl⟩
  rw [hV] at bB x1 x2
  go_enter Tryz.func101, Tryz.ntmps101
  go_wp2_with fail
  try rw [hV]
  clear hV
  have a1 : V.cell? ⟨w.heap.size, 1, none⟩ = some (.int .i64 d1) := x1.cell 1
  have a3 : V.cell? ⟨w.heap.size, 3, none⟩ = some (.int .i64 n1) := x1.cell 3
  have b1 : V.cell? ⟨w.heap.size + 1, 1, none⟩ = some (.int .i64 d2) := x2.cell 1
  have b3 : V.cell? ⟨w.heap.size + 1, 3, none⟩ = some (.int .i64 n2) := x2.cell 3
  have HX := hide bB
  clear bB x1 x2
  refine wp_moves_reads_tail0 12 (by kernel_rfl) (by kernel_rfl) (by kernel_rfl) (by kernel_rfl) ?_
  simp only [List.take_succ_cons, List.take_zero, List.drop_succ_cons, List.drop_zero]
  still_step
  still_step
  still_step
  still_step
  still_step
  still_step
  still_call (cmp_any d1 d2 V.drew)
  still_step
  still_step
  still_step
  still_step
  still_call (cmp_any n1 n2 V.drew)
  refine wpStill_nil ?_
  go_wp2_with fail
  have hB2 : Below w.heap.size w (V.drew.alloc (.cells #[.int .i64 (cmpI d1 d2), .int .i64 (cmpI n1 n2)] 3)) := (unhide HX).drew.alloc ((unhide HX).size) _
  refine (or_any V.heap.size (cmpI d1 d2) (cmpI n1 n2) _ (by simp) (by simp)).mono ?_
  rintro e w3 ⟨rfl, rfl⟩
  go_wp2
  go_ret
  exact ⟨rfl, hB2⟩
end Go.Proofs.YtandblanpafjoaaGreatDoor

namespace Go.Proofs.YtandblanpafjoaaGreatDoor
open Go.RowKit Go.Extern.Stop Go.Stop Go.Extern
/-- A parcel's cells; bl: in which block the bytes of a packet lie, by the packet's number. -/
def pcl (bl : Nat → Nat) (f : FlyM) : List Value := [.int .i64 (f.to : Int), .int .i64 (f.due : Int), .slice (some ⟨bl f.num, 0, none⟩) f.bytes.length f.bytes.length, .int .i64 (f.num : Int)]
def pcls (bl : Nat → Nat) (l : List FlyM) : List Value := l.flatMap (pcl bl)
theorem pcl_len (bl : Nat → Nat) (f : FlyM) : (pcl bl f).length = 4 := rfl
theorem pcls_len (bl : Nat → Nat) (l : List FlyM) : (pcls bl l).length = 4 * l.length := by
  induction l with
  | nil => rfl
  | cons a l ih => simp only [pcls, List.flatMap_cons, List.length_append, List.length_cons, pcl_len] at ih ⊢; omega
theorem pcls_get (bl : Nat → Nat) : ∀ (l : List FlyM) (i j : Nat), i < l.length → j < 4 → (pcls bl l)[i * 4 + j]? = (pcl bl (fl l i))[j]?
  | a :: l, 0, j, _, hj => by
    simp only [pcls, List.flatMap_cons]
    rw [List.getElem?_append_left (by rw [pcl_len]; omega)]
    simp [fl]
  | a :: l, i + 1, j, h, hj => by
    have := pcls_get bl l i j (by simpa using h) hj
    simp only [pcls, List.flatMap_cons] at this ⊢
    rw [List.getElem?_append_right (by rw [pcl_len]; omega), pcl_len, show (i + 1) * 4 + j - 4 = i * 4 + j by omega, this]
    simp [fl]
theorem pcls_append (bl : Nat → Nat) (a b : List FlyM) : pcls bl (a ++ b) = pcls bl a ++ pcls bl b := by simp [pcls]
theorem pcls_congr {bl bl' : Nat → Nat} {l : List FlyM} (h : ∀ f ∈ l, bl' f.num = bl f.num) : pcls bl' l = pcls bl l := by
  unfold pcls
  induction l with
  | nil => rfl
  | cons a l ih => simp only [List.flatMap_cons]; rw [ih (fun f hf => h f (by simp [hf]))]; simp [pcl, h a (by simp)]
/-- A queue in the cells of block g. -/
structure QAt (w : World) (g cap : Nat) (bl : Nat → Nat) (l : List FlyM) : Prop where
  blk : ∃ cs, Blk w g cs 126 ∧ cs.size = cap * 4 ∧ cs.toList.take (l.length * 4) = pcls bl l
  big : cap ≤ maxLen
  cap : l.length ≤ cap
theorem QAt.cell {w : World} {g cap : Nat} {bl : Nat → Nat} {l : List FlyM} (h : QAt w g cap bl l) (i j : Nat) (hi : i < l.length) (hj : j < 4) : w.cell? ⟨g, i * 4 + j, none⟩ = (pcl bl (fl l i))[j]? := by
  obtain ⟨cs, hb, hs, ht⟩ := h.blk
  rw [hb.cell, ← pcls_get bl l i j hi hj, ← ht, List.getElem?_take, if_pos (by omega)]
  simp
set_option maxRecDepth 10000 in
set_option maxHeartbeats 800000 in
theorem qless_any (g cap i j : Nat) (bl : Nat → Nat) (l : List FlyM) (w : World) (h : QAt w g cap bl l) (hi : i < l.length) (hj : j < l.length) :
    Calls Tryz.prog 179 #[.slice (some ⟨g, 0, none⟩) l.length cap, .int .i64 (i : Int), .int .i64 (j : Int)] w fun e w' => e = .returned (.bool (decide (before (fl l i) (fl l j)))) ∧ Below w.heap.size w w' := by
  have a0 : w.cell? ⟨g, i * 4, none⟩ = some (.int .i64 ((fl l i).to : Int)) := h.cell i 0 hi (by omega)
  have a1 : w.cell? ⟨g, i * 4 + 1, none⟩ = some (.int .i64 ((fl l i).due : Int)) := h.cell i 1 hi (by omega)
  have a2 : w.cell? ⟨g, i * 4 + 2, none⟩ = some (.slice (some ⟨bl (fl l i).num, 0, none⟩) (fl l i).bytes.length (fl l i).bytes.length) := h.cell i 2 hi (by omega)
  have a3 : w.cell? ⟨g, i * 4 + 3, none⟩ = some (.int .i64 ((fl l i).num : Int)) := h.cell i 3 hi (by omega)
  have b0 : w.cell? ⟨g, j * 4, none⟩ = some (.int .i64 ((fl l j).to : Int)) := h.cell j 0 hj (by omega)
  have b1 : w.cell? ⟨g, j * 4 + 1, none⟩ = some (.int .i64 ((fl l j).due : Int)) := h.cell j 1 hj (by omega)
  have b2 : w.cell? ⟨g, j * 4 + 2, none⟩ = some (.slice (some ⟨bl (fl l j).num, 0, none⟩) (fl l j).bytes.length (fl l j).bytes.length) := h.cell j 2 hj (by omega)
  have b3 : w.cell? ⟨g, j * 4 + 3, none⟩ = some (.int .i64 ((fl l j).num : Int)) := h.cell j 3 hj (by omega)
  have ho := ordI_lt (fl l i).due (fl l i).num (fl l j).due (fl l j).num
  have hbf : decide (before (fl l i) (fl l j)) = decide (ordI (fl l i).due (fl l i).num (fl l j).due (fl l j).num < 0) := by rw [ho]; rfl
  rw [hbf]
  clear h ho hbf
  generalize fl l i = x at *
  generalize fl l j = y at *
  have i0 : (0 : Int) ≤ (i : Int) := by omega
  have i1 : (i : Int) < (l.length : Int) := by omega
  have j0 : (0 : Int) ≤ (j : Int) := by omega
  have j1 : (j : Int) < (l.length : Int) := by omega
  go_enter Tryz.func179, Tryz.ntmps179
  go_wp2_with fail
  refine wp_moves_reads_tail0 8 (by kernel_rfl) (by kernel_rfl) (by kernel_rfl) (by kernel_rfl) ?_
  simp only [List.take_succ_cons, List.take_zero, List.drop_succ_cons, List.drop_zero]
  repeat still_step
  refine wpStill_nil ?_
  go_wp2_with fail
  refine (order_any (x.to : Int) (x.due : Int) (x.num : Int) (y.to : Int) (y.due : Int) (y.num : Int) _ _ w.drew).mono ?_
  rintro e w1 ⟨rfl, hb⟩
  go_wp2
  go_ret
  exact ⟨rfl, (Below.refl _ w).drew.trans hb⟩
set_option maxHeartbeats 400000 in
theorem qlen_any (n cap : Nat) (ao : Option Addr) (w : World) : Calls Tryz.prog 178 #[.slice ao n cap] w fun e w' => e = .returned (.int .i64 (n : Int)) ∧ w' = w := by
  go_enter Tryz.func178, Tryz.ntmps178
  go_wp2
  go_ret
  exact ⟨rfl, rfl⟩
end Go.Proofs.YtandblanpafjoaaGreatDoor

namespace Go.Proofs.YtandblanpafjoaaGreatDoor
open Go.RowKit Go.Extern.Stop Go.Stop Go.Extern
theorem wrapQ (a : Addr) (w : World) (s t : ByteArray) (ts : Array TypeId) (x : TypeId) : (Builtin.ssaWrapNilChk_ ts x #[.pointer (some a), .string s, .string t]).run Tryz.prog w = .ok (.pointer (some a)) w := by rfl
theorem recvQ (a : Addr) (w : World) (v : Value) (s : String) (h : (loadVar 62 a).run Tryz.prog w = .ok v w) : (receiverAt 124 (.val (.pointer (some a))) false (some s)).run Tryz.prog w = .ok v w := by
  have hu : (underlying 124).run Tryz.prog w = .ok (.pointer 62) w := by kernel_rfl
  unfold receiverAt
  simp only [Sem.run_bind, hu, Result.andThen_ok, Place.get, Sem.run_pure, strVal, wrapQ, asAddr, h]
theorem info_run (t : TypeId) (i : TypeInfo) (w : World) (h : Tryz.prog.info? t = some i) : (typeInfo t).run Tryz.prog w = .ok i w := by
  have : (program).run Tryz.prog w = .ok Tryz.prog w := rfl
  unfold typeInfo
  simp only [Sem.run_bind, this, Result.andThen_ok, h, Sem.run_pure]
/-- A method with a value receiver, through a pointer. -/
theorem mQ (k : Nat) (a : Addr) (w : World) (v : Value) (name : String) (fn : FuncId) (hm : (Tryz.prog.info? 124).bind (fun i => (i.methods.find? (·.name == name)).map (fun m => (m.path.toList.length, m.func))) = some (0, some (fn, false)))
    (h : (loadVar 62 a).run Tryz.prog w = .ok v w) : (Go.method (k + 1) 124 (.pointer (some a)) name).run Tryz.prog w = .ok (fn, v) w := by
  cases hi : Tryz.prog.info? 124 with
  | none => rw [hi] at hm; simp at hm
  | some i =>
    rw [hi] at hm
    simp only [Option.bind_some] at hm
    cases hf : i.methods.find? (·.name == name) with
    | none => rw [hf] at hm; simp at hm
    | some m =>
      rw [hf] at hm
      simp only [Option.map_some, Option.some.injEq, Prod.mk.injEq] at hm
      obtain ⟨hp, hfn⟩ := hm
      have hp' : m.path.toList = [] := List.length_eq_zero_iff.1 hp
      have hp2 : m.path.isEmpty = true := by simpa using hp
      unfold Go.method
      simp only [Sem.run_bind, info_run _ i w hi, Result.andThen_ok, hf, hp', hfn, hp2, follow, Sem.run_pure, if_true, recvQ a w v _ h]
theorem mLen (a : Addr) (w : World) (v : Value) (h : (loadVar 62 a).run Tryz.prog w = .ok v w) : (Go.method 429 124 (.pointer (some a)) "Len").run Tryz.prog w = .ok (178, v) w := mQ _ a w v "Len" 178 (by kernel_rfl) h
theorem mLess (a : Addr) (w : World) (v : Value) (h : (loadVar 62 a).run Tryz.prog w = .ok v w) : (Go.method 429 124 (.pointer (some a)) "Less").run Tryz.prog w = .ok (179, v) w := mQ _ a w v "Less" 179 (by kernel_rfl) h
theorem mSwap (a : Addr) (w : World) (v : Value) (h : (loadVar 62 a).run Tryz.prog w = .ok v w) : (Go.method 429 124 (.pointer (some a)) "Swap").run Tryz.prog w = .ok (180, v) w := mQ _ a w v "Swap" 180 (by kernel_rfl) h
theorem mPush (a : Addr) (w : World) : (Go.method 429 124 (.pointer (some a)) "Push").run Tryz.prog w = .ok (182, .pointer (some a)) w := by kernel_rfl
theorem mPop (a : Addr) (w : World) : (Go.method 429 124 (.pointer (some a)) "Pop").run Tryz.prog w = .ok (181, .pointer (some a)) w := by kernel_rfl
theorem loadQ (b o : Nat) (w : World) (v : Value) (h : w.cell? ⟨b, o, none⟩ = some v) : (loadVar 62 ⟨b, o, none⟩).run Tryz.prog w = .ok v w := by
  go_simp
end Go.Proofs.YtandblanpafjoaaGreatDoor

