import Derived.Test.YtandblanpafjoabGreatDoorNetE
namespace Go.Proofs.YtandblanpafjoabGreatDoor
open Go.RowKit

/-! The order in which packets come: each has a number of its own, so there is one order alone. -/
structure Nums (n : NetM) : Prop where
  lt : ∀ f ∈ n.flights, f.num < n.sent
  row : n.flights.Pairwise fun a b => a.num < b.num
theorem Nums.new (players window delay : Nat) (lags : List Int) : Nums (newM players window delay lags) := ⟨fun f hf => by simp [newM] at hf, by simp [newM]⟩
theorem Nums.send {n : NetM} (h : Nums n) (p q : Nat) : Nums (n.send p q) := by
  by_cases hl : 0 ≤ n.lag
  · have e : (n.send p q).flights = n.flights ++ [{ to := q, due := n.now + n.lag.toNat, num := n.sent, bytes := packM (n.peers p) p q }] := by simp [NetM.send, hl]
    refine ⟨fun f hf => ?_, ?_⟩
    · rw [e] at hf
      show f.num < n.sent + 1
      rcases List.mem_append.1 hf with hf | hf
      · have := h.lt f hf; omega
      · obtain rfl := List.mem_singleton.1 hf
        show n.sent < n.sent + 1
        omega
    · rw [e, List.pairwise_append]
      refine ⟨h.row, List.pairwise_singleton _ _, fun a ha b hb => ?_⟩
      obtain rfl := List.mem_singleton.1 hb
      exact h.lt a ha
  · have e : (n.send p q).flights = n.flights := by simp [NetM.send, hl]
    exact ⟨fun f hf => by rw [e] at hf; have := h.lt f hf; show f.num < n.sent + 1; omega, by rw [e]; exact h.row⟩
theorem Nums.sendTo {n : NetM} (h : Nums n) (p : Nat) : ∀ k, Nums (sendTo n p k)
  | 0 => h
  | k + 1 => by
    unfold Go.Proofs.YtandblanpafjoabGreatDoor.sendTo
    split
    · exact h.sendTo p k
    · exact (h.sendTo p k).send p k
theorem Nums.stepped {n : NetM} (h : Nums n) (p : Nat) (v : Int) : Nums (n.stepped p v) := ⟨h.lt, h.row⟩
theorem Nums.advance {n : NetM} (h : Nums n) (p : Nat) (v : Int) : Nums (n.advance p v).2 := by
  unfold NetM.advance
  split
  · exact h
  · split
    · exact h
    · exact (h.stepped p v).sendTo p _
theorem take_sent (n : NetM) (p : Nat) (b : List Int) : (n.take p b).2.sent = n.sent := by
  unfold NetM.take
  split <;> rfl
theorem Nums.take {n : NetM} (h : Nums n) (p : Nat) (b : List Int) : Nums (n.take p b).2 :=
  ⟨fun f hf => by rw [take_flights] at hf; rw [take_sent]; exact h.lt f hf, by rw [take_flights]; exact h.row⟩
theorem Nums.fewer {n : NetM} (h : Nums n) {l : List FlyM} (hl : l.Sublist n.flights) : Nums { n with flights := l } :=
  ⟨fun f hf => h.lt f (hl.subset hf), h.row.sublist hl⟩
theorem Nums.come : ∀ k (n : NetM), Nums n → Nums (comeM k n)
  | 0, _, h => h
  | k + 1, n, h => by
    unfold comeM
    split
    · exact h
    · split
      · exact h
      · exact Nums.come k _ ((h.fewer (List.eraseIdx_sublist _ _)).take _ _)
theorem Nums.againTo {n : NetM} (h : Nums n) (p : Nat) : ∀ k, Nums (againTo n p k)
  | 0 => h
  | k + 1 => by
    unfold Go.Proofs.YtandblanpafjoabGreatDoor.againTo
    split
    · exact (h.againTo p k).send p k
    · exact h.againTo p k
theorem Nums.againAll {n : NetM} (h : Nums n) : ∀ k, Nums (againAll n k)
  | 0 => h
  | k + 1 => by
    unfold Go.Proofs.YtandblanpafjoabGreatDoor.againAll
    exact (h.againAll k).againTo k _
theorem Nums.tick {n : NetM} (h : Nums n) : Nums n.tick := by
  unfold NetM.tick
  exact (Nums.come _ _ (⟨h.lt, h.row⟩ : Nums { n with now := n.now + 1 })).againAll _

theorem firstTo_best (l : List FlyM) : ∀ k i, i < k → ¬ before (l.getD i fly0) (l.getD (firstTo l fly0 k) fly0)
  | k + 1, i, hi => by
    unfold firstTo
    split
    · rename_i hb
      by_cases e : i = k
      · subst e; unfold before; omega
      · have := firstTo_best l k i (by omega)
        unfold before at *
        omega
    · rename_i hb
      by_cases e : i = k
      · subst e; exact hb
      · exact firstTo_best l k i (by omega)
theorem firstM_best (l : List FlyM) (f : FlyM) (hf : f ∈ l) : ¬ before f (l.getD (firstM l) fly0) := by
  obtain ⟨i, hi, e⟩ := List.getElem_of_mem hf
  have := firstTo_best l l.length i hi
  have e2 : l.getD i fly0 = f := by rw [List.getD_eq_getElem?_getD, List.getElem?_eq_getElem hi, Option.getD_some, e]
  rw [e2] at this
  exact this
/-- Whatever comes ahead of all others is the first. -/
theorem first_is (l : List FlyM) (f : FlyM) (hf : f ∈ l) (h : ∀ g ∈ l, g = f ∨ before f g) : l.getD (firstM l) fly0 = f := by
  have hm := getD_mem l _ (firstM_lt l (List.ne_nil_of_mem hf))
  rcases h _ hm with e | e
  · exact e
  · exact absurd e (firstM_best l f hf)
theorem before_total {l : List FlyM} (h : l.Pairwise fun a b => a.num < b.num) {f g : FlyM} (hf : f ∈ l) (hg : g ∈ l) : f = g ∨ before f g ∨ before g f := by
  by_cases e : f.num = g.num
  · left
    obtain ⟨i, hi, ei⟩ := List.getElem_of_mem hf
    obtain ⟨j, hj, ej⟩ := List.getElem_of_mem hg
    have hp := List.pairwise_iff_getElem.1 h
    rcases Nat.lt_trichotomy i j with hlt | heq | hgt
    · have := hp i j hi hj hlt; rw [ei, ej] at this; omega
    · subst heq; rw [← ei, ← ej]
    · have := hp j i hj hi hgt; rw [ei, ej] at this; omega
  · right
    unfold before
    omega
theorem first_all {l : List FlyM} (h : l.Pairwise fun a b => a.num < b.num) (hne : l ≠ []) : ∀ g ∈ l, g = l.getD (firstM l) fly0 ∨ before (l.getD (firstM l) fly0) g := by
  intro g hg
  rcases before_total h hg (getD_mem _ _ (firstM_lt _ hne)) with e | e | e
  · exact .inl e
  · exact absurd e (firstM_best _ g hg)
  · exact .inr e

/-- The packets under way, as they will come. -/
def outTo : Nat → List FlyM → List FlyM
  | 0, _ => []
  | k + 1, l => if l = [] then [] else l.getD (firstM l) fly0 :: outTo k (l.eraseIdx (firstM l))
def outM (l : List FlyM) : List FlyM := outTo l.length l
theorem erase_perm : ∀ (l : List FlyM) (i : Nat), i < l.length → (l.getD i fly0 :: l.eraseIdx i).Perm l
  | x :: l, 0, _ => by simp
  | x :: l, i + 1, h => by
    have ih := erase_perm l i (by simpa using h)
    rw [List.getD_cons_succ, List.eraseIdx_cons_succ]
    exact (List.Perm.swap _ _ _).trans (ih.cons x)
theorem outTo_perm : ∀ k (l : List FlyM), l.length ≤ k → (outTo k l).Perm l
  | 0, l, h => by
    have : l = [] := List.eq_nil_of_length_eq_zero (by omega)
    subst this; exact List.Perm.refl _
  | k + 1, l, h => by
    unfold outTo
    by_cases e : l = []
    · rw [if_pos e, e]
    · rw [if_neg e]
      have hlt := firstM_lt l e
      exact ((outTo_perm k _ (by rw [List.length_eraseIdx_of_lt hlt]; omega)).cons _).trans (erase_perm l _ hlt)
theorem outM_perm (l : List FlyM) : (outM l).Perm l := outTo_perm _ _ (Nat.le_refl _)
theorem outTo_sorted : ∀ k (l : List FlyM), l.length ≤ k → (l.Pairwise fun a b => a.num < b.num) → (outTo k l).Pairwise before
  | 0, _, _, _ => List.Pairwise.nil
  | k + 1, l, h, hr => by
    unfold outTo
    by_cases e : l = []
    · rw [if_pos e]; exact List.Pairwise.nil
    · rw [if_neg e]
      have hlt := firstM_lt l e
      have hlen : (l.eraseIdx (firstM l)).length ≤ k := by rw [List.length_eraseIdx_of_lt hlt]; omega
      refine List.Pairwise.cons (fun g hg => ?_) (outTo_sorted k _ hlen (hr.sublist (List.eraseIdx_sublist _ _)))
      have hg' : g ∈ l.eraseIdx (firstM l) := (outTo_perm k _ hlen).subset hg
      have hgl : g ∈ l := List.mem_of_mem_eraseIdx hg'
      rcases first_all hr e g hgl with e2 | e2
      · exfalso
        obtain ⟨j, hj, ej⟩ := List.mem_eraseIdx_iff_getElem?.1 hg'
        have hjl : j < l.length := by
          rcases Nat.lt_or_ge j l.length with h | h
          · exact h
          · rw [List.getElem?_eq_none h] at ej; cases ej
        have eg : l[j] = g := by rw [List.getElem?_eq_getElem hjl] at ej; exact Option.some.inj ej
        have ef : l[firstM l] = g := by
          have e3 : g = l.getD (firstM l) fly0 := e2
          rw [List.getD_eq_getElem?_getD, List.getElem?_eq_getElem hlt] at e3
          exact e3.symm
        have hp := List.pairwise_iff_getElem.1 hr
        rcases Nat.lt_trichotomy j (firstM l) with h1 | h1 | h1
        · have := hp j _ hjl hlt h1; rw [eg, ef] at this; omega
        · exact hj h1
        · have := hp _ j hlt hjl h1; rw [eg, ef] at this; omega
      · exact e2
theorem outM_sorted {n : NetM} (h : Nums n) : (outM n.flights).Pairwise before := outTo_sorted _ _ (Nat.le_refl _) h.row
/-- There is one order alone. -/
theorem sorted_unique : ∀ (a b : List FlyM), a.Pairwise before → b.Pairwise before → a.Perm b → a = b
  | [], b, _, _, h => (List.Perm.nil_eq h).symm ▸ rfl
  | x :: a, b, ha, hb, h => by
    cases b with
    | nil => exact absurd h.symm (by intro h'; have := h'.length_eq; simp at this)
    | cons y b =>
      have ha' := List.pairwise_cons.1 ha
      have hb' := List.pairwise_cons.1 hb
      have exy : x = y := by
        have hx : x ∈ y :: b := h.subset List.mem_cons_self
        have hy : y ∈ x :: a := h.symm.subset List.mem_cons_self
        rcases List.mem_cons.1 hx with e | e
        · exact e
        · rcases List.mem_cons.1 hy with e2 | e2
          · exact e2.symm
          · have h1 := ha'.1 y e2
            have h2 := hb'.1 x e
            unfold before at h1 h2
            omega
      subst exy
      rw [sorted_unique a b ha'.2 hb'.2 (List.Perm.cons_inv h)]
end Go.Proofs.YtandblanpafjoabGreatDoor
