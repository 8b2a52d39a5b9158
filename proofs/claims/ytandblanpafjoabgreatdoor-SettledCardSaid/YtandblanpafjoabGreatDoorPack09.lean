import Derived.Test.YtandblanpafjoabGreatDoorPack08
namespace Go.Proofs.YtandblanpafjoabGreatDoor
open Go.RowKit

/-! Twenty ticks. -/
theorem send_flights {n : NetM} (h : LagOk n) (p q : Nat) : (n.send p q).flights = n.flights ++ [{ to := q, due := n.now + n.lag.toNat, num := n.sent, bytes := packM (n.peers p) p q }] := by
  simp [NetM.send, (lag_range h).1]
theorem againTo_app {n : NetM} (h : LagOk n) (p : Nat) : ∀ k, ∃ ex, (againTo n p k).flights = n.flights ++ ex ∧ ex.length ≤ k ∧ (∀ q, q < k → q ≠ p → (n.peers p).acked q < ((n.peers p).known p).length → ∃ f ∈ ex, f.to = q ∧ f.bytes = packM (n.peers p) p q ∧ f.due ≤ n.now + 6)
  | 0 => ⟨[], by simp [againTo], by simp, fun q hq => by omega⟩
  | k + 1 => by
    obtain ⟨ex, e1, e2, e3⟩ := againTo_app h p k
    obtain ⟨s1, s2, s3, s4, s5, s6⟩ := againTo_same n p k
    unfold againTo
    have hl : LagOk (againTo n p k) := by unfold LagOk; rw [s6]; exact h
    have hr := lag_range hl
    split
    · rename_i hh
      rw [s2] at hh
      refine ⟨ex ++ [{ to := k, due := (againTo n p k).now + (againTo n p k).lag.toNat, num := (againTo n p k).sent, bytes := packM ((againTo n p k).peers p) p k }], by rw [send_flights hl, e1, List.append_assoc], by simp; omega, fun q hq hne ha => ?_⟩
      by_cases e : q = k
      · subst e
        exact ⟨_, List.mem_append_right _ (List.mem_singleton.2 rfl), rfl, by show packM ((againTo n p q).peers p) p q = _; rw [s2], by show (againTo n p q).now + _ ≤ _; rw [s3]; omega⟩
      · obtain ⟨f, hf, g⟩ := e3 q (by omega) hne ha
        exact ⟨f, List.mem_append_left _ hf, g⟩
    · rename_i hh
      rw [s2] at hh
      refine ⟨ex, e1, by omega, fun q hq hne ha => ?_⟩
      by_cases e : q = k
      · subst e; exact absurd ⟨hne, ha⟩ hh
      · exact e3 q (by omega) hne ha
theorem againAll_app {n : NetM} (h : LagOk n) : ∀ k, ∃ ex, (againAll n k).flights = n.flights ++ ex ∧ ex.length ≤ k * n.players ∧ (∀ p q, p < k → q < n.players → q ≠ p → (n.peers p).acked q < ((n.peers p).known p).length → ∃ f ∈ ex, f.to = q ∧ f.bytes = packM (n.peers p) p q ∧ f.due ≤ n.now + 6)
  | 0 => ⟨[], by simp [againAll], by simp, fun p q hp => by omega⟩
  | k + 1 => by
    obtain ⟨ex, e1, e2, e3⟩ := againAll_app h k
    obtain ⟨s1, s2, s3, s4, s5, s6⟩ := againAll_same n k
    have hl : LagOk (againAll n k) := by unfold LagOk; rw [s6]; exact h
    obtain ⟨ex2, g1, g2, g3⟩ := againTo_app hl k n.players
    unfold againAll
    refine ⟨ex ++ ex2, by rw [g1, e1, List.append_assoc], by rw [List.length_append, Nat.succ_mul]; omega, fun p q hp hq hne ha => ?_⟩
    by_cases e : p = k
    · subst e
      rw [s2, s3] at g3
      obtain ⟨f, hf, g⟩ := g3 q hq hne ha
      exact ⟨f, List.mem_append_right _ hf, g⟩
    · obtain ⟨f, hf, g⟩ := e3 p q (by omega) hq hne ha
      exact ⟨f, List.mem_append_left _ hf, g⟩
theorem Jnv.againTo {n : NetM} {real : Nat → List Int} (h : Inv n real) (j : Jnv n) {p : Nat} (hp : p < n.players) : ∀ k, k ≤ n.players → Jnv (againTo n p k)
  | 0, _ => j
  | k + 1, hk => by
    have ih := Jnv.againTo h j hp k (by omega)
    have hs := (againTo_same n p k).1
    unfold Go.Proofs.YtandblanpafjoabGreatDoor.againTo
    split
    · rename_i hh
      exact Jnv.send (h.againTo hp k (by omega)) ih (by omega) (by omega) (fun e => hh.1 e.symm)
    · exact ih
theorem Jnv.againAll {n : NetM} {real : Nat → List Int} (h : Inv n real) (j : Jnv n) : ∀ k, k ≤ n.players → Jnv (againAll n k)
  | 0, _ => j
  | k + 1, hk => by
    have ih := Jnv.againAll h j k (by omega)
    have hs := (againAll_same n k).1
    unfold Go.Proofs.YtandblanpafjoabGreatDoor.againAll
    exact Jnv.againTo (h.againAll k (by omega)) ih (by omega) _ (by omega)

theorem take_flights (n : NetM) (p : Nat) (b : List Int) : (n.take p b).2.flights = n.flights := by
  unfold NetM.take
  split <;> rfl
theorem come_sub : ∀ k (n : NetM), (comeM k n).flights.Sublist n.flights
  | 0, _ => List.Sublist.refl _
  | k + 1, n => by
    unfold comeM
    split
    · exact List.Sublist.refl _
    · split
      · exact List.Sublist.refl _
      · refine (come_sub k _).trans ?_
        rw [take_flights]
        exact List.eraseIdx_sublist _ _
def cnt (l : List FlyM) (t : Nat) : Nat := (l.filter fun f => decide (t < f.due)).length
theorem cnt_sub {l m : List FlyM} (h : l.Sublist m) (t : Nat) : cnt l t ≤ cnt m t := (h.filter _).length_le
theorem cnt_app (l m : List FlyM) (t : Nat) : cnt (l ++ m) t ≤ cnt l t + m.length := by
  unfold cnt
  rw [List.filter_append, List.length_append]
  have := List.length_filter_le (fun f : FlyM => decide (t < f.due)) m
  omega

/-- What a tick does. -/
theorem tick_spec {n : NetM} {real : Nat → List Int} (h : Inv n real) (j : Jnv n) : ∃ m ex, Inv n.tick real ∧ Jnv n.tick ∧ n.tick.flights = m ++ ex ∧ m.Sublist n.flights ∧ (∀ f ∈ m, n.now + 1 < f.due) ∧ ex.length ≤ n.players * n.players ∧
    (∀ i k, ((n.peers i).known k).length ≤ ((n.tick.peers i).known k).length) ∧
    (∀ f ∈ n.flights, f ∈ m ∨ ∃ p : Nat, fromL f.bytes = (p : Int) ∧ startL f.bytes + ((inputsL f.bytes).length : Int) ≤ (((n.tick.peers f.to).known p).length : Int)) ∧
    (∀ p q, p < n.players → q < n.players → q ≠ p → (n.tick.peers p).acked q < ((n.tick.peers p).known p).length → ∃ f ∈ ex, f.to = q ∧ f.bytes = packM (n.tick.peers p) p q ∧ f.due ≤ n.now + 1 + 6) ∧
    n.tick.players = n.players ∧ n.tick.now = n.now + 1 ∧ n.tick.delay = n.delay ∧ n.tick.window = n.window := by
  have h1 : Inv { n with now := n.now + 1 } real := h.later _
  have j1 : Jnv { n with now := n.now + 1 } := j.later _ (by omega)
  obtain ⟨r1, r2, r3, r4, r5, r6, _⟩ := come_spec n.flights.length { n with now := n.now + 1 } h1 j1 (Nat.le_refl _)
  have rs := come_sub n.flights.length { n with now := n.now + 1 }
  have ht : n.tick = againAll (comeM n.flights.length { n with now := n.now + 1 }) (comeM n.flights.length { n with now := n.now + 1 }).players := rfl
  rw [ht]
  generalize comeM n.flights.length { n with now := n.now + 1 } = m at *
  obtain ⟨s1, s2, s3, s4, s5, _⟩ := againAll_same m m.players
  obtain ⟨ex, e1, e2, e3⟩ := againAll_app r2.lag m.players
  obtain ⟨t1, t2, t3, t4, _⟩ := r6
  refine ⟨m.flights, ex, r1.againAll _ (Nat.le_refl _), Jnv.againAll r1 r2 _ (Nat.le_refl _), e1, rs, fun f hf => (r3 f hf).1, ?_, ?_, ?_, ?_, s1.trans t1, s3.trans t2, s4.trans t3, s5.trans t4⟩
  · rw [show n.players = m.players from t1.symm]; exact e2
  · intro i k; rw [s2]; exact r4 i k
  · intro f hf; rw [s2]; exact r5 f hf
  · intro p q hp hq hne ha
    rw [s2] at ha ⊢
    rw [show n.now + 1 = m.now from t2.symm]
    rw [show n.players = m.players from t1.symm] at hp hq
    exact e3 p q hp hq hne ha

/-- All know all. -/
def Full (n : NetM) (real : Nat → List Int) : Prop := ∀ p q, p < n.players → q < n.players → ((n.peers p).known q).length = (real q).length
def Pend (n : NetM) (real : Nat → List Int) (D : Nat) : Prop :=
  ∀ p q, p < n.players → q < n.players → p ≠ q → ((n.peers q).known p).length = (real p).length ∨ ∃ f ∈ n.flights, f.to = q ∧ fromL f.bytes = (p : Int) ∧ startL f.bytes + ((inputsL f.bytes).length : Int) = ((real p).length : Int) ∧ f.due ≤ D
theorem pend_first {n : NetM} {real : Nat → List Int} (h : Inv n real) (j : Jnv n) : Pend n.tick real (n.now + 7) := by
  obtain ⟨m, ex, h2, j2, e1, _, _, _, _, _, e9, t1, t2, t3, t4⟩ := tick_spec h j
  intro p q hp hq hne
  rw [t1] at hp hq
  have hp' : p < n.tick.players := by rw [t1]; exact hp
  have hq' : q < n.tick.players := by rw [t1]; exact hq
  have ha := h2.ack p q hp' hq' hne
  have hk := h2.knownLe hq' hp'
  by_cases hlt : (n.tick.peers p).acked q < ((n.tick.peers p).known p).length
  · obtain ⟨f, hf, f1, f2, f3⟩ := e9 p q hp hq (fun e => hne e.symm) hlt
    right
    obtain ⟨s1, s2, s3, s4⟩ := sent_parts h2 hp' hq' hne
    refine ⟨f, by rw [e1]; exact List.mem_append_right _ hf, f1, by rw [f2, s1], ?_, by omega⟩
    have b1 := h2.len p hp'
    have b2 := h2.win p hp'
    have b3 : n.tick.conf p ≤ ((n.tick.peers p).known q).length := confTo_known _ _ _ hq'
    have b4 := j2.known p q hp' hq' hne
    have b5 := j2.win8
    have b6 := h2.hd
    rw [f2, s2, s4, List.length_take, List.length_drop]
    omega
  · left
    rw [h2.own p hp'] at hlt
    omega
theorem pend_tick {n : NetM} {real : Nat → List Int} (h : Inv n real) (j : Jnv n) {D : Nat} (hP : Pend n real D) : Pend n.tick real D ∧ (D ≤ n.now + 1 → Full n.tick real) := by
  obtain ⟨m, ex, h2, j2, e1, _, e3, _, e5, e6, _, t1, t2, _, _⟩ := tick_spec h j
  have key : ∀ p q, p < n.players → q < n.players → p ≠ q → ((n.tick.peers q).known p).length = (real p).length ∨ ∃ f ∈ m, f.to = q ∧ fromL f.bytes = (p : Int) ∧ startL f.bytes + ((inputsL f.bytes).length : Int) = ((real p).length : Int) ∧ f.due ≤ D := by
    intro p q hp hq hne
    have hk := h2.knownLe (show q < n.tick.players by rw [t1]; exact hq) (show p < n.tick.players by rw [t1]; exact hp)
    rcases hP p q hp hq hne with hF | ⟨f, hf, f1, f2, f3, f4⟩
    · left
      have := e5 q p
      omega
    · rcases e6 f hf with hm | ⟨p', g1, g2⟩
      · exact .inr ⟨f, hm, f1, f2, f3, f4⟩
      · left
        have : p' = p := by rw [f2] at g1; omega
        subst this
        rw [f1] at g2
        omega
  refine ⟨fun p q hp hq hne => ?_, fun hD p q hp hq => ?_⟩
  · rw [t1] at hp hq
    rcases key p q hp hq hne with hF | ⟨f, hf, g⟩
    · exact .inl hF
    · exact .inr ⟨f, by rw [e1]; exact List.mem_append_left _ hf, g⟩
  · by_cases e : p = q
    · subst e; rw [h2.own p hp]
    · have hp2 := hp
      have hq2 := hq
      rw [t1] at hp2 hq2
      rcases key q p hq2 hp2 (fun e' => e e'.symm) with hF | ⟨f, hf, _, _, _, f4⟩
      · exact hF
      · have := e3 f hf
        omega
theorem full_tick {n : NetM} {real : Nat → List Int} (h : Inv n real) (j : Jnv n) (hF : Full n real) : Full n.tick real := by
  obtain ⟨m, ex, h2, _, _, _, _, _, e5, _, _, t1, _⟩ := tick_spec h j
  intro p q hp hq
  have hk := h2.knownLe hp hq
  rw [t1] at hp hq
  have := e5 p q
  have := hF p q hp hq
  omega

def ticks (n : NetM) : Nat → NetM
  | 0 => n
  | k + 1 => (ticks n k).tick
theorem ticks_spec {n : NetM} {real : Nat → List Int} (h : Inv n real) (j : Jnv n) : ∀ k, Inv (ticks n k) real ∧ Jnv (ticks n k) ∧ (ticks n k).now = n.now + k ∧ (ticks n k).players = n.players ∧
    (1 ≤ k → k ≤ 7 → Pend (ticks n k) real (n.now + 7)) ∧ (7 ≤ k → Full (ticks n k) real) ∧ (∀ i, i ≤ 6 → 6 ≤ i + k → cnt (ticks n k).flights (n.now + k + i) ≤ (6 - i) * (n.players * n.players)) ∧ (7 ≤ k → (ticks n k).flights.length ≤ 6 * (n.players * n.players))
  | 0 => ⟨h, j, rfl, rfl, fun hk => by omega, fun hk => by omega, fun i h6 hk => by
      have hi : i = 6 := by omega
      subst hi
      have : cnt n.flights (n.now + 0 + 6) = 0 := by
        unfold cnt
        rw [List.length_eq_zero_iff, List.filter_eq_nil_iff]
        intro f hf
        have := j.due f hf
        simp; omega
      show cnt n.flights (n.now + 0 + 6) ≤ _
      omega, fun hk => by omega⟩
  | k + 1 => by
    obtain ⟨h1, j1, n1, p1, a1, b1, c1, _⟩ := ticks_spec h j k
    obtain ⟨m, ex, h2, j2, e1, e2, e3, e4, _, _, _, t1, t2, _, _⟩ := tick_spec h1 j1
    have hstep : ∀ i, cnt (ticks n k).tick.flights (n.now + (k + 1) + i) ≤ cnt (ticks n k).flights (n.now + k + (i + 1)) + n.players * n.players := by
      intro i
      rw [e1, show n.now + (k + 1) + i = n.now + k + (i + 1) by omega]
      rw [p1] at e4
      exact Nat.le_trans (cnt_app _ _ _) (Nat.add_le_add (cnt_sub e2 _) e4)
    refine ⟨h2, j2, by show (ticks n k).tick.now = _; rw [t2, n1]; omega, by show (ticks n k).tick.players = _; rw [t1, p1], fun _ hk => ?_, fun hk => ?_, fun i h6 hk => ?_, fun hk => ?_⟩
    · by_cases hk0 : k = 0
      · subst hk0
        exact pend_first h j
      · exact (pend_tick h1 j1 (a1 (by omega) (by omega))).1
    · by_cases hk7 : 7 ≤ k
      · exact full_tick h1 j1 (b1 hk7)
      · exact (pend_tick h1 j1 (a1 (by omega) (by omega))).2 (by rw [n1]; omega)
    · show cnt (ticks n k).tick.flights _ ≤ _
      by_cases hi : i = 6
      · subst hi
        have : cnt (ticks n k).tick.flights (n.now + (k + 1) + 6) = 0 := by
          unfold cnt
          rw [List.length_eq_zero_iff, List.filter_eq_nil_iff]
          intro f hf
          have := j2.due f hf
          rw [t2, n1] at this
          simp; omega
        omega
      · have s1 := hstep i
        have s2 := c1 (i + 1) (by omega) (by omega)
        have s3 : (6 - i) * (n.players * n.players) = (6 - (i + 1)) * (n.players * n.players) + n.players * n.players := by
          rw [show 6 - i = (6 - (i + 1)) + 1 by omega, Nat.succ_mul]
        omega
    · show (ticks n k).tick.flights.length ≤ _
      rw [e1, List.length_append]
      have s1 : m.length = cnt m (n.now + k + 1) := by
        unfold cnt
        rw [List.filter_eq_self.2]
        intro f hf
        have := e3 f hf
        rw [n1] at this
        simpa using this
      have s2 := cnt_sub e2 (n.now + k + 1)
      have s3 := c1 1 (by omega) (by omega)
      rw [p1] at e4
      omega
end Go.Proofs.YtandblanpafjoabGreatDoor

namespace Go.Proofs.YtandblanpafjoabGreatDoor
open Go.RowKit

/-! The order in which packets come: each has a number of its own, so there is one order alone. -/
structure Nums (n : NetM) : Prop where
  lt : ∀ f ∈ n.flights, f.num < n.sent
  row : n.flights.Pairwise fun a b => a.num < b.num
theorem Nums.new (players window delay : Nat) (lags : List Int) : Nums (newM players window delay lags) := ⟨fun f hf => by simp [newM] at hf, by simp [newM]⟩
theorem Nums.send {n : NetM} (h : Nums n) (p q : Nat) : Nums (n.send p q) := by
  by_cases hl : 0 ≤ n.lag
  · have e : (n.send p q).flights = n.flights ++ [{ to := q, due := n.now + n.lag.toNat, num := n.sent, bytes := packM (n.peers p) p q }] := by simp [NetM.send, hl]
    refine ⟨fun f hf => ?_, ?_⟩
    · rw [e] at hf
      show f.num < n.sent + 1
      rcases List.mem_append.1 hf with hf | hf
      · have := h.lt f hf; omega
      · obtain rfl := List.mem_singleton.1 hf
        show n.sent < n.sent + 1
        omega
    · rw [e, List.pairwise_append]
      refine ⟨h.row, List.pairwise_singleton _ _, fun a ha b hb => ?_⟩
      obtain rfl := List.mem_singleton.1 hb
      exact h.lt a ha
  · have e : (n.send p q).flights = n.flights := by simp [NetM.send, hl]
    exact ⟨fun f hf => by rw [e] at hf; have := h.lt f hf; show f.num < n.sent + 1; omega, by rw [e]; exact h.row⟩
theorem Nums.sendTo {n : NetM} (h : Nums n) (p : Nat) : ∀ k, Nums (sendTo n p k)
  | 0 => h
  | k + 1 => by
    unfold Go.Proofs.YtandblanpafjoabGreatDoor.sendTo
    split
    · exact h.sendTo p k
    · exact (h.sendTo p k).send p k
theorem Nums.stepped {n : NetM} (h : Nums n) (p : Nat) (v : Int) : Nums (n.stepped p v) := ⟨h.lt, h.row⟩
theorem Nums.advance {n : NetM} (h : Nums n) (p : Nat) (v : Int) : Nums (n.advance p v).2 := by
  unfold NetM.advance
  split
  · exact h
  · split
    · exact h
    · exact (h.stepped p v).sendTo p _
theorem take_sent (n : NetM) (p : Nat) (b : List Int) : (n.take p b).2.sent = n.sent := by
  unfold NetM.take
  split <;> rfl
theorem Nums.take {n : NetM} (h : Nums n) (p : Nat) (b : List Int) : Nums (n.take p b).2 :=
  ⟨fun f hf => by rw [take_flights] at hf; rw [take_sent]; exact h.lt f hf, by rw [take_flights]; exact h.row⟩
theorem Nums.fewer {n : NetM} (h : Nums n) {l : List FlyM} (hl : l.Sublist n.flights) : Nums { n with flights := l } :=
  ⟨fun f hf => h.lt f (hl.subset hf), h.row.sublist hl⟩
theorem Nums.come : ∀ k (n : NetM), Nums n → Nums (comeM k n)
  | 0, _, h => h
  | k + 1, n, h => by
    unfold comeM
    split
    · exact h
    · split
      · exact h
      · exact Nums.come k _ ((h.fewer (List.eraseIdx_sublist _ _)).take _ _)
theorem Nums.againTo {n : NetM} (h : Nums n) (p : Nat) : ∀ k, Nums (againTo n p k)
  | 0 => h
  | k + 1 => by
    unfold Go.Proofs.YtandblanpafjoabGreatDoor.againTo
    split
    · exact (h.againTo p k).send p k
    · exact h.againTo p k
theorem Nums.againAll {n : NetM} (h : Nums n) : ∀ k, Nums (againAll n k)
  | 0 => h
  | k + 1 => by
    unfold Go.Proofs.YtandblanpafjoabGreatDoor.againAll
    exact (h.againAll k).againTo k _
theorem Nums.tick {n : NetM} (h : Nums n) : Nums n.tick := by
  unfold NetM.tick
  exact (Nums.come _ _ (⟨h.lt, h.row⟩ : Nums { n with now := n.now + 1 })).againAll _

theorem firstTo_best (l : List FlyM) : ∀ k i, i < k → ¬ before (l.getD i fly0) (l.getD (firstTo l fly0 k) fly0)
  | k + 1, i, hi => by
    unfold firstTo
    split
    · rename_i hb
      by_cases e : i = k
      · subst e; unfold before; omega
      · have := firstTo_best l k i (by omega)
        unfold before at *
        omega
    · rename_i hb
      by_cases e : i = k
      · subst e; exact hb
      · exact firstTo_best l k i (by omega)
theorem firstM_best (l : List FlyM) (f : FlyM) (hf : f ∈ l) : ¬ before f (l.getD (firstM l) fly0) := by
  obtain ⟨i, hi, e⟩ := List.getElem_of_mem hf
  have := firstTo_best l l.length i hi
  have e2 : l.getD i fly0 = f := by rw [List.getD_eq_getElem?_getD, List.getElem?_eq_getElem hi, Option.getD_some, e]
  rw [e2] at this
  exact this
/-- Whatever comes ahead of all others is the first. -/
theorem first_is (l : List FlyM) (f : FlyM) (hf : f ∈ l) (h : ∀ g ∈ l, g = f ∨ before f g) : l.getD (firstM l) fly0 = f := by
  have hm := getD_mem l _ (firstM_lt l (List.ne_nil_of_mem hf))
  rcases h _ hm with e | e
  · exact e
  · exact absurd e (firstM_best l f hf)
theorem before_total {l : List FlyM} (h : l.Pairwise fun a b => a.num < b.num) {f g : FlyM} (hf : f ∈ l) (hg : g ∈ l) : f = g ∨ before f g ∨ before g f := by
  by_cases e : f.num = g.num
  · left
    obtain ⟨i, hi, ei⟩ := List.getElem_of_mem hf
    obtain ⟨j, hj, ej⟩ := List.getElem_of_mem hg
    have hp := List.pairwise_iff_getElem.1 h
    rcases Nat.lt_trichotomy i j with hlt | heq | hgt
    · have := hp i j hi hj hlt; rw [ei, ej] at this; omega
    · subst heq; rw [← ei, ← ej]
    · have := hp j i hj hi hgt; rw [ei, ej] at this; omega
  · right
    unfold before
    omega
theorem first_all {l : List FlyM} (h : l.Pairwise fun a b => a.num < b.num) (hne : l ≠ []) : ∀ g ∈ l, g = l.getD (firstM l) fly0 ∨ before (l.getD (firstM l) fly0) g := by
  intro g hg
  rcases before_total h hg (getD_mem _ _ (firstM_lt _ hne)) with e | e | e
  · exact .inl e
  · exact absurd e (firstM_best _ g hg)
  · exact .inr e

/-- The packets under way, as they will come. -/
def outTo : Nat → List FlyM → List FlyM
  | 0, _ => []
  | k + 1, l => if l = [] then [] else l.getD (firstM l) fly0 :: outTo k (l.eraseIdx (firstM l))
def outM (l : List FlyM) : List FlyM := outTo l.length l
theorem erase_perm : ∀ (l : List FlyM) (i : Nat), i < l.length → (l.getD i fly0 :: l.eraseIdx i).Perm l
  | x :: l, 0, _ => by simp
  | x :: l, i + 1, h => by
    have ih := erase_perm l i (by simpa using h)
    rw [List.getD_cons_succ, List.eraseIdx_cons_succ]
    exact (List.Perm.swap _ _ _).trans (ih.cons x)
theorem outTo_perm : ∀ k (l : List FlyM), l.length ≤ k → (outTo k l).Perm l
  | 0, l, h => by
    have : l = [] := List.eq_nil_of_length_eq_zero (by omega)
    subst this; exact List.Perm.refl _
  | k + 1, l, h => by
    unfold outTo
    by_cases e : l = []
    · rw [if_pos e, e]
    · rw [if_neg e]
      have hlt := firstM_lt l e
      exact ((outTo_perm k _ (by rw [List.length_eraseIdx_of_lt hlt]; omega)).cons _).trans (erase_perm l _ hlt)
theorem outM_perm (l : List FlyM) : (outM l).Perm l := outTo_perm _ _ (Nat.le_refl _)
theorem outTo_sorted : ∀ k (l : List FlyM), l.length ≤ k → (l.Pairwise fun a b => a.num < b.num) → (outTo k l).Pairwise before
  | 0, _, _, _ => List.Pairwise.nil
  | k + 1, l, h, hr => by
    unfold outTo
    by_cases e : l = []
    · rw [if_pos e]; exact List.Pairwise.nil
    · rw [if_neg e]
      have hlt := firstM_lt l e
      have hlen : (l.eraseIdx (firstM l)).length ≤ k := by rw [List.length_eraseIdx_of_lt hlt]; omega
      refine List.Pairwise.cons (fun g hg => ?_) (outTo_sorted k _ hlen (hr.sublist (List.eraseIdx_sublist _ _)))
      have hg' : g ∈ l.eraseIdx (firstM l) := (outTo_perm k _ hlen).subset hg
      have hgl : g ∈ l := List.mem_of_mem_eraseIdx hg'
      rcases first_all hr e g hgl with e2 | e2
      · exfalso
        obtain ⟨j, hj, ej⟩ := List.mem_eraseIdx_iff_getElem?.1 hg'
        have hjl : j < l.length := by
          rcases Nat.lt_or_ge j l.length with h | h
          · exact h
          · rw [List.getElem?_eq_none h] at ej; cases ej
        have eg : l[j] = g := by rw [List.getElem?_eq_getElem hjl] at ej; exact Option.some.inj ej
        have ef : l[firstM l] = g := by
          have e3 : g = l.getD (firstM l) fly0 := e2
          rw [List.getD_eq_getElem?_getD, List.getElem?_eq_getElem hlt] at e3
          exact e3.symm
        have hp := List.pairwise_iff_getElem.1 hr
        rcases Nat.lt_trichotomy j (firstM l) with h1 | h1 | h1
        · have := hp j _ hjl hlt h1; rw [eg, ef] at this; omega
        · exact hj h1
        · have := hp _ j hlt hjl h1; rw [eg, ef] at this; omega
      · exact e2
theorem outM_sorted {n : NetM} (h : Nums n) : (outM n.flights).Pairwise before := outTo_sorted _ _ (Nat.le_refl _) h.row
/-- There is one order alone. -/
theorem sorted_unique : ∀ (a b : List FlyM), a.Pairwise before → b.Pairwise before → a.Perm b → a = b
  | [], b, _, _, h => (List.Perm.nil_eq h).symm ▸ rfl
  | x :: a, b, ha, hb, h => by
    cases b with
    | nil => exact absurd h.symm (by intro h'; have := h'.length_eq; simp at this)
    | cons y b =>
      have ha' := List.pairwise_cons.1 ha
      have hb' := List.pairwise_cons.1 hb
      have exy : x = y := by
        have hx : x ∈ y :: b := h.subset List.mem_cons_self
        have hy : y ∈ x :: a := h.symm.subset List.mem_cons_self
        rcases List.mem_cons.1 hx with e | e
        · exact e
        · rcases List.mem_cons.1 hy with e2 | e2
          · exact e2.symm
          · have h1 := ha'.1 y e2
            have h2 := hb'.1 x e
            unfold before at h1 h2
            omega
      subst exy
      rw [sorted_unique a b ha'.2 hb'.2 (List.Perm.cons_inv h)]
end Go.Proofs.YtandblanpafjoabGreatDoor

