import Derived.Test.YtandblanpafjoabGreatDoorPack24
import Derived.Test.YtandblanpafjoabGreatDoorRows
import Derived.Test.YtandblanpafjoabGreatDoorPack05
import Derived.ChangeSame
import Derived.ChangeVars
import Derived.JoinedOf
import Derived.RowKit
import Derived.RowKitTokens
import Derived.LaidLaws
import Derived.LaidHandle
import Derived.Stop.Joined
namespace Go.Proofs.YtandblanpafjoabGreatDoor
open Go.RowKit

/-! Two peers, no lag: what is guessed, and what is heard at last. -/
def Lag0 (n : NetM) : Prop := n.lags = [0]
theorem Lag0.lag {n : NetM} (h : Lag0 n) : n.lag = 0 := by
  unfold Lag0 at h
  unfold NetM.lag
  rw [h]
  simp [Nat.mod_one]
theorem sendTo_app {n : NetM} (h : Lag0 n) (p : Nat) : ∀ k, ∃ ex, (sendTo n p k).flights = n.flights ++ ex ∧ (∀ q, q < k → q ≠ p → ∃ f ∈ ex, f.to = q ∧ f.bytes = packM (n.peers p) p q ∧ f.due = n.now)
  | 0 => ⟨[], by simp [sendTo], fun q hq => by omega⟩
  | k + 1 => by
    obtain ⟨ex, e1, e3⟩ := sendTo_app h p k
    obtain ⟨s1, s2, s3, s4, s5, s6⟩ := sendTo_same n p k
    have hl : Lag0 (sendTo n p k) := by unfold Lag0; rw [s6]; exact h
    unfold sendTo
    split
    · rename_i hh
      exact ⟨ex, e1, fun q hq hne => e3 q (by omega) hne⟩
    · have e : ((sendTo n p k).send p k).flights = (sendTo n p k).flights ++ [{ to := k, due := (sendTo n p k).now + (sendTo n p k).lag.toNat, num := (sendTo n p k).sent, bytes := packM ((sendTo n p k).peers p) p k }] := by simp [NetM.send, hl.lag]
      refine ⟨ex ++ [{ to := k, due := (sendTo n p k).now + (sendTo n p k).lag.toNat, num := (sendTo n p k).sent, bytes := packM ((sendTo n p k).peers p) p k }], by rw [e, e1, List.append_assoc], fun q hq hne => ?_⟩
      by_cases e : q = k
      · subst e
        refine ⟨_, List.mem_append_right _ (List.mem_singleton.2 rfl), rfl, by show packM ((sendTo n p q).peers p) p q = _; rw [s2], ?_⟩
        show (sendTo n p q).now + (sendTo n p q).lag.toNat = n.now
        rw [hl.lag, s3]; rfl
      · obtain ⟨f, hf, g⟩ := e3 q (by omega) hne
        exact ⟨f, List.mem_append_left _ hf, g⟩
/-- A peer knows all of another's inputs, or they are under way to it. -/
def Cov (n : NetM) (real : Nat → List Int) (p q : Nat) : Prop :=
  ((n.peers q).known p).length = (real p).length ∨ ∃ f ∈ n.flights, f.to = q ∧ fromL f.bytes = (p : Int) ∧ startL f.bytes + ((inputsL f.bytes).length : Int) = ((real p).length : Int) ∧ f.due ≤ n.now
theorem adv_ok {n : NetM} {p : Nat} (v : Int) (h1 : (n.peers p).frame < 200) (h2 : (n.peers p).frame < n.conf p + n.window) : n.advance p v = (0, sendTo (n.stepped p v) p n.players) := by
  unfold NetM.advance
  rw [if_neg (by omega), if_neg (by have := confTo_frame (n.peers p) n.players; unfold NetM.conf at *; omega)]
theorem cov_own {n : NetM} {real : Nat → List Int} (h : Inv n real) (j : Jnv n) (l0 : Lag0 n) {p q : Nat} (hp : p < n.players) (hq : q < n.players) (hne : q ≠ p) (v : Int) (hv : 0 ≤ v ∧ v ≤ 255) (h1 : (n.peers p).frame < 200) (h2 : (n.peers p).frame < n.conf p + n.window) :
    Cov (sendTo (n.stepped p v) p n.players) (grown real p v) p q := by
  have hs := h.stepped hp v hv h1 h2
  have js := j.stepped p v
  have l1 : Lag0 (n.stepped p v) := l0
  obtain ⟨ex, e1, e3⟩ := sendTo_app l1 p n.players
  obtain ⟨_, _, s3, _⟩ := sendTo_same (n.stepped p v) p n.players
  obtain ⟨f, hf, f1, f2, f3⟩ := e3 q hq hne
  have hp' : p < (n.stepped p v).players := hp
  have hq' : q < (n.stepped p v).players := hq
  obtain ⟨t1, t2, t3, t4⟩ := sent_parts hs hp' hq' (fun e => hne e.symm)
  have b1 := hs.len p hp'
  have b2 := hs.win p hp'
  have b3 : (n.stepped p v).conf p ≤ (((n.stepped p v).peers p).known q).length := confTo_known _ _ _ hq'
  have b4 := js.known p q hp' hq' (fun e => hne e.symm)
  have b5 := js.win8
  have b6 := hs.hd
  have b7 := hs.ack p q hp' hq' (fun e => hne e.symm)
  have b8 := hs.knownLe hq' hp'
  right
  refine ⟨f, by rw [e1]; exact List.mem_append_right _ hf, f1, by rw [f2, t1], ?_, by rw [s3, f3]; exact Nat.le_refl _⟩
  rw [f2, t2, t4, List.length_take, List.length_drop]
  omega
theorem cov_other {n : NetM} {real : Nat → List Int} {p a q : Nat} (v : Int) (hne : a ≠ p) (h : Cov n real a q) (l0 : Lag0 n) : Cov (sendTo (n.stepped p v) p n.players) (grown real p v) a q := by
  have l1 : Lag0 (n.stepped p v) := l0
  obtain ⟨ex, e1, _⟩ := sendTo_app l1 p n.players
  obtain ⟨_, s2, s3, _⟩ := sendTo_same (n.stepped p v) p n.players
  unfold Cov at h ⊢
  rw [grown_other _ _ _ _ hne, s2, stepped_known, if_neg (fun e => hne e.2), s3, e1]
  rcases h with h | ⟨f, hf, g⟩
  · exact .inl h
  · exact .inr ⟨f, List.mem_append_left _ hf, g⟩

/-- A peer goes on c times. -/
def more (real : Nat → List Int) (k : Nat) (v : Int) : Nat → Nat → List Int
  | 0 => real
  | i + 1 => grown (more real k v i) k v
theorem more_same (real : Nat → List Int) (k : Nat) (v : Int) : ∀ i, more real k v i k = real k ++ List.replicate i v
  | 0 => by simp [more]
  | i + 1 => by
    show grown (more real k v i) k v k = _
    rw [grown_same, more_same real k v i, List.append_assoc, List.replicate_succ']
theorem more_other (real : Nat → List Int) (k q : Nat) (v : Int) (h : q ≠ k) : ∀ i, more real k v i q = real q
  | 0 => rfl
  | i + 1 => by
    show grown (more real k v i) k v q = _
    rw [grown_other _ _ _ _ h, more_other real k q v h i]
theorem goes_ok {n : NetM} {real : Nat → List Int} (h : Inv n real) (j : Jnv n) (l0 : Lag0 n) {k : Nat} (hk : k < n.players) (v : Int) (hv : 0 ≤ v ∧ v ≤ 255) : ∀ i, (n.peers k).frame + i ≤ 200 → (n.peers k).frame + i ≤ n.conf k + n.window →
    Inv (goes n k (fun _ => v) i) (more real k v i) ∧ Jnv (goes n k (fun _ => v) i) ∧ Lag0 (goes n k (fun _ => v) i) ∧ (goes n k (fun _ => v) i).players = n.players ∧ (goes n k (fun _ => v) i).window = n.window ∧ (goes n k (fun _ => v) i).now = n.now ∧
    ((goes n k (fun _ => v) i).peers k).frame = (n.peers k).frame + i ∧ n.conf k ≤ (goes n k (fun _ => v) i).conf k ∧ (∀ a, a ≠ k → (goes n k (fun _ => v) i).peers a = n.peers a) ∧ (∀ q, q ≠ k → ((goes n k (fun _ => v) i).peers k).known q = (n.peers k).known q) ∧
    (∀ a q, a ≠ k → Cov n real a q → Cov (goes n k (fun _ => v) i) (more real k v i) a q) ∧ (∀ q, q < n.players → q ≠ k → (Cov n real k q ∨ 1 ≤ i) → Cov (goes n k (fun _ => v) i) (more real k v i) k q) ∧ (∀ m, m < i → ((goes n k (fun _ => v) m).advance k v).1 = 0)
  | 0, _, _ => ⟨h, j, l0, rfl, rfl, rfl, rfl, Nat.le_refl _, fun _ _ => rfl, fun _ _ => rfl, fun _ _ _ hc => hc, fun q _ _ hc => by
      rcases hc with hc | hc
      · exact hc
      · omega, fun m hm => by omega⟩
  | i + 1, h1, h2 => by
    obtain ⟨a1, a2, a3, a4, a5, a6, a7, a8, a9, a10, a11, a12, a13⟩ := goes_ok h j l0 hk v hv i (by omega) (by omega)
    have hk' : k < (goes n k (fun _ => v) i).players := by rw [a4]; exact hk
    have hadv := adv_ok (n := goes n k (fun _ => v) i) (p := k) v (by omega) (by omega)
    have hI := a1.advance hk' v hv
    have hJ := Jnv.advance a1 a2 hk' v hv
    rw [hadv] at hI hJ
    simp only [if_true] at hI
    have hg : goes n k (fun _ => v) (i + 1) = sendTo ((goes n k (fun _ => v) i).stepped k v) k (goes n k (fun _ => v) i).players := by
      show ((goes n k (fun _ => v) i).advance k v).2 = _
      rw [hadv]
    have hkind : ∀ m, m < i + 1 → ((goes n k (fun _ => v) m).advance k v).1 = 0 := fun m hm => by
      by_cases e : m = i
      · subst e; rw [hadv]
      · exact a13 m (by omega)
    have c1 := fun q (hq : q < (goes n k (fun _ => v) i).players) (hne : q ≠ k) => cov_own a1 a2 a3 hk' hq hne v hv (by omega) (by omega)
    have c2 := fun a q (hne : a ≠ k) (hc : Cov (goes n k (fun _ => v) i) (more real k v i) a q) => cov_other v hne hc a3
    rw [hg]
    generalize goes n k (fun _ => v) i = g at *
    obtain ⟨s1, s2, s3, s4, s5, s6⟩ := sendTo_same (g.stepped k v) k g.players
    refine ⟨hI, hJ, by unfold Lag0; rw [s6]; exact a3, s1.trans a4, s5.trans a5, s3.trans a6, ?_, ?_, fun a ha => ?_, fun q hq => ?_, fun a q ha hc => c2 a q ha (a11 a q ha hc), fun q hq hne _ => c1 q (by rw [a4]; exact hq) hne, hkind⟩
    · rw [s2, stepped_frame, if_pos rfl, a7]; omega
    · refine Nat.le_trans a8 ?_
      unfold NetM.conf
      rw [s1, s2]
      exact confTo_mono (by rw [stepped_frame, if_pos rfl]; omega) _ (fun q _ => stepped_len g k k q v)
    · rw [s2]
      show (if a = k then _ else g.peers a) = _
      rw [if_neg ha]; exact a9 a ha
    · rw [s2, stepped_known, if_neg (fun e => hq e.2)]; exact a10 q hq
theorem Full.frames {n : NetM} {real : Nat → List Int} (h : Inv n real) (hF : Full n real) {p f : Nat} (hp : p < n.players) (hf : ∀ q, q < n.players → f ≤ (real q).length) : framesM (n.peers p) n.players f = rowsM real n.players f := by
  unfold framesM rowsM
  apply List.map_congr_left
  intro k hk
  have hk := List.mem_range.1 hk
  unfold insM
  apply List.map_congr_left
  intro q hq
  have hq := List.mem_range.1 hq
  obtain ⟨m, hm, e⟩ := h.pre p q hp hq
  have h1 := hF p q hp hq
  have h2 := hf q hq
  unfold inputM
  rw [if_pos (by omega)]
  have : m = (real q).length := by rw [e, List.length_take] at h1; omega
  rw [e, this, List.take_length]

/-- The whole play of Guessed. -/
theorem guessed (a b : Int) (ha : 0 ≤ a ∧ a ≤ 255) (hb : 0 ≤ b ∧ b ≤ 255) (c : Nat) (hc1 : 1 ≤ c) (hc7 : c ≤ 7) :
    ((newM 2 8 0 [0]).advance 1 a).1 = 0 ∧
    (∀ m, m < c → ((goes ((newM 2 8 0 [0]).advance 1 a).2.tick 0 (fun _ => 4) m).advance 0 4).1 = 0) ∧
    ((goes ((newM 2 8 0 [0]).advance 1 a).2.tick 0 (fun _ => 4) c).peers 0).frame = c ∧
    framesM ((goes ((newM 2 8 0 [0]).advance 1 a).2.tick 0 (fun _ => 4) c).peers 0) 2 c = (List.range c).map (fun _ => [4, a]) ∧
    (∀ m, m < c - 1 → ((goes (goes ((newM 2 8 0 [0]).advance 1 a).2.tick 0 (fun _ => 4) c) 1 (fun _ => b) m).advance 1 b).1 = 0) ∧
    (∀ p, p < 2 → ((goes (goes ((newM 2 8 0 [0]).advance 1 a).2.tick 0 (fun _ => 4) c) 1 (fun _ => b) (c - 1)).tick.peers p).frame = c ∧
      framesM ((goes (goes ((newM 2 8 0 [0]).advance 1 a).2.tick 0 (fun _ => 4) c) 1 (fun _ => b) (c - 1)).tick.peers p) 2 c = (List.range c).map (fun i => [4, if i = 0 then a else b])) := by
  have i0 := Inv.new 2 8 0 [0] ⟨by omega, by omega⟩ (by omega)
  have j0 := Jnv.new 2 8 0 [0] (by omega) (fun x hx => by rw [List.mem_singleton.1 hx]; exact ⟨by decide, by decide⟩)
  have l0 : Lag0 (newM 2 8 0 [0]) := rfl
  have hadv := adv_ok (n := newM 2 8 0 [0]) (p := 1) a (by simp [newM]) (by simp [newM])
  have hg1 : ((newM 2 8 0 [0]).advance 1 a).2 = goes (newM 2 8 0 [0]) 1 (fun _ => a) 1 := rfl
  obtain ⟨a1, a2, a3, a4, a5, a6, a7, _, a9, _, _, a12, _⟩ := goes_ok i0 j0 l0 (k := 1) (by simp [newM]) a ha 1 (by simp [newM]) (by simp [newM])
  rw [hg1]
  refine ⟨by rw [hadv], ?_⟩
  have hP1 : Pend (goes (newM 2 8 0 [0]) 1 (fun _ => a) 1) (more (fun _ => List.replicate 0 0) 1 a 1) (goes (newM 2 8 0 [0]) 1 (fun _ => a) 1).now := by
    intro p q hp hq hne
    rw [a4] at hp hq
    have hp2 : p < 2 := hp
    have hq2 : q < 2 := hq
    by_cases e : p = 1
    · subst e
      exact a12 q hq (fun e => hne e.symm) (.inr (by omega))
    · left
      have hp0 : p = 0 := by omega
      subst hp0
      have hq1 : q = 1 := by omega
      subst hq1
      have := a1.knownLe (p := 1) (q := 0) (by rw [a4]; exact hq) (by rw [a4]; exact hp)
      rw [more_other _ _ _ _ (by omega)] at this ⊢
      simp at this ⊢
      exact this
  have hF2 := (pend_tick a1 a2 hP1).2 (by omega)
  obtain ⟨m2, ex2, b1, b2, _, _, _, _, _, _, _, b11, b12, b13, b14⟩ := tick_spec a1 a2
  have b3 : Lag0 (goes (newM 2 8 0 [0]) 1 (fun _ => a) 1).tick := by
    unfold Lag0
    have := (againAll_same (comeM (goes (newM 2 8 0 [0]) 1 (fun _ => a) 1).flights.length { goes (newM 2 8 0 [0]) 1 (fun _ => a) 1 with now := (goes (newM 2 8 0 [0]) 1 (fun _ => a) 1).now + 1 }) (comeM (goes (newM 2 8 0 [0]) 1 (fun _ => a) 1).flights.length { goes (newM 2 8 0 [0]) 1 (fun _ => a) 1 with now := (goes (newM 2 8 0 [0]) 1 (fun _ => a) 1).now + 1 }).players).2.2.2.2.2
    have h2 := (come_spec (goes (newM 2 8 0 [0]) 1 (fun _ => a) 1).flights.length { goes (newM 2 8 0 [0]) 1 (fun _ => a) 1 with now := (goes (newM 2 8 0 [0]) 1 (fun _ => a) 1).now + 1 } (a1.later _) (a2.later _ (by omega)) (Nat.le_refl _)).2.2.2.2.2.1.2.2.2.2
    exact (this.trans h2).trans a3
  have R1 : more (fun _ => List.replicate 0 0) 1 a 1 1 = [a] := by rw [more_same]; rfl
  have R0 : more (fun _ => List.replicate 0 0) 1 a 1 0 = [] := by rw [more_other _ _ _ _ (by omega)]; rfl
  generalize more (fun _ => List.replicate 0 0) 1 a 1 = r1 at *
  rw [a4] at b11
  rw [a5] at b14
  clear hadv hg1 a1 a2 a3 a4 a5 a6 a7 a9 a12 hP1 i0 j0 l0
  generalize (goes (newM 2 8 0 [0]) 1 (fun _ => a) 1).tick = n2 at *
  have P2 : n2.players = 2 := b11
  have W2 : n2.window = 8 := b14
  have D2 : n2.delay = 0 := by rw [b13]; rfl
  have fr0 := b1.len 0 (by omega)
  have fr1 := b1.len 1 (by omega)
  rw [R0, D2] at fr0
  rw [R1, D2] at fr1
  simp at fr0 fr1
  have k01 : (n2.peers 0).known 1 = [a] := by
    obtain ⟨m, hm, e⟩ := b1.pre 0 1 (by omega) (by omega)
    have := hF2 0 1 (by omega) (by omega)
    rw [e, R1, List.length_take] at this
    rw [e, R1]
    exact List.take_of_length_le (by simp at this ⊢; omega)
  obtain ⟨c1, c2, c3, c4, c5, c6, c7, _, c9, c10, c11, c12, c13⟩ := goes_ok b1 b2 b3 (k := 0) (by omega) 4 ⟨by omega, by omega⟩ c (by omega) (by omega)
  have C10 := c11 1 0 (by omega) (.inl (hF2 0 1 (by omega) (by omega)))
  have C01 := c12 1 (by omega) (by omega) (.inr hc1)
  have Q0 : more r1 0 4 c 0 = List.replicate c 4 := by rw [more_same, R0]; rfl
  have Q1 : more r1 0 4 c 1 = [a] := by rw [more_other _ _ _ _ (by omega), R1]
  have own0 := c1.own 0 (by omega)
  have p1same := c9 1 (by omega)
  have k01' := c10 1 (by omega)
  rw [k01] at k01'
  refine ⟨c13, by rw [c7]; omega, ?_, ?_⟩
  · unfold framesM
    apply List.map_congr_left
    intro k hk
    have hk := List.mem_range.1 hk
    have e0 : inputM ((goes n2 0 (fun _ => 4) c).peers 0) 0 k = 4 := by
      unfold inputM
      rw [own0, Q0, if_pos (by simp; omega), List.getD_eq_getElem?_getD, List.getElem?_replicate, if_pos hk]; rfl
    have e1 : inputM ((goes n2 0 (fun _ => 4) c).peers 0) 1 k = a := by
      unfold inputM
      rw [k01']
      by_cases hk0 : k < 1
      · have : k = 0 := by omega
        subst this
        simp
      · rw [if_neg (by simp; omega)]; simp
    simp [insM, List.range_succ, e0, e1]
  · have cf : ((goes n2 0 (fun _ => 4) c).peers 1).frame = 1 := by rw [p1same]; exact fr1
    generalize more r1 0 4 c = r2 at *
    generalize goes n2 0 (fun _ => 4) c = n3 at *
    have P3 : n3.players = 2 := by omega
    have W3 : n3.window = 8 := by omega
    have D3 : n3.delay = 0 := by
      have := c1.len 1 (by omega)
      rw [cf, Q1] at this
      simp at this
      exact this
    obtain ⟨d1, d2, d3, d4, d5, d6, d7, _, _, _, d11, d12, d13⟩ := goes_ok c1 c2 c3 (k := 1) (by omega) b hb (c - 1) (by omega) (by omega)
    have E01 := d11 0 1 (by omega) C01
    have E10 := d12 0 (by omega) (by omega) (.inl C10)
    have S0 : more r2 1 b (c - 1) 0 = List.replicate c 4 := by rw [more_other _ _ _ _ (by omega), Q0]
    have S1 : more r2 1 b (c - 1) 1 = a :: List.replicate (c - 1) b := by rw [more_same, Q1]; rfl
    refine ⟨d13, ?_⟩
    generalize more r2 1 b (c - 1) = r3 at *
    generalize goes n3 1 (fun _ => b) (c - 1) = n4 at *
    have hP4 : Pend n4 r3 n4.now := by
      intro p q hp hq hne
      have hp2 : p < 2 := by omega
      have hq2 : q < 2 := by omega
      by_cases e : p = 0
      · subst e
        have : q = 1 := by omega
        subst this
        exact E01
      · have : p = 1 := by omega
        subst this
        have : q = 0 := by omega
        subst this
        exact E10
    have hF5 := (pend_tick d1 d2 hP4).2 (by omega)
    obtain ⟨_, _, e1, e2, _, _, _, _, _, _, _, e11, _, e13, _⟩ := tick_spec d1 d2
    have P5 : n4.tick.players = 2 := by omega
    have hr : rowsM r3 2 c = (List.range c).map (fun i => [4, if i = 0 then a else b]) := by
      unfold rowsM
      apply List.map_congr_left
      intro k hk
      have hk := List.mem_range.1 hk
      have x0 : (r3 0).getD k 0 = 4 := by rw [S0, List.getD_eq_getElem?_getD, List.getElem?_replicate, if_pos hk]; rfl
      have x1 : (r3 1).getD k 0 = if k = 0 then a else b := by
        rw [S1]
        cases k with
        | zero => simp
        | succ k => rw [List.getD_cons_succ, List.getD_eq_getElem?_getD, List.getElem?_replicate, if_pos (by omega), if_neg (by omega)]; rfl
      simp only [List.range_succ, List.range_zero, List.nil_append, List.map_cons, List.map_nil, List.cons_append, x0, x1]
    intro p hp
    have hlens : ∀ q, q < n4.tick.players → c ≤ (r3 q).length := by
      intro q hq
      have : q = 0 ∨ q = 1 := by omega
      rcases this with rfl | rfl
      · rw [S0]; simp
      · rw [S1]; simp; omega
    have hfp := e1.len p (by omega)
    have D5 : n4.tick.delay = 0 := by
      have h0 := d1.len 1 (by omega)
      rw [d7, cf, S1] at h0
      simp at h0
      rw [e13]; omega
    have hrl : (r3 p).length = c := by
      have : p = 0 ∨ p = 1 := by omega
      rcases this with rfl | rfl
      · rw [S0]; simp
      · rw [S1]; simp; omega
    refine ⟨by omega, ?_⟩
    have := Full.frames e1 hF5 (p := p) (f := c) (by omega) hlens
    rw [P5] at this
    rw [this, hr]
end Go.Proofs.YtandblanpafjoabGreatDoor

/-! What the listed variable (errors.errorType) gives a walk; a world that meets the condition. -/
namespace Go.Proofs.YtandblanpafjoabGreatDoor
open Go.ChangeShapes Go.WideShapes Go.RowKit

theorem Tryz.own : ownKnob Tryz.prog.godebug = none := by kernel_rfl
theorem Tryz.et : Tryz.prog.globalNamed "errors.errorType" = some 0 := by kernel_rfl
theorem Tryz.rt : (Tryz.prog.cutTypes.find? (·.1 == "internal/reflectlite.rtype")).map (·.2) = some 192 := by kernel_rfl
theorem Tryz.oneRow : ((List.range 297).filter fun t => Tryz.prog.rowNamed t [101, 114, 114, 111, 114]) = [68] := by kernel_rfl
theorem Tryz.tsize : Tryz.prog.types.size = 297 := by kernel_rfl
def theLaid : List (String × DataW Unit) := [("errors.errorType", Rows.laid_errors_errorType)]

theorem laid_of_met {W : World} (h : laidMetH Tryz.prog theLaid W) : Laid W := by
  have h' : laidMet Tryz.prog [] W ∧ handlesMet Tryz.prog theLaid W := h
  obtain ⟨name, u, ty, e1, e2, e3, e4, e5⟩ := h'.2 _ (List.mem_singleton.2 rfl)
  have en : name = [101, 114, 114, 111, 114] := (Option.some.inj e1).symm
  subst en
  obtain rfl := Option.some.inj (Tryz.rt.symm.trans e2)
  have hm : ty ∈ (List.range 297).filter fun t => Tryz.prog.rowNamed t [101, 114, 114, 111, 114] := List.mem_filter.2 ⟨List.mem_range.2 (by rw [← Tryz.tsize]; exact e3), e4⟩
  rw [Tryz.oneRow] at hm
  obtain rfl := List.mem_singleton.1 hm
  have hh : typeHandle Tryz.prog 68 = .pointer (some ⟨1, 68, none⟩) := by kernel_rfl
  rw [hh] at e5
  have := World.var?_cell Tryz.et e5 0
  unfold Laid
  simpa using this

noncomputable def laidWorld (os : Os) : World :=
  let w0 := World.holding Tryz.prog os ⟨#[], #[], []⟩
  { w0 with heap := w0.heap.modify 0 fun
      | .cells _ t frozen => .cells #[.iface 192 (.agg #[.pointer (some ⟨1, 68, none⟩)])] t frozen
      | o => o }
theorem laidWorld_met (os : Os) (args : Array Value) : laidMetH Tryz.prog theLaid ((laidWorld os).forCall (fun _ _ => 0) ⟨#[], args, []⟩).memory :=
  laidMetH_of_parts (laidMet_nil _ _) (by kernel_rfl)
end Go.Proofs.YtandblanpafjoabGreatDoor

