import Derived.Test.YtandblanpafjoabGreatDoorNetE
namespace Go.Proofs.YtandblanpafjoabGreatDoor
open Go.RowKit

/-! What is confirmed, where all know all; a peer that hears nothing stalls. -/
theorem confTo_ge (x : PeerM) (c : Nat) (hf : c ≤ x.frame) : ∀ k, (∀ q, q < k → c ≤ (x.known q).length) → c ≤ confTo x k
  | 0, _ => hf
  | k + 1, h => by
    unfold confTo
    have := confTo_ge x c hf k (fun q hq => h q (by omega))
    have := h k (by omega)
    omega
/-- The least of a frame and of how long rows are. -/
def leastTo (real : Nat → List Int) (f : Nat) : Nat → Nat
  | 0 => f
  | q + 1 => min (leastTo real f q) (real q).length
theorem Full.conf {n : NetM} {real : Nat → List Int} (h : Full n real) {p : Nat} (hp : p < n.players) : n.conf p = leastTo real (n.peers p).frame n.players := by
  unfold NetM.conf
  have : ∀ k, k ≤ n.players → confTo (n.peers p) k = leastTo real (n.peers p).frame k := by
    intro k
    induction k with
    | zero => intro _; rfl
    | succ k ih =>
      intro hk
      unfold confTo leastTo
      rw [ih (by omega), h p k hp (by omega)]
  exact this _ (Nat.le_refl _)
/-- After twenty ticks. -/
theorem settled {n : NetM} {real : Nat → List Int} (h : Inv n real) (j : Jnv n) : Inv (ticks n 20) real ∧ Full (ticks n 20) real ∧ (ticks n 20).players = n.players ∧ (ticks n 20).flights.length ≤ 8 * (n.players * n.players) := by
  obtain ⟨h1, _, _, h4, _, h6, _, h8⟩ := ticks_spec h j 20
  exact ⟨h1, h6 (by omega), h4, Nat.le_trans (h8 (by omega)) (by omega)⟩

def goes (n : NetM) (k : Nat) (ins : Nat → Int) : Nat → NetM
  | 0 => n
  | i + 1 => ((goes n k ins i).advance k (ins i)).2
theorem stall_at {players window delay : Nat} {lags : List Int} (hp : 2 ≤ players) (hw : 1 ≤ window ∧ window ≤ 8) (hd : delay ≤ 3) (k : Nat) (hk : k < players) (ins : Nat → Int) : ∀ i, i ≤ window + delay →
    ((goes (newM players window delay lags) k ins i).players = players ∧ (goes (newM players window delay lags) k ins i).window = window ∧ ((goes (newM players window delay lags) k ins i).peers k).frame = i ∧ (((goes (newM players window delay lags) k ins i).peers k).known k).length = delay + i ∧ (∀ q, q ≠ k → (((goes (newM players window delay lags) k ins i).peers k).known q).length = delay)) ∧
    (goes (newM players window delay lags) k ins i).conf k = min i delay ∧ ((goes (newM players window delay lags) k ins i).advance k (ins i)).1 = if i < window + delay then 0 else 4
  | 0, hi => by
    have hc : (newM players window delay lags).conf k = min 0 delay := by
      have := confTo_frame ((newM players window delay lags).peers k) players
      simp [newM] at this
      rw [Nat.zero_min]
      exact this
    refine ⟨⟨rfl, rfl, rfl, by simp [goes, newM], fun q _ => by simp [goes, newM]⟩, hc, ?_⟩
    show ((newM players window delay lags).advance k (ins 0)).1 = _
    unfold NetM.advance
    rw [hc, if_neg (by simp [newM]), if_neg (by simp [newM]; omega), if_pos (by omega)]
  | i + 1, hi => by
    obtain ⟨⟨a1, a2, a3, a4, a5⟩, a6, a7⟩ := stall_at (lags := lags) hp hw hd k hk ins i (by omega)
    have hadv : (goes (newM players window delay lags) k ins (i + 1)) = sendTo ((goes (newM players window delay lags) k ins i).stepped k (ins i)) k players := by
      show ((goes (newM players window delay lags) k ins i).advance k (ins i)).2 = _
      unfold NetM.advance
      rw [if_neg (by omega), if_neg (by rw [a2, a3, a6]; omega), a1]
    rw [hadv]
    generalize goes (newM players window delay lags) k ins i = g at *
    obtain ⟨s1, s2, _, _, s5, _⟩ := sendTo_same (g.stepped k (ins i)) k players
    have f1 : ((sendTo (g.stepped k (ins i)) k players).peers k).frame = i + 1 := by rw [s2, stepped_frame, if_pos rfl, a3]
    have f2 : (((sendTo (g.stepped k (ins i)) k players).peers k).known k).length = delay + (i + 1) := by rw [s2, stepped_known, if_pos ⟨rfl, rfl⟩]; simp; omega
    have f3 : ∀ q, q ≠ k → (((sendTo (g.stepped k (ins i)) k players).peers k).known q).length = delay := fun q hq => by rw [s2, stepped_known, if_neg (fun e => hq e.2)]; exact a5 q hq
    have f4 : (sendTo (g.stepped k (ins i)) k players).players = players := s1.trans a1
    have f5 : (sendTo (g.stepped k (ins i)) k players).window = window := s5.trans a2
    have hc : (sendTo (g.stepped k (ins i)) k players).conf k = min (i + 1) delay := by
      unfold NetM.conf
      rw [f4]
      have c1 := confTo_frame ((sendTo (g.stepped k (ins i)) k players).peers k) players
      rw [f1] at c1
      obtain ⟨q, hq, hqk⟩ : ∃ q, q < players ∧ q ≠ k := by
        by_cases e : k = 0
        · exact ⟨1, by omega, by omega⟩
        · exact ⟨0, by omega, by omega⟩
      have c2 := confTo_known ((sendTo (g.stepped k (ins i)) k players).peers k) players q hq
      rw [f3 q hqk] at c2
      have c3 := confTo_ge ((sendTo (g.stepped k (ins i)) k players).peers k) (min (i + 1) delay) (by rw [f1]; omega) players (fun r _ => by
        by_cases e : r = k
        · rw [e, f2]; omega
        · rw [f3 r e]; omega)
      omega
    refine ⟨⟨f4, f5, f1, f2, f3⟩, hc, ?_⟩
    unfold NetM.advance
    rw [f1, f5, hc, if_neg (by omega)]
    by_cases hl : i + 1 < window + delay
    · rw [if_neg (by omega), if_pos hl]
    · rw [if_pos (by omega), if_neg hl]
end Go.Proofs.YtandblanpafjoabGreatDoor
