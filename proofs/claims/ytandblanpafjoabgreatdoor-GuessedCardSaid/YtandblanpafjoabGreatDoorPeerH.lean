import Derived.Test.YtandblanpafjoabGreatDoorPeerF
namespace Go.Proofs.YtandblanpafjoabGreatDoor
open Go.RowKit Go.Extern.Stop Go.Stop Go.Extern

/-! One more input of one's own, in memory. -/
def updV (v : Nat → Value) (q : Nat) (u : Value) : Nat → Value := fun k => if k = q then u else v k
theorem pCells_set (num n win delay dropped q : Nat) (v : Nat → Value) (ak : Nat → Nat) (st u : Value) (hq : q < 4) : (pCells num n win delay dropped v ak st).toArray.setIfInBounds (5 + q) u = (pCells num n win delay dropped (updV v q u) ak st).toArray := by
  rcases q with _ | _ | _ | _ | q
  · simp [pCells, updV]
  · simp [pCells, updV]
  · simp [pCells, updV]
  · simp [pCells, updV]
  · omega
/-- What is known of q has grown: its slice lies where it lay, or in a new block. -/
theorem PeerK.learn {w w3 : World} {b : Nat} {F FS : Nat → Prop} {num n win delay : Nat} {x : PeerM} {v : Nat → Value} {st : Value} (h : PeerK w b F FS num n win delay x v st) {q m : Nat} (hq : q < n) {l : List Int} {u : Value} (hl : l.length ≤ 203)
    (hlt : ∀ k, F k → k < w.heap.size) (hm : w.heap.size ≤ m) (hs : ∀ k, k < w.heap.size → (v q).ownBlock ≠ some k → w3.heap[k]? = w.heap[k]?) (hown : w3.ownsRow 0 5 1 u l.length (l.map (Value.int .u8))) (hloc : u.ownBlock = (v q).ownBlock ∨ u.ownBlock = some m) :
    PeerK (w3.setCell ⟨b, 5 + q, none⟩ u) b (fun k => F k ∨ u.ownBlock = some k) FS num n win delay (x.learn q l) (updV v q u) st := by
  have hn4 := h.hn4
  have hub : u.ownBlock ≠ some b := by
    rcases hloc with e | e
    · rw [e]; exact fun e' => (h.fk q b hq e').2.1 rfl
    · rw [e]; intro e'; injection e' with e'; have := hlt b h.fb; omega
  have hun : ∀ k, u.ownBlock = some k → ¬ FS k ∧ k ≠ b ∧ ∀ q', q' < n → q' ≠ q → (v q').ownBlock ≠ some k := by
    intro k hk
    rcases hloc with e | e
    · rw [e] at hk
      exact ⟨(h.fk q k hq hk).2.2, (h.fk q k hq hk).2.1, fun q' hq' hne e' => hne (h.fd q' q k hq' hq e' hk)⟩
    · rw [e] at hk
      injection hk with hk
      subst hk
      exact ⟨fun hF => by have := hlt _ (h.fs _ hF).1; omega, fun e' => by have := hlt b h.fb; omega, fun q' hq' _ e' => by have := hlt _ (h.fk q' _ hq' e').1; omega⟩
  refine ⟨?_, ?_, ?_, ?_, .inl h.fb, ?_, ?_, fun k hk => ⟨.inl (h.fs k hk).1, (h.fs k hk).2⟩, h.hn2, h.hn4, h.hw, h.hnum, h.drop⟩
  · have hb3 : Blk w3 b (pCells num n win delay x.dropped v (fun q => if q < n then x.acked q else 0) st).toArray 122 := (hs b (hlt b h.fb) (fun e => (h.fk q b hq e).2.1 rfl)).trans h.blk
    have := hb3.set (5 + q) u
    rw [pCells_set num n win delay x.dropped q v _ st u (by omega)] at this
    exact this
  · intro q' hq'
    by_cases e : q' = q
    · subst e
      simp only [PeerM.learn, updV, if_true]
      exact owns_same hown (fun k hk => heap_setCell_other _ _ _ _ (fun e => (hun k hk).2.1 e))
    · simp only [PeerM.learn, updV, e, if_false]
      refine owns_same (h.known q' hq') (fun k hk => ?_)
      rw [heap_setCell_other _ _ _ _ (fun e => (h.fk q' k hq' hk).2.1 e)]
      exact hs k (hlt k (h.fk q' k hq' hk).1) (fun e' => e (h.fd q' q k hq' hq hk e'))
  · intro q' hq'
    simp only [updV]
    rw [if_neg (by omega)]; exact h.nils q' hq'
  · intro q' hq'
    simp only [PeerM.learn]
    split
    · exact hl
    · exact h.lens q' hq'
  · intro q' k hq' hk
    by_cases e : q' = q
    · subst e
      simp only [updV, if_true] at hk
      exact ⟨.inr hk, (hun k hk).2.1, (hun k hk).1⟩
    · simp only [updV, e, if_false] at hk
      exact ⟨.inl (h.fk q' k hq' hk).1, (h.fk q' k hq' hk).2⟩
  · intro q1 q2 k h1 h2 e1 e2
    by_cases a1 : q1 = q
    · by_cases a2 : q2 = q
      · rw [a1, a2]
      · simp only [updV, a1, a2, if_true, if_false] at e1 e2
        exact absurd e2 ((hun k e1).2.2 q2 h2 a2)
    · by_cases a2 : q2 = q
      · simp only [updV, a1, a2, if_true, if_false] at e1 e2
        exact absurd e1 ((hun k e2).2.2 q1 h1 a1)
      · simp only [updV, a1, a2, if_false] at e1 e2
        exact h.fd q1 q2 k h1 h2 e1 e2
theorem PeerK.but {w w' : World} {b : Nat} {F FS : Nat → Prop} {num n win delay : Nat} {x : PeerM} {v : Nat → Value} {st : Value} (h : PeerK w b F FS num n win delay x v st) (hs : ∀ k, F k → ¬ FS k → w'.heap[k]? = w.heap[k]?) : PeerK w' b F FS num n win delay x v st :=
  ⟨(hs b h.fb (fun e => (h.fs b e).2 rfl)).trans h.blk, fun q hq => owns_same (h.known q hq) (fun k hk => hs k (h.fk q k hq hk).1 (h.fk q k hq hk).2.2), h.nils, h.lens, h.fb, h.fk, h.fd, h.fs, h.hn2, h.hn4, h.hw, h.hnum, h.drop⟩
end Go.Proofs.YtandblanpafjoabGreatDoor
