import Derived.Test.YtandblanpafjoabGreatDoorNetY
import Derived.Test.YtandblanpafjoabGreatDoorLists
import Derived.Test.YtandblanpafjoabGreatDoorNetH
namespace Go.Proofs.YtandblanpafjoabGreatDoor
open Go.RowKit Go.Extern.Stop Go.Stop Go.Extern

/-! Bounds of a net; rows beside it. -/
structure Bnd (m : NetM) (n s t d : Nat) : Prop where
  players : m.players = n
  sent : m.sent ≤ s
  now : m.now ≤ t
  drop : ∀ q, (m.peers q).dropped ≤ d
theorem Bnd.new (n win delay : Nat) (lags : List Int) : Bnd (newM n win delay lags) n 0 0 0 := ⟨rfl, Nat.le_refl _, Nat.le_refl _, fun _ => Nat.le_refl _⟩
theorem Bnd.adv {m : NetM} {n s t d : Nat} (h : Bnd m n s t d) (p : Nat) (v : Int) : Bnd (m.advance p v).2 n (s + n) t d := by
  unfold NetM.advance
  split
  · exact ⟨h.players, Nat.le_trans h.sent (by omega), h.now, h.drop⟩
  · split
    · exact ⟨h.players, Nat.le_trans h.sent (by omega), h.now, h.drop⟩
    · have h1 := sendTo_same (m.stepped p v) p m.players
      have h2 := sendTo_sent (m.stepped p v) p m.players
      have h3 : (m.stepped p v).sent = m.sent := rfl
      have h4 := h.sent
      have h5 := h.players
      refine ⟨h1.1.trans h.players, by show (sendTo (m.stepped p v) p m.players).sent ≤ s + n; omega, by show (sendTo (m.stepped p v) p m.players).now ≤ t; rw [h1.2.2.1]; exact h.now, fun q => ?_⟩
      show ((sendTo (m.stepped p v) p m.players).peers q).dropped ≤ d
      rw [h1.2.1, stepped_dropped]; exact h.drop q
theorem Bnd.goes {m : NetM} {n s t d : Nat} (h : Bnd m n s t d) (p : Nat) (ins : Nat → Int) : ∀ i, Bnd (goes m p ins i) n (s + i * n) t d
  | 0 => by simpa [Proofs.YtandblanpafjoabGreatDoor.goes] using h
  | i + 1 => by
    have := (Bnd.goes h p ins i).adv p (ins i)
    rw [Nat.succ_mul, ← Nat.add_assoc]
    exact this
theorem comeM_drop : ∀ k (m : NetM) (q : Nat), ((comeM k m).peers q).dropped ≤ (m.peers q).dropped + k
  | 0, m, q => Nat.le_refl _
  | k + 1, m, q => by
    simp only [comeM]
    split
    · omega
    · split
      · omega
      · have h1 := comeM_drop k (({ m with flights := m.flights.eraseIdx (firstM m.flights) } : NetM).take (m.flights.getD (firstM m.flights) fly0).to (m.flights.getD (firstM m.flights) fly0).bytes).2 q
        have h2 := (take_net ({ m with flights := m.flights.eraseIdx (firstM m.flights) } : NetM) (m.flights.getD (firstM m.flights) fly0).to (m.flights.getD (firstM m.flights) fly0).bytes).2.2.2 q
        have h3 : (({ m with flights := m.flights.eraseIdx (firstM m.flights) } : NetM).peers q).dropped = (m.peers q).dropped := rfl
        omega
theorem Bnd.tick {m : NetM} {n s t d : Nat} (h : Bnd m n s t d) (hf : m.flights.length ≤ m.sent) : Bnd m.tick n (s + n * n) (t + 1) (d + s) := by
  have h1 := comeM_same m.flights.length { m with now := m.now + 1 }
  have h2 := againAll_same (comeM m.flights.length { m with now := m.now + 1 }) (comeM m.flights.length { m with now := m.now + 1 }).players
  have h3 := againAll_sent (comeM m.flights.length { m with now := m.now + 1 }) (comeM m.flights.length { m with now := m.now + 1 }).players
  have e : m.tick = againAll (comeM m.flights.length { m with now := m.now + 1 }) (comeM m.flights.length { m with now := m.now + 1 }).players := rfl
  have hp : (comeM m.flights.length { m with now := m.now + 1 }).players = n := h1.1.trans h.players
  have hs : (comeM m.flights.length { m with now := m.now + 1 }).sent = m.sent := h1.2.1
  have hn : (comeM m.flights.length { m with now := m.now + 1 }).now = m.now + 1 := h1.2.2
  rw [e]
  have k1 := h.sent
  have k2 := h.now
  refine ⟨h2.1.trans hp, ?_, by rw [h2.2.2.1, hn]; omega, fun q => ?_⟩
  · rw [hp] at h3 ⊢; omega
  · rw [h2.2.1]
    have h4 := comeM_drop m.flights.length { m with now := m.now + 1 } q
    have h5 : (({ m with now := m.now + 1 } : NetM).peers q).dropped = (m.peers q).dropped := rfl
    have h6 := h.drop q
    omega
theorem NetQ.few {w : World} {g : Nat} {pv : Value} {pb : Nat → Nat} {F : Nat → Prop} {m : NetM} (h : NetQ w g pv pb F m) : m.flights.length ≤ m.sent := by
  obtain ⟨lv, wv, bl, l, Fp, hN, hF⟩ := h
  exact hN.numb.few
/-- Rows of bytes that lie apart from F. -/
def RowsF (w : World) (base : Nat) (F : Nat → Prop) (v : Value) (fs : List (List Int)) (j : Nat) (xs : List Value) : Prop :=
  w.ownsRow base 35 1 v j xs ∧ ListsAt w base fs j xs ∧ (∀ k, v.ownBlock = some k → ¬ F k) ∧ ∀ (i b n c : Nat), xs[i]? = some (Value.slice (some ⟨b, 0, none⟩) n c) → ¬ F b
theorem RowsF.keep {w w' : World} {base : Nat} {F F' : Nat → Prop} {v : Value} {fs : List (List Int)} {j : Nat} {xs : List Value} (h : RowsF w base F v fs j xs) (hs : ∀ k, k < w.heap.size → ¬ F k → w'.heap[k]? = w.heap[k]?) (hF : ∀ k, F' k → F k ∨ w.heap.size ≤ k) : RowsF w' base F' v fs j xs := by
  obtain ⟨h1, h2, h3, h4⟩ := h
  have hn : ∀ k, k < w.heap.size → ¬ F k → ¬ F' k := fun k hk hn e => by
    rcases hF k e with e | e
    · exact hn e
    · omega
  refine ⟨owns_same h1 (fun k hk => hs k (h1.lt k hk).2 (h3 k hk)), fun i hi => ?_, fun k hk => hn k (h1.lt k hk).2 (h3 k hk), fun i b n c e => ?_⟩
  · obtain ⟨b, c, e1, e2, e3⟩ := h2 i hi
    exact ⟨b, c, e1, e2, e3.same (hs b e3.lt (h4 i b _ c e1))⟩
  · have hi : i < j := by
      have := (List.getElem?_eq_some_iff.1 e).1
      have hl := h1.1
      omega
    obtain ⟨b', c', e1, e2, e3⟩ := h2 i hi
    rw [e] at e1
    injection e1 with e1
    injection e1 with e1 _ _
    injection e1 with e1
    injection e1 with e1 _ _
    subst e1
    exact hn b e3.lt (h4 i b n c e)
theorem RowsF.other {w W w5 : World} {base : Nat} {F : Nat → Prop} {v u : Value} {fs gs : List (List Int)} {j j' : Nat} {xs ys : List Value} (h : RowsF w base F u gs j' ys) (hv : RowsF w base F v fs j xs) (hW : Below w.heap.size w W) (hg : W.grownBy w5 v.ownBlock) (hne : ∀ k, u.ownBlock = some k → v.ownBlock ≠ some k) : RowsF w5 base F u gs j' ys := by
  obtain ⟨h1, h2, h3, h4⟩ := h
  have hz := hW.size
  have hvW : W.ownsRow base 35 1 v j xs := hv.1.kept (grown_below hW none) (by cases e : v.ownBlock <;> simp)
  refine ⟨owns_same h1 (fun k hk => (hg.block k (by have := (h1.lt k hk).2; omega) (Ne.symm (hne k hk))).trans (hW.block k (h1.lt k hk).2)), fun i hi => ?_, h3, h4⟩
  obtain ⟨b, c, e1, e2, e3⟩ := h2 i hi
  have hbW : Beg W b (gs.getD i []) := e3.below hW e3.lt
  exact ⟨b, c, e1, e2, hbW.same (hg.block b hbW.lt (own_ne' hvW hbW))⟩
theorem RowsF.push {w w5 : World} {base : Nat} {F : Nat → Prop} {v v' : Value} {fs : List (List Int)} {j : Nat} {xs : List Value} {p q : Int} (h : RowsF w base F v fs j xs) (hb : base ≤ w.heap.size) (hF : ∀ k, F k → k < w.heap.size) (hfs : fs.getD j [] = [p, q])
    (hown : w5.ownsRow base 35 1 v' (j + 1) (xs ++ [Value.slice (some ⟨w.heap.size, 0, none⟩) 2 2])) (hg : ((w.alloc (.cells #[.int .u8 p, .int .u8 q] 5)).alloc (.cells #[.slice (some ⟨w.heap.size, 0, none⟩) 2 2] 35)).grownBy w5 v.ownBlock) (hloc : v'.ownBlock = v.ownBlock ∨ ∃ k, v'.ownBlock = some k ∧ w.heap.size ≤ k) :
    RowsF w5 base F v' fs (j + 1) (xs ++ [Value.slice (some ⟨w.heap.size, 0, none⟩) 2 2]) := by
  obtain ⟨h1, h2, h3, h4⟩ := h
  have hW : Below w.heap.size w (w.alloc (.cells #[.int .u8 p, .int .u8 q] 5)) := (Below.refl _ w).alloc (Nat.le_refl _) _
  refine ⟨hown, lists_push h1 h2 hW (b := w.heap.size) (c := 2) hb ?_ _ (by rw [hfs]; rfl) hg, fun k hk => ?_, fun i b n c e => ?_⟩
  · rw [hfs]
    exact Beg.ofBlk (l := [p, q]) (Blk.new w _ _)
  · rcases hloc with e | ⟨k', e, hk'⟩
    · exact h3 k (by rw [← e]; exact hk)
    · rw [e] at hk; injection hk with hk; exact fun hF' => by have := hF k hF'; omega
  · by_cases hi : i < xs.length
    · rw [List.getElem?_append_left hi] at e
      exact h4 i b n c e
    · rw [List.getElem?_append_right (by omega)] at e
      have : i - xs.length = 0 := by
        have := (List.getElem?_eq_some_iff.1 e).1
        simp at this; omega
      rw [this] at e
      simp only [List.getElem?_cons_zero, Option.some.injEq] at e
      injection e with e _ _
      injection e with e
      injection e with e _ _
      exact fun hF' => by have := hF b hF'; omega
theorem play_frames (x : PeerM) (n : Nat) (fs : List (List Int)) (h : framesM x n fs.length = fs) (hfr : x.frame = fs.length) : stF n (insM x n) x.frame = playL n fs := by
  unfold playL
  rw [stF_play, hfr]
  apply stF_congr
  intro k hk
  rw [← framesM_get x n fs.length k hk, h]
end Go.Proofs.YtandblanpafjoabGreatDoor
