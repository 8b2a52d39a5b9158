import Derived.Test.YtandblanpafjoabGreatDoorPack37
import Derived.Test.YtandblanpafjoabGreatDoorPack06
import Derived.Test.YtandblanpafjoabGreatDoorPack21
import Derived.Test.YtandblanpafjoabGreatDoorPack25
namespace Go.Proofs.YtandblanpafjoabGreatDoor
open Go.RowKit Go.Extern.Stop Go.Stop Go.Extern

/-! The program as it is asked from outside. -/
set_option maxHeartbeats 800000 in
theorem ppnew_any (n win delay kind : Nat) (lv : Value) (lags : List Int) (w : World) (h : LagSrc w lv lags) (hl : lags.length ≤ 8) (hr : ∀ x ∈ lags, -1 ≤ x ∧ x ≤ 20) (hn2 : 2 ≤ n) (hn : n ≤ 4) (hw1 : 1 ≤ win) (hw : win ≤ 8) (hd : delay ≤ 3) (hk : kind ≤ 1) (hlc : ∃ ao m c, lv = .slice ao m c) :
    Calls Tryz.prog 23 #[.agg #[.int .i64 (n : Int), .int .i64 (win : Int), .int .i64 (delay : Int), .int .i64 (kind : Int), lv]] w fun e w' => ∃ g pv pb F, e = .returned (.tuple #[.pointer (some ⟨g, 0, none⟩), .int .i64 0]) ∧ NetQ w' g pv pb F (newM n win delay lags) ∧ (∀ k, F k → w.heap.size ≤ k) ∧ Below w.heap.size w w' := by
  have hlc2 := hlc
  obtain ⟨ao0, m0', c0', rfl⟩ := hlc2
  have bB : Below w.heap.size w (w.alloc (.cells #[.int .i64 (n : Int), .int .i64 (win : Int), .int .i64 (delay : Int), .int .i64 (kind : Int), .slice ao0 m0' c0'] 26)) := (Below.refl _ w).alloc (Nat.le_refl _) _
  have HL := hide (And.intro bB (And.intro (h.below bB) hr))
  clear h bB hr
  go_enter Tryz.func23, Tryz.ntmps23
  go_wp2_with fail
  refine (nnew_any n win delay kind _ lags _ (unhide HL).2.1 hl (unhide HL).2.2 hn2 hn hw1 hw hd hk ⟨_, _, _, rfl⟩).mono ?_
  rintro e w2 ⟨g, pv, pb, F, rfl, hQ, hF, hb2⟩
  have H2 := hide (And.intro hQ (And.intro hF hb2))
  clear hQ hF hb2
  go_wp2_with fail
  refine (told_nil w2).mono ?_
  rintro e w3 ⟨rfl, hb3⟩
  go_wp2
  go_ret2
  obtain ⟨hQ, hF, hb2⟩ := unhide H2
  have z1 := (unhide HL).1.size
  have z2 := hb2.size
  exact ⟨g, pv, pb, F, rfl, hQ.below hb3, fun k hk => Nat.le_trans z1 (hF k hk), ((unhide HL).1.trans (hb2.mono z1)).trans (hb3.mono (by omega))⟩
set_option maxHeartbeats 800000 in
theorem ppadv_yes (g p : Nat) (i : Int) (pv : Value) (pb : Nat → Nat) (F : Nat → Prop) (m : NetM) (w : World) (h : NetQ w g pv pb F m) (hp : p < m.players) (hi : 0 ≤ i ∧ i ≤ 255) (hs : m.sent + 4 ≤ 900000) (hnow : m.now ≤ 900000) (h0 : (m.advance p i).1 = 0) :
    Calls Tryz.prog 21 #[.pointer (some ⟨g, 0, none⟩), .int .i64 (p : Int), .int .u8 i] w fun e w' => e = .returned (.tuple #[.int .i64 0, .int .i64 (-1)]) ∧ Chg F w w' ∧ ∃ F', NetQ w' g pv pb F' (m.advance p i).2 ∧ ∀ k, F' k → F k ∨ w.heap.size ≤ k := by
  have hfr : (m.peers p).frame ≤ 200 := by
    obtain ⟨_, _, _, _, hP⟩ := h.at hp
    exact hP.ok.frame
  have hadv : (m.peers p).frame < 200 ∧ (m.peers p).frame < m.conf p + m.window ∧ (m.advance p i).2 = sendTo (m.stepped p i) p m.players := by
    unfold NetM.advance at h0 ⊢
    by_cases h1 : (m.peers p).frame = 200
    · rw [if_pos h1] at h0; simp at h0
    · rw [if_neg h1] at h0 ⊢
      by_cases h2 : m.window ≤ (m.peers p).frame - m.conf p
      · rw [if_pos h2] at h0; simp at h0
      · rw [if_neg h2]
        exact ⟨by omega, by omega, rfl⟩
  rw [hadv.2.2]
  have HN := hide (And.intro h hadv)
  clear h hadv h0 hfr
  go_enter Tryz.func21, Tryz.ntmps21
  go_wp2_with fail
  refine (nadvance_yes g p i pv pb F m w (unhide HN).1 hp hi hs hnow (unhide HN).2.1 (unhide HN).2.2.1).mono ?_
  rintro e w2 ⟨rfl, hC, F2, hQ, hF2⟩
  have H2 := hide (And.intro hC (And.intro hQ hF2))
  clear hC hQ hF2
  go_wp2_with fail
  refine (told_nil w2).mono ?_
  rintro e w3 ⟨rfl, hb3⟩
  go_wp2
  go_ret2
  obtain ⟨hC, hQ, hF2⟩ := unhide H2
  exact ⟨rfl, hC.thenBelow (hb3.mono hC.size), F2, hQ.below hb3, hF2⟩
set_option maxHeartbeats 800000 in
theorem ppadv_no (g p : Nat) (i : Int) (k : Nat) (pv : Value) (pb : Nat → Nat) (F : Nat → Prop) (m : NetM) (w : World) (hgL : Laid w) (h : NetQ w g pv pb F m) (hp : p < m.players) (hk : (m.advance p i).1 = k) (hk0 : k ≠ 0) :
    Calls Tryz.prog 21 #[.pointer (some ⟨g, 0, none⟩), .int .i64 (p : Int), .int .u8 i] w fun e w' => e = .returned (.tuple #[.int .i64 (k : Int), .int .i64 (p : Int)]) ∧ Below w.heap.size w w' := by
  have HN := hide h
  clear h
  go_enter Tryz.func21, Tryz.ntmps21
  go_wp2_with fail
  refine (nadvance_no g p i k pv pb F m w (unhide HN) hp hk hk0).mono ?_
  rintro e w2 ⟨⟨g2, rfl, hg2, c0, c1⟩, hb2⟩
  go_wp2_with fail
  refine (told_peer g2 (p : Int) (k : Int) w2 (hgL.below hgL.lt hb2) c0 c1).mono ?_
  rintro e w3 ⟨rfl, hb3⟩
  go_wp2
  go_ret2
  exact ⟨rfl, hb2.trans (hb3.mono hb2.size)⟩
set_option maxHeartbeats 800000 in
theorem ppmem_any (g p : Nat) (pv : Value) (pb : Nat → Nat) (F : Nat → Prop) (m : NetM) (w : World) (h : NetQ w g pv pb F m) (hp : p < m.players) :
    Calls Tryz.prog 24 #[.pointer (some ⟨g, 0, none⟩), .int .i64 (p : Int)] w fun e w' => ∃ g2, e = .returned (.tuple #[.slice (some ⟨g2, 0, none⟩) 288 288, .int .i64 0, .int .i64 (-1)]) ∧ w.heap.size ≤ g2 ∧ Blk w' g2 (nums .u8 (stF m.players (insM (m.peers p) m.players) (m.peers p).frame)) 5 ∧ Below w.heap.size w w' := by
  have HN := hide h
  clear h
  go_enter Tryz.func24, Tryz.ntmps24
  go_wp2_with fail
  refine (nmemory_any g p pv pb F m w (unhide HN) hp).mono ?_
  rintro e w2 ⟨g2, rfl, hg2, hB2, hb2⟩
  have H2 := hide (And.intro hB2 hb2)
  clear hB2 hb2
  go_wp2_with fail
  refine (told_nil w2).mono ?_
  rintro e w3 ⟨rfl, hb3⟩
  go_wp2
  go_ret3
  obtain ⟨hB2, hb2⟩ := unhide H2
  exact ⟨g2, rfl, hg2, (hb3.block g2 hB2.lt).trans hB2, hb2.trans (hb3.mono hb2.size)⟩
end Go.Proofs.YtandblanpafjoabGreatDoor

namespace Go.Proofs.YtandblanpafjoabGreatDoor
open Go.RowKit Go.Extern.Stop Go.Stop Go.Extern

/-! Bounds of a net; rows beside it. -/
structure Bnd (m : NetM) (n s t d : Nat) : Prop where
  players : m.players = n
  sent : m.sent ≤ s
  now : m.now ≤ t
  drop : ∀ q, (m.peers q).dropped ≤ d
theorem Bnd.new (n win delay : Nat) (lags : List Int) : Bnd (newM n win delay lags) n 0 0 0 := ⟨rfl, Nat.le_refl _, Nat.le_refl _, fun _ => Nat.le_refl _⟩
theorem Bnd.adv {m : NetM} {n s t d : Nat} (h : Bnd m n s t d) (p : Nat) (v : Int) : Bnd (m.advance p v).2 n (s + n) t d := by
  unfold NetM.advance
  split
  · exact ⟨h.players, Nat.le_trans h.sent (by omega), h.now, h.drop⟩
  · split
    · exact ⟨h.players, Nat.le_trans h.sent (by omega), h.now, h.drop⟩
    · have h1 := sendTo_same (m.stepped p v) p m.players
      have h2 := sendTo_sent (m.stepped p v) p m.players
      have h3 : (m.stepped p v).sent = m.sent := rfl
      have h4 := h.sent
      have h5 := h.players
      refine ⟨h1.1.trans h.players, by show (sendTo (m.stepped p v) p m.players).sent ≤ s + n; omega, by show (sendTo (m.stepped p v) p m.players).now ≤ t; rw [h1.2.2.1]; exact h.now, fun q => ?_⟩
      show ((sendTo (m.stepped p v) p m.players).peers q).dropped ≤ d
      rw [h1.2.1, stepped_dropped]; exact h.drop q
theorem Bnd.goes {m : NetM} {n s t d : Nat} (h : Bnd m n s t d) (p : Nat) (ins : Nat → Int) : ∀ i, Bnd (goes m p ins i) n (s + i * n) t d
  | 0 => by simpa [Proofs.YtandblanpafjoabGreatDoor.goes] using h
  | i + 1 => by
    have := (Bnd.goes h p ins i).adv p (ins i)
    rw [Nat.succ_mul, ← Nat.add_assoc]
    exact this
theorem comeM_drop : ∀ k (m : NetM) (q : Nat), ((comeM k m).peers q).dropped ≤ (m.peers q).dropped + k
  | 0, m, q => Nat.le_refl _
  | k + 1, m, q => by
    simp only [comeM]
    split
    · omega
    · split
      · omega
      · have h1 := comeM_drop k (({ m with flights := m.flights.eraseIdx (firstM m.flights) } : NetM).take (m.flights.getD (firstM m.flights) fly0).to (m.flights.getD (firstM m.flights) fly0).bytes).2 q
        have h2 := (take_net ({ m with flights := m.flights.eraseIdx (firstM m.flights) } : NetM) (m.flights.getD (firstM m.flights) fly0).to (m.flights.getD (firstM m.flights) fly0).bytes).2.2.2 q
        have h3 : (({ m with flights := m.flights.eraseIdx (firstM m.flights) } : NetM).peers q).dropped = (m.peers q).dropped := rfl
        omega
theorem Bnd.tick {m : NetM} {n s t d : Nat} (h : Bnd m n s t d) (hf : m.flights.length ≤ m.sent) : Bnd m.tick n (s + n * n) (t + 1) (d + s) := by
  have h1 := comeM_same m.flights.length { m with now := m.now + 1 }
  have h2 := againAll_same (comeM m.flights.length { m with now := m.now + 1 }) (comeM m.flights.length { m with now := m.now + 1 }).players
  have h3 := againAll_sent (comeM m.flights.length { m with now := m.now + 1 }) (comeM m.flights.length { m with now := m.now + 1 }).players
  have e : m.tick = againAll (comeM m.flights.length { m with now := m.now + 1 }) (comeM m.flights.length { m with now := m.now + 1 }).players := rfl
  have hp : (comeM m.flights.length { m with now := m.now + 1 }).players = n := h1.1.trans h.players
  have hs : (comeM m.flights.length { m with now := m.now + 1 }).sent = m.sent := h1.2.1
  have hn : (comeM m.flights.length { m with now := m.now + 1 }).now = m.now + 1 := h1.2.2
  rw [e]
  have k1 := h.sent
  have k2 := h.now
  refine ⟨h2.1.trans hp, ?_, by rw [h2.2.2.1, hn]; omega, fun q => ?_⟩
  · rw [hp] at h3 ⊢; omega
  · rw [h2.2.1]
    have h4 := comeM_drop m.flights.length { m with now := m.now + 1 } q
    have h5 : (({ m with now := m.now + 1 } : NetM).peers q).dropped = (m.peers q).dropped := rfl
    have h6 := h.drop q
    omega
theorem NetQ.few {w : World} {g : Nat} {pv : Value} {pb : Nat → Nat} {F : Nat → Prop} {m : NetM} (h : NetQ w g pv pb F m) : m.flights.length ≤ m.sent := by
  obtain ⟨lv, wv, bl, l, Fp, hN, hF⟩ := h
  exact hN.numb.few
/-- Rows of bytes that lie apart from F. -/
def RowsF (w : World) (base : Nat) (F : Nat → Prop) (v : Value) (fs : List (List Int)) (j : Nat) (xs : List Value) : Prop :=
  w.ownsRow base 35 1 v j xs ∧ ListsAt w base fs j xs ∧ (∀ k, v.ownBlock = some k → ¬ F k) ∧ ∀ (i b n c : Nat), xs[i]? = some (Value.slice (some ⟨b, 0, none⟩) n c) → ¬ F b
theorem RowsF.keep {w w' : World} {base : Nat} {F F' : Nat → Prop} {v : Value} {fs : List (List Int)} {j : Nat} {xs : List Value} (h : RowsF w base F v fs j xs) (hs : ∀ k, k < w.heap.size → ¬ F k → w'.heap[k]? = w.heap[k]?) (hF : ∀ k, F' k → F k ∨ w.heap.size ≤ k) : RowsF w' base F' v fs j xs := by
  obtain ⟨h1, h2, h3, h4⟩ := h
  have hn : ∀ k, k < w.heap.size → ¬ F k → ¬ F' k := fun k hk hn e => by
    rcases hF k e with e | e
    · exact hn e
    · omega
  refine ⟨owns_same h1 (fun k hk => hs k (h1.lt k hk).2 (h3 k hk)), fun i hi => ?_, fun k hk => hn k (h1.lt k hk).2 (h3 k hk), fun i b n c e => ?_⟩
  · obtain ⟨b, c, e1, e2, e3⟩ := h2 i hi
    exact ⟨b, c, e1, e2, e3.same (hs b e3.lt (h4 i b _ c e1))⟩
  · have hi : i < j := by
      have := (List.getElem?_eq_some_iff.1 e).1
      have hl := h1.1
      omega
    obtain ⟨b', c', e1, e2, e3⟩ := h2 i hi
    rw [e] at e1
    injection e1 with e1
    injection e1 with e1 _ _
    injection e1 with e1
    injection e1 with e1 _ _
    subst e1
    exact hn b e3.lt (h4 i b n c e)
theorem RowsF.other {w W w5 : World} {base : Nat} {F : Nat → Prop} {v u : Value} {fs gs : List (List Int)} {j j' : Nat} {xs ys : List Value} (h : RowsF w base F u gs j' ys) (hv : RowsF w base F v fs j xs) (hW : Below w.heap.size w W) (hg : W.grownBy w5 v.ownBlock) (hne : ∀ k, u.ownBlock = some k → v.ownBlock ≠ some k) : RowsF w5 base F u gs j' ys := by
  obtain ⟨h1, h2, h3, h4⟩ := h
  have hz := hW.size
  have hvW : W.ownsRow base 35 1 v j xs := hv.1.kept (grown_below hW none) (by cases e : v.ownBlock <;> simp)
  refine ⟨owns_same h1 (fun k hk => (hg.block k (by have := (h1.lt k hk).2; omega) (Ne.symm (hne k hk))).trans (hW.block k (h1.lt k hk).2)), fun i hi => ?_, h3, h4⟩
  obtain ⟨b, c, e1, e2, e3⟩ := h2 i hi
  have hbW : Beg W b (gs.getD i []) := e3.below hW e3.lt
  exact ⟨b, c, e1, e2, hbW.same (hg.block b hbW.lt (own_ne' hvW hbW))⟩
theorem RowsF.push {w w5 : World} {base : Nat} {F : Nat → Prop} {v v' : Value} {fs : List (List Int)} {j : Nat} {xs : List Value} {p q : Int} (h : RowsF w base F v fs j xs) (hb : base ≤ w.heap.size) (hF : ∀ k, F k → k < w.heap.size) (hfs : fs.getD j [] = [p, q])
    (hown : w5.ownsRow base 35 1 v' (j + 1) (xs ++ [Value.slice (some ⟨w.heap.size, 0, none⟩) 2 2])) (hg : ((w.alloc (.cells #[.int .u8 p, .int .u8 q] 5)).alloc (.cells #[.slice (some ⟨w.heap.size, 0, none⟩) 2 2] 35)).grownBy w5 v.ownBlock) (hloc : v'.ownBlock = v.ownBlock ∨ ∃ k, v'.ownBlock = some k ∧ w.heap.size ≤ k) :
    RowsF w5 base F v' fs (j + 1) (xs ++ [Value.slice (some ⟨w.heap.size, 0, none⟩) 2 2]) := by
  obtain ⟨h1, h2, h3, h4⟩ := h
  have hW : Below w.heap.size w (w.alloc (.cells #[.int .u8 p, .int .u8 q] 5)) := (Below.refl _ w).alloc (Nat.le_refl _) _
  refine ⟨hown, lists_push h1 h2 hW (b := w.heap.size) (c := 2) hb ?_ _ (by rw [hfs]; rfl) hg, fun k hk => ?_, fun i b n c e => ?_⟩
  · rw [hfs]
    exact Beg.ofBlk (l := [p, q]) (Blk.new w _ _)
  · rcases hloc with e | ⟨k', e, hk'⟩
    · exact h3 k (by rw [← e]; exact hk)
    · rw [e] at hk; injection hk with hk; exact fun hF' => by have := hF k hF'; omega
  · by_cases hi : i < xs.length
    · rw [List.getElem?_append_left hi] at e
      exact h4 i b n c e
    · rw [List.getElem?_append_right (by omega)] at e
      have : i - xs.length = 0 := by
        have := (List.getElem?_eq_some_iff.1 e).1
        simp at this; omega
      rw [this] at e
      simp only [List.getElem?_cons_zero, Option.some.injEq] at e
      injection e with e _ _
      injection e with e
      injection e with e _ _
      exact fun hF' => by have := hF b hF'; omega
theorem play_frames (x : PeerM) (n : Nat) (fs : List (List Int)) (h : framesM x n fs.length = fs) (hfr : x.frame = fs.length) : stF n (insM x n) x.frame = playL n fs := by
  unfold playL
  rw [stF_play, hfr]
  apply stF_congr
  intro k hk
  rw [← framesM_get x n fs.length k hk, h]
end Go.Proofs.YtandblanpafjoabGreatDoor

