import Derived.Test.YtandblanpafjoabGreatDoorNetI
namespace Go.Proofs.YtandblanpafjoabGreatDoor
open Go.RowKit

/-! Packets that come, and time. -/
theorem learnt_take (r : List Int) (L start m : Nat) (h1 : start ≤ L) (h2 : L ≤ r.length) : learnt (r.take L) start ((r.drop start).take m) = r.take (max L (start + m)) := by
  unfold learnt
  rw [List.length_take, Nat.min_eq_left h2, List.drop_take, List.drop_drop, show start + (L - start) = L by omega]
  by_cases h : start + m ≤ L
  · rw [show m - (L - start) = 0 by omega, List.take_zero, List.append_nil, Nat.max_eq_left h]
  · rw [Nat.max_eq_right (by omega)]
    rw [show start + m = L + (m - (L - start)) by omega, List.take_add]
theorem taken_known (n : NetM) (to i j q start ack : Nat) (ins : List Int) : ((n.put to (taken (n.peers to) q start ack ins)).peers i).known j = if i = to ∧ j = q then learnt ((n.peers to).known q) start ins else (n.peers i).known j := by
  unfold NetM.put taken PeerM.learn
  by_cases hi : i = to
  · subst hi
    by_cases hj : j = q
    · subst hj; simp
    · simp [hj]
  · simp [hi]
theorem taken_acked (n : NetM) (to i j q start ack : Nat) (ins : List Int) : ((n.put to (taken (n.peers to) q start ack ins)).peers i).acked j = if i = to ∧ j = q then max ((n.peers to).acked q) ack else (n.peers i).acked j := by
  unfold NetM.put taken PeerM.learn
  by_cases hi : i = to
  · subst hi
    by_cases hj : j = q
    · subst hj; simp
    · simp [hj]
  · simp [hi]
theorem taken_frame (n : NetM) (to i q start ack : Nat) (ins : List Int) : ((n.put to (taken (n.peers to) q start ack ins)).peers i).frame = (n.peers i).frame := by
  unfold NetM.put taken PeerM.learn
  by_cases hi : i = to <;> simp [hi]
theorem taken_dropped (n : NetM) (to i q start ack : Nat) (ins : List Int) : ((n.put to (taken (n.peers to) q start ack ins)).peers i).dropped = (n.peers i).dropped := by
  unfold NetM.put taken PeerM.learn
  by_cases hi : i = to <;> simp [hi]
theorem learnt_len (l : List Int) (start : Nat) (ins : List Int) : l.length ≤ (learnt l start ins).length := by simp [learnt]
theorem taken_len (n : NetM) (to i j q start ack : Nat) (ins : List Int) : ((n.peers i).known j).length ≤ (((n.put to (taken (n.peers to) q start ack ins)).peers i).known j).length := by
  rw [taken_known]
  split
  · rename_i h; rw [h.1, h.2]; exact learnt_len _ _ _
  · exact Nat.le_refl _

/-- An honest packet is taken. -/
theorem honest {n : NetM} {real : Nat → List Int} (h : Inv n real) {f : FlyM} (hf : FlyOk n real f) : ∃ (p start ack : Nat) (ins : List Int), f.bytes = packL (p : Int) (start : Int) (ack : Int) ins ∧ p < n.players ∧ p ≠ f.to ∧ f.to < n.players ∧ ins.length ≤ 64 ∧ start + ins.length ≤ (real p).length ∧ ins = ((real p).drop start).take ins.length ∧ start ≤ ((n.peers f.to).known p).length ∧ ack ≤ ((n.peers p).known f.to).length ∧ n.take f.to f.bytes = (true, n.put f.to (taken (n.peers f.to) p start ack ins)) := by
  obtain ⟨p, start, ack, ins, e1, e2, e3, e4, e5, e6, e7, e8, e9⟩ := hf
  refine ⟨p, start, ack, ins, e1, e2, e3, e4, e5, e6, e7, e8, e9, ?_⟩
  have hrp := h.realLe e2
  have hrt := h.realLe e4
  have hkt := h.knownLe e2 e4
  have hpl := h.hp.2
  have hg : GoodP (p : Int) (start : Int) (ack : Int) ins.length := ⟨⟨by omega, by omega⟩, ⟨by omega, by omega⟩, ⟨by omega, by omega⟩, e5⟩
  obtain ⟨o1, o2, o3, o4, o5⟩ := pack_ok hg
  have hlen := h.len p e2
  have hfr := h.fr p e2
  unfold NetM.take
  rw [e1, o2, o3, o4, o5]
  rw [if_pos]
  · simp
  · refine ⟨o1, ?_, ?_, ?_, ?_, ?_⟩
    · rw [o2]; omega
    · rw [o2]; omega
    · rw [o2, o3]; simpa using e8
    · rw [o3, o5]; omega
    · rw [o4, h.own f.to e4]; omega
theorem Inv.take {n : NetM} {real : Nat → List Int} (h : Inv n real) {f : FlyM} (hf : FlyOk n real f) : (n.take f.to f.bytes).1 = true ∧ Inv (n.take f.to f.bytes).2 real := by
  obtain ⟨p, start, ack, ins, _, e2, e3, e4, e5, e6, e7, e8, e9, ht⟩ := honest h hf
  rw [ht]
  refine ⟨rfl, ?_⟩
  exact
  { hp := h.hp
    hd := h.hd
    own := fun q hq => by
      show ((n.put f.to (taken (n.peers f.to) p start ack ins)).peers q).known q = real q
      rw [taken_known, if_neg (fun hh => e3 (hh.2.symm.trans hh.1))]
      exact h.own q hq
    pre := fun a b ha hb => by
      show ∃ k, k ≤ (real b).length ∧ ((n.put f.to (taken (n.peers f.to) p start ack ins)).peers a).known b = (real b).take k
      rw [taken_known]
      split
      · rename_i hh
        obtain ⟨k, hk, e⟩ := h.pre f.to p e4 e2
        rw [hh.2]
        have hk8 : start ≤ k := by rw [e, List.length_take] at e8; omega
        refine ⟨max k (start + ins.length), by omega, ?_⟩
        rw [e, e7]
        have := learnt_take (real p) k start ins.length hk8 hk
        rw [← e7] at this ⊢
        exact this
      · exact h.pre a b ha hb
    len := fun q hq => by
      show ((n.put f.to (taken (n.peers f.to) p start ack ins)).peers q).frame + n.delay = _
      rw [taken_frame]; exact h.len q hq
    fr := fun q hq => by
      show ((n.put f.to (taken (n.peers f.to) p start ack ins)).peers q).frame ≤ 200
      rw [taken_frame]; exact h.fr q hq
    byte := h.byte
    ack := fun a b ha hb hne => by
      show ((n.put f.to (taken (n.peers f.to) p start ack ins)).peers a).acked b ≤ (((n.put f.to (taken (n.peers f.to) p start ack ins)).peers b).known a).length
      refine Nat.le_trans ?_ (taken_len n f.to b a p start ack ins)
      rw [taken_acked]
      split
      · rename_i hh
        rw [hh.1, hh.2]
        have := h.ack f.to p e4 e2 (fun e => e3 e.symm)
        omega
      · exact h.ack a b ha hb hne
    drop := fun q hq => by
      show ((n.put f.to (taken (n.peers f.to) p start ack ins)).peers q).dropped = 0
      rw [taken_dropped]; exact h.drop q hq
    win := fun q hq => by
      have hm : n.conf q ≤ (n.put f.to (taken (n.peers f.to) p start ack ins)).conf q := confTo_mono (by rw [taken_frame]; exact Nat.le_refl _) _ (fun j _ => taken_len n f.to q j p start ack ins)
      have h1 := h.win q hq
      show ((n.put f.to (taken (n.peers f.to) p start ack ins)).peers q).frame ≤ (n.put f.to (taken (n.peers f.to) p start ack ins)).conf q + n.window
      rw [taken_frame]
      omega
    fly := fun g hg => by
      obtain ⟨a, st, ak, is, g1, g2, g3, g4, g5, g6, g7, g8, g9⟩ := h.fly g hg
      exact ⟨a, st, ak, is, g1, g2, g3, g4, g5, g6, g7, Nat.le_trans g8 (taken_len n f.to _ _ p start ack ins), Nat.le_trans g9 (taken_len n f.to _ _ p start ack ins)⟩ }

theorem firstTo_lt (l : List FlyM) (d : FlyM) : ∀ k, 0 < k → firstTo l d k < k
  | k + 1, _ => by
    unfold firstTo
    split
    · omega
    · by_cases h : k = 0
      · subst h; simp [firstTo]
      · have := firstTo_lt l d k (by omega); omega
theorem firstM_lt (l : List FlyM) (h : l ≠ []) : firstM l < l.length := firstTo_lt l fly0 _ (List.length_pos_iff.2 h)
theorem getD_mem (l : List FlyM) (i : Nat) (h : i < l.length) : l.getD i fly0 ∈ l := by
  rw [List.getD_eq_getElem?_getD, List.getElem?_eq_getElem h]; exact List.getElem_mem h

theorem Inv.fewer {n : NetM} {real : Nat → List Int} (h : Inv n real) (l : List FlyM) (hl : ∀ f ∈ l, f ∈ n.flights) : Inv { n with flights := l } real :=
  { hp := h.hp, hd := h.hd, own := h.own, pre := h.pre, len := h.len, fr := h.fr, byte := h.byte, ack := h.ack, drop := h.drop, win := h.win, fly := fun f hf => h.fly f (hl f hf) }
theorem Inv.later {n : NetM} {real : Nat → List Int} (h : Inv n real) (t : Nat) : Inv { n with now := t } real :=
  { hp := h.hp, hd := h.hd, own := h.own, pre := h.pre, len := h.len, fr := h.fr, byte := h.byte, ack := h.ack, drop := h.drop, win := h.win, fly := h.fly }
theorem Inv.come {real : Nat → List Int} : ∀ k (n : NetM), Inv n real → Inv (comeM k n) real
  | 0, _, h => h
  | k + 1, n, h => by
    unfold comeM
    split
    · exact h
    · split
      · exact h
      · rename_i hne _
        have hf := h.fly _ (getD_mem n.flights _ (firstM_lt n.flights hne))
        exact Inv.come k _ (Inv.take (h.fewer _ (fun f hf => List.mem_of_mem_eraseIdx hf)) hf).2
theorem againTo_same (n : NetM) (p : Nat) : ∀ k, (againTo n p k).players = n.players ∧ (againTo n p k).peers = n.peers ∧ (againTo n p k).now = n.now ∧ (againTo n p k).delay = n.delay ∧ (againTo n p k).window = n.window ∧ (againTo n p k).lags = n.lags
  | 0 => ⟨rfl, rfl, rfl, rfl, rfl, rfl⟩
  | k + 1 => by
    obtain ⟨h1, h2, h3, h4, h5, h6⟩ := againTo_same n p k
    unfold againTo
    split
    · exact ⟨h1, h2, h3, h4, h5, h6⟩
    · exact ⟨h1, h2, h3, h4, h5, h6⟩
theorem Inv.againTo {n : NetM} {real : Nat → List Int} (h : Inv n real) {p : Nat} (hp : p < n.players) : ∀ k, k ≤ n.players → Inv (againTo n p k) real
  | 0, _ => h
  | k + 1, hk => by
    have ih := Inv.againTo h hp k (by omega)
    have hs := (againTo_same n p k).1
    unfold Go.Proofs.YtandblanpafjoabGreatDoor.againTo
    split
    · rename_i hh
      exact ih.send (by omega) (by omega) (fun e => hh.1 e.symm)
    · exact ih
theorem againAll_same (n : NetM) : ∀ k, (againAll n k).players = n.players ∧ (againAll n k).peers = n.peers ∧ (againAll n k).now = n.now ∧ (againAll n k).delay = n.delay ∧ (againAll n k).window = n.window ∧ (againAll n k).lags = n.lags
  | 0 => ⟨rfl, rfl, rfl, rfl, rfl, rfl⟩
  | k + 1 => by
    obtain ⟨h1, h2, h3, h4, h5, h6⟩ := againAll_same n k
    obtain ⟨g1, g2, g3, g4, g5, g6⟩ := againTo_same (againAll n k) k n.players
    unfold againAll
    exact ⟨g1.trans h1, g2.trans h2, g3.trans h3, g4.trans h4, g5.trans h5, g6.trans h6⟩
theorem Inv.againAll {n : NetM} {real : Nat → List Int} (h : Inv n real) : ∀ k, k ≤ n.players → Inv (againAll n k) real
  | 0, _ => h
  | k + 1, hk => by
    have ih := Inv.againAll h k (by omega)
    have hs := (againAll_same n k).1
    unfold Go.Proofs.YtandblanpafjoabGreatDoor.againAll
    exact ih.againTo (by omega) _ (by omega)
theorem Inv.tick {n : NetM} {real : Nat → List Int} (h : Inv n real) : Inv n.tick real := by
  unfold NetM.tick
  exact (Inv.come _ _ (h.later _)).againAll _ (Nat.le_refl _)

/-! What is confirmed is what was put in. -/
theorem Inv.inputs {n : NetM} {real : Nat → List Int} (h : Inv n real) {p q f : Nat} (hp : p < n.players) (hq : q < n.players) (hf : f < n.conf p) : inputM (n.peers p) q f = (real q).getD f 0 ∧ f < (real q).length := by
  have h1 : n.conf p ≤ ((n.peers p).known q).length := confTo_known _ _ _ hq
  obtain ⟨k, hk, e⟩ := h.pre p q hp hq
  have h2 : f < k := by rw [e, List.length_take] at h1; omega
  unfold inputM
  rw [if_pos (by omega), e, List.getD_eq_getElem?_getD, List.getD_eq_getElem?_getD, List.getElem?_take, if_pos h2]
  exact ⟨rfl, by omega⟩
/-- The first f frames of what was put in. -/
def rowsM (real : Nat → List Int) (players f : Nat) : List (List Int) := (List.range f).map fun k => (List.range players).map fun q => (real q).getD k 0
theorem Inv.frames {n : NetM} {real : Nat → List Int} (h : Inv n real) {p : Nat} (hp : p < n.players) : framesM (n.peers p) n.players (n.conf p) = rowsM real n.players (n.conf p) := by
  unfold framesM rowsM
  apply List.map_congr_left
  intro k hk
  unfold insM
  apply List.map_congr_left
  intro q hq
  exact (h.inputs hp (List.mem_range.1 hq) (List.mem_range.1 hk)).1
end Go.Proofs.YtandblanpafjoabGreatDoor
