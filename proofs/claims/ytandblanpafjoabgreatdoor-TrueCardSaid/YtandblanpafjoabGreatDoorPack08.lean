import Derived.Test.YtandblanpafjoabGreatDoorPack07
namespace Go.Proofs.YtandblanpafjoabGreatDoor
open Go.RowKit

/-! Packets that come, and time. -/
theorem learnt_take (r : List Int) (L start m : Nat) (h1 : start ≤ L) (h2 : L ≤ r.length) : learnt (r.take L) start ((r.drop start).take m) = r.take (max L (start + m)) := by
  unfold learnt
  rw [List.length_take, Nat.min_eq_left h2, List.drop_take, List.drop_drop, show start + (L - start) = L by omega]
  by_cases h : start + m ≤ L
  · rw [show m - (L - start) = 0 by omega, List.take_zero, List.append_nil, Nat.max_eq_left h]
  · rw [Nat.max_eq_right (by omega)]
    rw [show start + m = L + (m - (L - start)) by omega, List.take_add]
theorem taken_known (n : NetM) (to i j q start ack : Nat) (ins : List Int) : ((n.put to (taken (n.peers to) q start ack ins)).peers i).known j = if i = to ∧ j = q then learnt ((n.peers to).known q) start ins else (n.peers i).known j := by
  unfold NetM.put taken PeerM.learn
  by_cases hi : i = to
  · subst hi
    by_cases hj : j = q
    · subst hj; simp
    · simp [hj]
  · simp [hi]
theorem taken_acked (n : NetM) (to i j q start ack : Nat) (ins : List Int) : ((n.put to (taken (n.peers to) q start ack ins)).peers i).acked j = if i = to ∧ j = q then max ((n.peers to).acked q) ack else (n.peers i).acked j := by
  unfold NetM.put taken PeerM.learn
  by_cases hi : i = to
  · subst hi
    by_cases hj : j = q
    · subst hj; simp
    · simp [hj]
  · simp [hi]
theorem taken_frame (n : NetM) (to i q start ack : Nat) (ins : List Int) : ((n.put to (taken (n.peers to) q start ack ins)).peers i).frame = (n.peers i).frame := by
  unfold NetM.put taken PeerM.learn
  by_cases hi : i = to <;> simp [hi]
theorem taken_dropped (n : NetM) (to i q start ack : Nat) (ins : List Int) : ((n.put to (taken (n.peers to) q start ack ins)).peers i).dropped = (n.peers i).dropped := by
  unfold NetM.put taken PeerM.learn
  by_cases hi : i = to <;> simp [hi]
theorem learnt_len (l : List Int) (start : Nat) (ins : List Int) : l.length ≤ (learnt l start ins).length := by simp [learnt]
theorem taken_len (n : NetM) (to i j q start ack : Nat) (ins : List Int) : ((n.peers i).known j).length ≤ (((n.put to (taken (n.peers to) q start ack ins)).peers i).known j).length := by
  rw [taken_known]
  split
  · rename_i h; rw [h.1, h.2]; exact learnt_len _ _ _
  · exact Nat.le_refl _

/-- An honest packet is taken. -/
theorem honest {n : NetM} {real : Nat → List Int} (h : Inv n real) {f : FlyM} (hf : FlyOk n real f) : ∃ (p start ack : Nat) (ins : List Int), f.bytes = packL (p : Int) (start : Int) (ack : Int) ins ∧ p < n.players ∧ p ≠ f.to ∧ f.to < n.players ∧ ins.length ≤ 64 ∧ start + ins.length ≤ (real p).length ∧ ins = ((real p).drop start).take ins.length ∧ start ≤ ((n.peers f.to).known p).length ∧ ack ≤ ((n.peers p).known f.to).length ∧ n.take f.to f.bytes = (true, n.put f.to (taken (n.peers f.to) p start ack ins)) := by
  obtain ⟨p, start, ack, ins, e1, e2, e3, e4, e5, e6, e7, e8, e9⟩ := hf
  refine ⟨p, start, ack, ins, e1, e2, e3, e4, e5, e6, e7, e8, e9, ?_⟩
  have hrp := h.realLe e2
  have hrt := h.realLe e4
  have hkt := h.knownLe e2 e4
  have hpl := h.hp.2
  have hg : GoodP (p : Int) (start : Int) (ack : Int) ins.length := ⟨⟨by omega, by omega⟩, ⟨by omega, by omega⟩, ⟨by omega, by omega⟩, e5⟩
  obtain ⟨o1, o2, o3, o4, o5⟩ := pack_ok hg
  have hlen := h.len p e2
  have hfr := h.fr p e2
  unfold NetM.take
  rw [e1, o2, o3, o4, o5]
  rw [if_pos]
  · simp
  · refine ⟨o1, ?_, ?_, ?_, ?_, ?_⟩
    · rw [o2]; omega
    · rw [o2]; omega
    · rw [o2, o3]; simpa using e8
    · rw [o3, o5]; omega
    · rw [o4, h.own f.to e4]; omega
theorem Inv.take {n : NetM} {real : Nat → List Int} (h : Inv n real) {f : FlyM} (hf : FlyOk n real f) : (n.take f.to f.bytes).1 = true ∧ Inv (n.take f.to f.bytes).2 real := by
  obtain ⟨p, start, ack, ins, _, e2, e3, e4, e5, e6, e7, e8, e9, ht⟩ := honest h hf
  rw [ht]
  refine ⟨rfl, ?_⟩
  exact
  { hp := h.hp
    hd := h.hd
    own := fun q hq => by
      show ((n.put f.to (taken (n.peers f.to) p start ack ins)).peers q).known q = real q
      rw [taken_known, if_neg (fun hh => e3 (hh.2.symm.trans hh.1))]
      exact h.own q hq
    pre := fun a b ha hb => by
      show ∃ k, k ≤ (real b).length ∧ ((n.put f.to (taken (n.peers f.to) p start ack ins)).peers a).known b = (real b).take k
      rw [taken_known]
      split
      · rename_i hh
        obtain ⟨k, hk, e⟩ := h.pre f.to p e4 e2
        rw [hh.2]
        have hk8 : start ≤ k := by rw [e, List.length_take] at e8; omega
        refine ⟨max k (start + ins.length), by omega, ?_⟩
        rw [e, e7]
        have := learnt_take (real p) k start ins.length hk8 hk
        rw [← e7] at this ⊢
        exact this
      · exact h.pre a b ha hb
    len := fun q hq => by
      show ((n.put f.to (taken (n.peers f.to) p start ack ins)).peers q).frame + n.delay = _
      rw [taken_frame]; exact h.len q hq
    fr := fun q hq => by
      show ((n.put f.to (taken (n.peers f.to) p start ack ins)).peers q).frame ≤ 200
      rw [taken_frame]; exact h.fr q hq
    byte := h.byte
    ack := fun a b ha hb hne => by
      show ((n.put f.to (taken (n.peers f.to) p start ack ins)).peers a).acked b ≤ (((n.put f.to (taken (n.peers f.to) p start ack ins)).peers b).known a).length
      refine Nat.le_trans ?_ (taken_len n f.to b a p start ack ins)
      rw [taken_acked]
      split
      · rename_i hh
        rw [hh.1, hh.2]
        have := h.ack f.to p e4 e2 (fun e => e3 e.symm)
        omega
      · exact h.ack a b ha hb hne
    drop := fun q hq => by
      show ((n.put f.to (taken (n.peers f.to) p start ack ins)).peers q).dropped = 0
      rw [taken_dropped]; exact h.drop q hq
    win := fun q hq => by
      have hm : n.conf q ≤ (n.put f.to (taken (n.peers f.to) p start ack ins)).conf q := confTo_mono (by rw [taken_frame]; exact Nat.le_refl _) _ (fun j _ => taken_len n f.to q j p start ack ins)
      have h1 := h.win q hq
      show ((n.put f.to (taken (n.peers f.to) p start ack ins)).peers q).frame ≤ (n.put f.to (taken (n.peers f.to) p start ack ins)).conf q + n.window
      rw [taken_frame]
      omega
    fly := fun g hg => by
      obtain ⟨a, st, ak, is, g1, g2, g3, g4, g5, g6, g7, g8, g9⟩ := h.fly g hg
      exact ⟨a, st, ak, is, g1, g2, g3, g4, g5, g6, g7, Nat.le_trans g8 (taken_len n f.to _ _ p start ack ins), Nat.le_trans g9 (taken_len n f.to _ _ p start ack ins)⟩ }

theorem firstTo_lt (l : List FlyM) (d : FlyM) : ∀ k, 0 < k → firstTo l d k < k
  | k + 1, _ => by
    unfold firstTo
    split
    · omega
    · by_cases h : k = 0
      · subst h; simp [firstTo]
      · have := firstTo_lt l d k (by omega); omega
theorem firstM_lt (l : List FlyM) (h : l ≠ []) : firstM l < l.length := firstTo_lt l fly0 _ (List.length_pos_iff.2 h)
theorem getD_mem (l : List FlyM) (i : Nat) (h : i < l.length) : l.getD i fly0 ∈ l := by
  rw [List.getD_eq_getElem?_getD, List.getElem?_eq_getElem h]; exact List.getElem_mem h

theorem Inv.fewer {n : NetM} {real : Nat → List Int} (h : Inv n real) (l : List FlyM) (hl : ∀ f ∈ l, f ∈ n.flights) : Inv { n with flights := l } real :=
  { hp := h.hp, hd := h.hd, own := h.own, pre := h.pre, len := h.len, fr := h.fr, byte := h.byte, ack := h.ack, drop := h.drop, win := h.win, fly := fun f hf => h.fly f (hl f hf) }
theorem Inv.later {n : NetM} {real : Nat → List Int} (h : Inv n real) (t : Nat) : Inv { n with now := t } real :=
  { hp := h.hp, hd := h.hd, own := h.own, pre := h.pre, len := h.len, fr := h.fr, byte := h.byte, ack := h.ack, drop := h.drop, win := h.win, fly := h.fly }
theorem Inv.come {real : Nat → List Int} : ∀ k (n : NetM), Inv n real → Inv (comeM k n) real
  | 0, _, h => h
  | k + 1, n, h => by
    unfold comeM
    split
    · exact h
    · split
      · exact h
      · rename_i hne _
        have hf := h.fly _ (getD_mem n.flights _ (firstM_lt n.flights hne))
        exact Inv.come k _ (Inv.take (h.fewer _ (fun f hf => List.mem_of_mem_eraseIdx hf)) hf).2
theorem againTo_same (n : NetM) (p : Nat) : ∀ k, (againTo n p k).players = n.players ∧ (againTo n p k).peers = n.peers ∧ (againTo n p k).now = n.now ∧ (againTo n p k).delay = n.delay ∧ (againTo n p k).window = n.window ∧ (againTo n p k).lags = n.lags
  | 0 => ⟨rfl, rfl, rfl, rfl, rfl, rfl⟩
  | k + 1 => by
    obtain ⟨h1, h2, h3, h4, h5, h6⟩ := againTo_same n p k
    unfold againTo
    split
    · exact ⟨h1, h2, h3, h4, h5, h6⟩
    · exact ⟨h1, h2, h3, h4, h5, h6⟩
theorem Inv.againTo {n : NetM} {real : Nat → List Int} (h : Inv n real) {p : Nat} (hp : p < n.players) : ∀ k, k ≤ n.players → Inv (againTo n p k) real
  | 0, _ => h
  | k + 1, hk => by
    have ih := Inv.againTo h hp k (by omega)
    have hs := (againTo_same n p k).1
    unfold Go.Proofs.YtandblanpafjoabGreatDoor.againTo
    split
    · rename_i hh
      exact ih.send (by omega) (by omega) (fun e => hh.1 e.symm)
    · exact ih
theorem againAll_same (n : NetM) : ∀ k, (againAll n k).players = n.players ∧ (againAll n k).peers = n.peers ∧ (againAll n k).now = n.now ∧ (againAll n k).delay = n.delay ∧ (againAll n k).window = n.window ∧ (againAll n k).lags = n.lags
  | 0 => ⟨rfl, rfl, rfl, rfl, rfl, rfl⟩
  | k + 1 => by
    obtain ⟨h1, h2, h3, h4, h5, h6⟩ := againAll_same n k
    obtain ⟨g1, g2, g3, g4, g5, g6⟩ := againTo_same (againAll n k) k n.players
    unfold againAll
    exact ⟨g1.trans h1, g2.trans h2, g3.trans h3, g4.trans h4, g5.trans h5, g6.trans h6⟩
theorem Inv.againAll {n : NetM} {real : Nat → List Int} (h : Inv n real) : ∀ k, k ≤ n.players → Inv (againAll n k) real
  | 0, _ => h
  | k + 1, hk => by
    have ih := Inv.againAll h k (by omega)
    have hs := (againAll_same n k).1
    unfold Go.Proofs.YtandblanpafjoabGreatDoor.againAll
    exact ih.againTo (by omega) _ (by omega)
theorem Inv.tick {n : NetM} {real : Nat → List Int} (h : Inv n real) : Inv n.tick real := by
  unfold NetM.tick
  exact (Inv.come _ _ (h.later _)).againAll _ (Nat.le_refl _)

/-! What is confirmed is what was put in. -/
theorem Inv.inputs {n : NetM} {real : Nat → List Int} (h : Inv n real) {p q f : Nat} (hp : p < n.players) (hq : q < n.players) (hf : f < n.conf p) : inputM (n.peers p) q f = (real q).getD f 0 ∧ f < (real q).length := by
  have h1 : n.conf p ≤ ((n.peers p).known q).length := confTo_known _ _ _ hq
  obtain ⟨k, hk, e⟩ := h.pre p q hp hq
  have h2 : f < k := by rw [e, List.length_take] at h1; omega
  unfold inputM
  rw [if_pos (by omega), e, List.getD_eq_getElem?_getD, List.getD_eq_getElem?_getD, List.getElem?_take, if_pos h2]
  exact ⟨rfl, by omega⟩
/-- The first f frames of what was put in. -/
def rowsM (real : Nat → List Int) (players f : Nat) : List (List Int) := (List.range f).map fun k => (List.range players).map fun q => (real q).getD k 0
theorem Inv.frames {n : NetM} {real : Nat → List Int} (h : Inv n real) {p : Nat} (hp : p < n.players) : framesM (n.peers p) n.players (n.conf p) = rowsM real n.players (n.conf p) := by
  unfold framesM rowsM
  apply List.map_congr_left
  intro k hk
  unfold insM
  apply List.map_congr_left
  intro q hq
  exact (h.inputs hp (List.mem_range.1 hq) (List.mem_range.1 hk)).1
end Go.Proofs.YtandblanpafjoabGreatDoor

namespace Go.Proofs.YtandblanpafjoabGreatDoor
open Go.RowKit

/-! Where nothing is lost, some ticks later all know all. -/
def LagOk (n : NetM) : Prop := ∀ x ∈ n.lags, 0 ≤ x ∧ x ≤ 6
theorem lag_range {n : NetM} (h : LagOk n) : 0 ≤ n.lag ∧ n.lag ≤ 6 := by
  unfold NetM.lag
  split
  · exact ⟨by decide, by decide⟩
  · rename_i hne
    have hl : n.sent % n.lags.length < n.lags.length := Nat.mod_lt _ (List.length_pos_iff.2 hne)
    rw [List.getD_eq_getElem?_getD, List.getElem?_eq_getElem hl]
    exact h _ (List.getElem_mem hl)
structure Jnv (n : NetM) : Prop where
  win8 : n.window ≤ 8
  known : ∀ p q, p < n.players → q < n.players → p ≠ q → ((n.peers p).known q).length ≤ (n.peers p).acked q + n.delay + n.window
  fly : ∀ f ∈ n.flights, startL f.bytes + ((inputsL f.bytes).length : Int) ≤ ackL f.bytes + (n.delay : Int) + (n.window : Int)
  due : ∀ f ∈ n.flights, f.due ≤ n.now + 6
  lag : LagOk n
theorem Jnv.new (players window delay : Nat) (lags : List Int) (hw : window ≤ 8) (hl : ∀ x ∈ lags, 0 ≤ x ∧ x ≤ 6) : Jnv (newM players window delay lags) where
  win8 := hw
  known _ _ _ _ _ := by simp [newM]; omega
  fly f hf := by simp [newM] at hf
  due f hf := by simp [newM] at hf
  lag := hl

/-- What a peer sends. -/
theorem sent_parts {n : NetM} {real : Nat → List Int} (h : Inv n real) {p q : Nat} (hp : p < n.players) (hq : q < n.players) (hne : p ≠ q) :
    fromL (packM (n.peers p) p q) = (p : Int) ∧ startL (packM (n.peers p) p q) = ((n.peers p).acked q : Int) ∧ ackL (packM (n.peers p) p q) = (((n.peers p).known q).length : Int) ∧ inputsL (packM (n.peers p) p q) = ((real p).drop ((n.peers p).acked q)).take 64 := by
  have ha := h.ack p q hp hq hne
  have hk := h.knownLe hq hp
  have hk2 := h.knownLe hp hq
  have hr := h.realLe hp
  have hr2 := h.realLe hq
  have hpl := h.hp.2
  unfold packM
  rw [h.own p hp]
  have hg : GoodP (p : Int) ((n.peers p).acked q : Int) (((n.peers p).known q).length : Int) (((real p).drop ((n.peers p).acked q)).take 64).length := ⟨⟨by omega, by omega⟩, ⟨by omega, by omega⟩, ⟨by omega, by omega⟩, by simp; omega⟩
  exact (pack_ok hg).2
theorem Jnv.send {n : NetM} {real : Nat → List Int} (h : Inv n real) (j : Jnv n) {p q : Nat} (hp : p < n.players) (hq : q < n.players) (hne : p ≠ q) : Jnv (n.send p q) := by
  have hlag := lag_range j.lag
  have e : (n.send p q).flights = n.flights ++ [{ to := q, due := n.now + n.lag.toNat, num := n.sent, bytes := packM (n.peers p) p q }] := by simp [NetM.send, hlag.1]
  refine { win8 := j.win8, known := j.known, fly := fun f hf => ?_, due := fun f hf => ?_, lag := j.lag }
  · rw [e] at hf
    rcases List.mem_append.1 hf with hf | hf
    · exact j.fly f hf
    · obtain rfl := List.mem_singleton.1 hf
      obtain ⟨_, s2, s3, s4⟩ := sent_parts h hp hq hne
      have hlen := h.len p hp
      have hwin := h.win p hp
      have hc : n.conf p ≤ ((n.peers p).known q).length := confTo_known _ _ _ hq
      have ha := h.ack p q hp hq hne
      have hk := h.knownLe hq hp
      show startL (packM (n.peers p) p q) + ((inputsL (packM (n.peers p) p q)).length : Int) ≤ ackL (packM (n.peers p) p q) + (n.delay : Int) + (n.window : Int)
      rw [s2, s3, s4, List.length_take, List.length_drop]
      omega
  · rw [e] at hf
    rcases List.mem_append.1 hf with hf | hf
    · exact j.due f hf
    · obtain rfl := List.mem_singleton.1 hf
      show n.now + n.lag.toNat ≤ n.now + 6
      omega
theorem Jnv.sendTo {n : NetM} {real : Nat → List Int} (h : Inv n real) (j : Jnv n) {p : Nat} (hp : p < n.players) : ∀ k, k ≤ n.players → Jnv (sendTo n p k)
  | 0, _ => j
  | k + 1, hk => by
    have ih := Jnv.sendTo h j hp k (by omega)
    have hs := (sendTo_same n p k).1
    unfold Go.Proofs.YtandblanpafjoabGreatDoor.sendTo
    split
    · exact ih
    · exact Jnv.send (h.sendTo hp k (by omega)) ih (by omega) (by omega) (by omega)
theorem Jnv.stepped {n : NetM} (j : Jnv n) (p : Nat) (v : Int) : Jnv (n.stepped p v) where
  win8 := j.win8
  known a b ha hb hne := by
    rw [stepped_known, stepped_acked, if_neg (fun e => hne (e.1.trans e.2.symm))]
    exact j.known a b ha hb hne
  fly := j.fly
  due := j.due
  lag := j.lag
theorem Jnv.advance {n : NetM} {real : Nat → List Int} (h : Inv n real) (j : Jnv n) {p : Nat} (hp : p < n.players) (v : Int) (hv : 0 ≤ v ∧ v ≤ 255) : Jnv (n.advance p v).2 := by
  unfold NetM.advance
  by_cases h1 : (n.peers p).frame = 200
  · rw [if_pos h1]; exact j
  · rw [if_neg h1]
    by_cases h2 : n.window ≤ (n.peers p).frame - n.conf p
    · rw [if_pos h2]; exact j
    · rw [if_neg h2]
      have := h.fr p hp
      exact Jnv.sendTo (h.stepped hp v hv (by omega) (by omega)) (j.stepped p v) hp _ (Nat.le_refl _)

/-- What an honest packet leaves behind. -/
theorem honest_left {n : NetM} {real : Nat → List Int} (h : Inv n real) {f : FlyM} (hf : FlyOk n real f) : ∃ p : Nat, fromL f.bytes = (p : Int) ∧ p < n.players ∧ p ≠ f.to ∧ f.to < n.players ∧
    (∀ i j, ((n.peers i).known j).length ≤ (((n.take f.to f.bytes).2.peers i).known j).length) ∧ (∀ i j, ¬ (i = f.to ∧ j = p) → ((n.take f.to f.bytes).2.peers i).known j = (n.peers i).known j ∧ ((n.take f.to f.bytes).2.peers i).acked j = (n.peers i).acked j) ∧
    ((((n.take f.to f.bytes).2.peers f.to).known p).length : Int) = max ((((n.peers f.to).known p).length : Int)) (startL f.bytes + ((inputsL f.bytes).length : Int)) ∧ ((((n.take f.to f.bytes).2.peers f.to).acked p : Nat) : Int) = max (((n.peers f.to).acked p : Nat) : Int) (ackL f.bytes) ∧
    (n.take f.to f.bytes).2.flights = n.flights ∧ (n.take f.to f.bytes).2.now = n.now ∧ (n.take f.to f.bytes).2.players = n.players ∧ (n.take f.to f.bytes).2.delay = n.delay ∧ (n.take f.to f.bytes).2.window = n.window ∧ (n.take f.to f.bytes).2.lags = n.lags := by
  obtain ⟨p, start, ack, ins, e1, e2, e3, e4, e5, e6, e7, e8, e9, ht⟩ := honest h hf
  have hrp := h.realLe e2
  have hrt := h.realLe e4
  have hkt := h.knownLe e2 e4
  have hpl := h.hp.2
  have hg : GoodP (p : Int) (start : Int) (ack : Int) ins.length := ⟨⟨by omega, by omega⟩, ⟨by omega, by omega⟩, ⟨by omega, by omega⟩, e5⟩
  obtain ⟨_, o2, o3, o4, o5⟩ := pack_ok hg
  rw [ht]
  refine ⟨p, by rw [e1, o2], e2, e3, e4, fun i j => taken_len n f.to i j p start ack ins, fun i j hij => ⟨?_, ?_⟩, ?_, ?_, rfl, rfl, rfl, rfl, rfl, rfl⟩
  · show ((n.put f.to (taken (n.peers f.to) p start ack ins)).peers i).known j = _
    rw [taken_known, if_neg hij]
  · show ((n.put f.to (taken (n.peers f.to) p start ack ins)).peers i).acked j = _
    rw [taken_acked, if_neg hij]
  · show (((((n.put f.to (taken (n.peers f.to) p start ack ins)).peers f.to).known p).length : Nat) : Int) = _
    rw [taken_known, if_pos ⟨rfl, rfl⟩, e1, o3, o5]
    unfold learnt
    rw [List.length_append, List.length_drop]
    omega
  · show ((((n.put f.to (taken (n.peers f.to) p start ack ins)).peers f.to).acked p : Nat) : Int) = _
    rw [taken_acked, if_pos ⟨rfl, rfl⟩, e1, o4]
    omega
theorem Jnv.take {n : NetM} {real : Nat → List Int} (h : Inv n real) (j : Jnv n) {f : FlyM} (hf : FlyOk n real f) (hj : startL f.bytes + ((inputsL f.bytes).length : Int) ≤ ackL f.bytes + (n.delay : Int) + (n.window : Int)) : Jnv (n.take f.to f.bytes).2 := by
  obtain ⟨p, _, p2, p3, p4, _, p6, p7, p8, q1, q2, q3, q4, q5, q6⟩ := honest_left h hf
  refine { win8 := by rw [q5]; exact j.win8, known := fun a b ha hb hne => ?_, fly := fun g hg => ?_, due := fun g hg => ?_, lag := ?_ }
  · rw [q3] at ha hb
    rw [q4, q5]
    by_cases e : a = f.to ∧ b = p
    · rw [e.1, e.2]
      have := j.known f.to p p4 p2 (fun e => p3 e.symm)
      omega
    · rw [(p6 a b e).1, (p6 a b e).2]
      exact j.known a b ha hb hne
  · rw [q1] at hg; rw [q4, q5]; exact j.fly g hg
  · rw [q1] at hg; rw [q2]; exact j.due g hg
  · unfold LagOk; rw [q6]; exact j.lag
theorem Jnv.fewer {n : NetM} (j : Jnv n) (l : List FlyM) (hl : ∀ f ∈ l, f ∈ n.flights) : Jnv { n with flights := l } :=
  { win8 := j.win8, known := j.known, fly := fun f hf => j.fly f (hl f hf), due := fun f hf => j.due f (hl f hf), lag := j.lag }
theorem Jnv.later {n : NetM} (j : Jnv n) (t : Nat) (ht : n.now ≤ t) : Jnv { n with now := t } :=
  { win8 := j.win8, known := j.known, fly := j.fly, due := fun f hf => Nat.le_trans (j.due f hf) (by show n.now + 6 ≤ t + 6; omega), lag := j.lag }

theorem firstTo_min (l : List FlyM) : ∀ k i, i < k → (l.getD (firstTo l fly0 k) fly0).due ≤ (l.getD i fly0).due
  | k + 1, i, hi => by
    unfold firstTo
    split
    · rename_i hb
      by_cases e : i = k
      · subst e; exact Nat.le_refl _
      · have := firstTo_min l k i (by omega)
        unfold before at hb
        omega
    · rename_i hb
      by_cases e : i = k
      · subst e
        unfold before at hb
        omega
      · exact firstTo_min l k i (by omega)
theorem firstM_min (l : List FlyM) (f : FlyM) (hf : f ∈ l) : (l.getD (firstM l) fly0).due ≤ f.due := by
  obtain ⟨i, hi, e⟩ := List.getElem_of_mem hf
  have := firstTo_min l l.length i hi
  have e2 : l.getD i fly0 = f := by rw [List.getD_eq_getElem?_getD, List.getElem?_eq_getElem hi, Option.getD_some, e]
  rw [e2] at this
  exact this
theorem mem_or_erase (l : List FlyM) (i : Nat) (f : FlyM) (hf : f ∈ l) : f = l.getD i fly0 ∨ f ∈ l.eraseIdx i := by
  obtain ⟨j, hj, e⟩ := List.getElem_of_mem hf
  by_cases h : j = i
  · subst h
    left
    rw [List.getD_eq_getElem?_getD, List.getElem?_eq_getElem hj, Option.getD_some, e]
  · right
    rw [List.mem_eraseIdx_iff_getElem?]
    exact ⟨j, h, by rw [List.getElem?_eq_getElem hj, e]⟩

/-- When all that are due have come. -/
theorem come_spec {real : Nat → List Int} : ∀ k (n : NetM), Inv n real → Jnv n → n.flights.length ≤ k →
    Inv (comeM k n) real ∧ Jnv (comeM k n) ∧ (∀ f ∈ (comeM k n).flights, n.now < f.due ∧ f ∈ n.flights) ∧ (∀ i j, ((n.peers i).known j).length ≤ (((comeM k n).peers i).known j).length) ∧
    (∀ f ∈ n.flights, f ∈ (comeM k n).flights ∨ ∃ p : Nat, fromL f.bytes = (p : Int) ∧ startL f.bytes + ((inputsL f.bytes).length : Int) ≤ ((((comeM k n).peers f.to).known p).length : Int)) ∧
    ((comeM k n).players = n.players ∧ (comeM k n).now = n.now ∧ (comeM k n).delay = n.delay ∧ (comeM k n).window = n.window ∧ (comeM k n).lags = n.lags) ∧ (comeM k n).flights.length ≤ n.flights.length
  | 0, n, h, j, hk => by
    have he : n.flights = [] := List.eq_nil_of_length_eq_zero (by omega)
    refine ⟨h, j, fun f hf => ?_, fun _ _ => Nat.le_refl _, fun f hf => .inl hf, ⟨rfl, rfl, rfl, rfl, rfl⟩, Nat.le_refl _⟩
    simp [comeM, he] at hf
  | k + 1, n, h, j, hk => by
    unfold comeM
    by_cases he : n.flights = []
    · rw [if_pos he]
      refine ⟨h, j, fun f hf => ?_, fun _ _ => Nat.le_refl _, fun f hf => .inl hf, ⟨rfl, rfl, rfl, rfl, rfl⟩, Nat.le_refl _⟩
      rw [he] at hf; cases hf
    · rw [if_neg he]
      by_cases hd : n.now < (n.flights.getD (firstM n.flights) fly0).due
      · rw [if_pos hd]
        exact ⟨h, j, fun f hf => ⟨Nat.lt_of_lt_of_le hd (firstM_min _ f hf), hf⟩, fun _ _ => Nat.le_refl _, fun f hf => .inl hf, ⟨rfl, rfl, rfl, rfl, rfl⟩, Nat.le_refl _⟩
      · rw [if_neg hd]
        have hlt := firstM_lt n.flights he
        have hmem := getD_mem n.flights _ hlt
        generalize hF : n.flights.getD (firstM n.flights) fly0 = F at *
        have hsub : ∀ f ∈ n.flights.eraseIdx (firstM n.flights), f ∈ n.flights := fun f hf => List.mem_of_mem_eraseIdx hf
        have h1 := h.fewer _ hsub
        have j1 := j.fewer _ hsub
        have hF1 : FlyOk { n with flights := n.flights.eraseIdx (firstM n.flights) } real F := h.fly F hmem
        have h2 := (Inv.take h1 hF1).2
        have j2 := Jnv.take h1 j1 hF1 (j.fly F hmem)
        obtain ⟨p, p1, p2, p3, p4, p5, _, p7, _, q1, q2, q3, q4, q5, q6⟩ := honest_left h1 hF1
        generalize (({ n with flights := n.flights.eraseIdx (firstM n.flights) } : NetM).take F.to F.bytes).2 = n2 at *
        have hlen2 : n2.flights.length ≤ k := by
          rw [q1]
          show (n.flights.eraseIdx (firstM n.flights)).length ≤ k
          rw [List.length_eraseIdx_of_lt hlt]; omega
        obtain ⟨r1, r2, r3, r4, r5, r6, r7⟩ := come_spec k n2 h2 j2 hlen2
        have hl1 : n2.flights.length ≤ n.flights.length := by
          rw [q1]
          show (n.flights.eraseIdx (firstM n.flights)).length ≤ _
          rw [List.length_eraseIdx_of_lt hlt]; omega
        refine ⟨r1, r2, fun f hf => ?_, fun a b => Nat.le_trans (p5 a b) (r4 a b), fun f hf => ?_, ⟨r6.1.trans q3, r6.2.1.trans q2, r6.2.2.1.trans q4, r6.2.2.2.1.trans q5, r6.2.2.2.2.trans q6⟩, Nat.le_trans r7 hl1⟩
        · obtain ⟨s1, s2⟩ := r3 f hf
          rw [q2] at s1
          rw [q1] at s2
          exact ⟨s1, hsub f s2⟩
        · rcases mem_or_erase n.flights (firstM n.flights) f hf with e | e
          · right
            rw [hF] at e
            subst e
            refine ⟨p, p1, ?_⟩
            have := r4 f.to p
            omega
          · have : f ∈ n2.flights := by rw [q1]; exact e
            exact r5 f this
end Go.Proofs.YtandblanpafjoabGreatDoor

