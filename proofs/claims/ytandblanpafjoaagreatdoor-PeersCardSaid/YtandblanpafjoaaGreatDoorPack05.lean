import Derived.Test.YtandblanpafjoaaGreatDoorPack04
namespace Go.Proofs.YtandblanpafjoaaGreatDoor
open Go.RowKit
def FlyOk (n : NetM) (real : Nat → List Int) (f : FlyM) : Prop :=
  ∃ (p start ack : Nat) (ins : List Int), f.bytes = packL (p : Int) (start : Int) (ack : Int) ins ∧ p < n.players ∧ p ≠ f.to ∧ f.to < n.players ∧ ins.length ≤ 64 ∧ start + ins.length ≤ (real p).length ∧
    ins = ((real p).drop start).take ins.length ∧ start ≤ ((n.peers f.to).known p).length ∧ ack ≤ ((n.peers p).known f.to).length
structure Inv (n : NetM) (real : Nat → List Int) : Prop where
  hp : 2 ≤ n.players ∧ n.players ≤ 4
  hd : n.delay ≤ 3
  own : ∀ p, p < n.players → (n.peers p).known p = real p
  pre : ∀ p q, p < n.players → q < n.players → ∃ k, k ≤ (real q).length ∧ (n.peers p).known q = (real q).take k
  len : ∀ p, p < n.players → (n.peers p).frame + n.delay = (real p).length
  fr : ∀ p, p < n.players → (n.peers p).frame ≤ 200
  byte : ∀ p, p < n.players → InB (real p)
  ack : ∀ p q, p < n.players → q < n.players → p ≠ q → (n.peers p).acked q ≤ ((n.peers q).known p).length
  drop : ∀ p, p < n.players → (n.peers p).dropped = 0
  win : ∀ p, p < n.players → (n.peers p).frame ≤ n.conf p + n.window
  fly : ∀ f ∈ n.flights, FlyOk n real f
theorem Inv.knownLe {n : NetM} {real : Nat → List Int} (h : Inv n real) {p q : Nat} (hp : p < n.players) (hq : q < n.players) : ((n.peers p).known q).length ≤ (real q).length := by
  obtain ⟨k, hk, e⟩ := h.pre p q hp hq
  rw [e, List.length_take]; omega
theorem Inv.realLe {n : NetM} {real : Nat → List Int} (h : Inv n real) {p : Nat} (hp : p < n.players) : (real p).length ≤ 203 := by
  have := h.len p hp
  have := h.fr p hp
  have := h.hd
  omega
theorem Inv.new (players window delay : Nat) (lags : List Int) (hp : 2 ≤ players ∧ players ≤ 4) (hd : delay ≤ 3) : Inv (newM players window delay lags) (fun _ => List.replicate delay 0) where
  hp := hp
  hd := hd
  own _ _ := rfl
  pre _ _ _ _ := ⟨delay, by simp, by simp [newM]⟩
  len _ _ := by simp [newM]
  fr _ _ := by simp [newM]
  byte _ _ := by
    intro x hx
    rw [List.eq_of_mem_replicate hx]; exact ⟨by decide, by decide⟩
  ack _ _ _ _ _ := by simp [newM]
  drop _ _ := rfl
  win _ _ := by simp [newM]
  fly f hf := by simp [newM] at hf
theorem Inv.send {n : NetM} {real : Nat → List Int} (h : Inv n real) {p q : Nat} (hp : p < n.players) (hq : q < n.players) (hne : p ≠ q) : Inv (n.send p q) real where
  hp := h.hp
  hd := h.hd
  own := h.own
  pre := h.pre
  len := h.len
  fr := h.fr
  byte := h.byte
  ack := h.ack
  drop := h.drop
  win := h.win
  fly f hf := by
    have hold : ∀ f ∈ n.flights, FlyOk (n.send p q) real f := fun f hf => h.fly f hf
    by_cases hl : 0 ≤ n.lag
    · have e : (n.send p q).flights = n.flights ++ [{ to := q, due := n.now + n.lag.toNat, num := n.sent, bytes := packM (n.peers p) p q }] := by simp [NetM.send, hl]
      rw [e] at hf
      rcases List.mem_append.1 hf with hf | hf
      · exact hold f hf
      · obtain rfl := List.mem_singleton.1 hf
        have ha := h.ack p q hp hq hne
        have hk := h.knownLe hq hp
        refine ⟨p, (n.peers p).acked q, ((n.peers p).known q).length, (((n.peers p).known p).drop ((n.peers p).acked q)).take 64, rfl, hp, hne, hq, by simp; omega, ?_, ?_, ha, Nat.le_refl _⟩
        · rw [h.own p hp, List.length_take, List.length_drop]; omega
        · rw [h.own p hp]
          rw [List.take_eq_take_iff]
          simp
    · have e : (n.send p q).flights = n.flights := by simp [NetM.send, hl]
      rw [e] at hf
      exact hold f hf
theorem sendTo_same (n : NetM) (p : Nat) : ∀ k, (sendTo n p k).players = n.players ∧ (sendTo n p k).peers = n.peers ∧ (sendTo n p k).now = n.now ∧ (sendTo n p k).delay = n.delay ∧ (sendTo n p k).window = n.window ∧ (sendTo n p k).lags = n.lags
  | 0 => ⟨rfl, rfl, rfl, rfl, rfl, rfl⟩
  | k + 1 => by
    obtain ⟨h1, h2, h3, h4, h5, h6⟩ := sendTo_same n p k
    unfold sendTo
    split
    · exact ⟨h1, h2, h3, h4, h5, h6⟩
    · exact ⟨h1, h2, h3, h4, h5, h6⟩
theorem Inv.sendTo {n : NetM} {real : Nat → List Int} (h : Inv n real) {p : Nat} (hp : p < n.players) : ∀ k, k ≤ n.players → Inv (sendTo n p k) real
  | 0, _ => h
  | k + 1, hk => by
    have ih := Inv.sendTo h hp k (by omega)
    have hs := (sendTo_same n p k).1
    unfold Go.Proofs.YtandblanpafjoaaGreatDoor.sendTo
    split
    · exact ih
    · exact ih.send (by omega) (by omega) (by omega)
theorem confTo_frame (x : PeerM) : ∀ k, confTo x k ≤ x.frame
  | 0 => Nat.le_refl _
  | k + 1 => by unfold confTo; have := confTo_frame x k; omega
theorem confTo_known (x : PeerM) : ∀ k q, q < k → confTo x k ≤ (x.known q).length
  | k + 1, q, hq => by
    unfold confTo
    by_cases h : q = k
    · subst h; omega
    · have := confTo_known x k q (by omega); omega
theorem confTo_mono {x y : PeerM} (hf : x.frame ≤ y.frame) : ∀ k, (∀ q, q < k → (x.known q).length ≤ (y.known q).length) → confTo x k ≤ confTo y k
  | 0, _ => hf
  | k + 1, h => by
    unfold confTo
    have := confTo_mono hf k (fun q hq => h q (by omega))
    have := h k (by omega)
    omega
def grown (real : Nat → List Int) (p : Nat) (v : Int) : Nat → List Int := fun q => if q = p then real p ++ [v] else real q
theorem grown_same (real : Nat → List Int) (p : Nat) (v : Int) : grown real p v p = real p ++ [v] := by simp [grown]
theorem grown_other (real : Nat → List Int) (p q : Nat) (v : Int) (h : q ≠ p) : grown real p v q = real q := by simp [grown, h]
theorem stepped_known (n : NetM) (p i j : Nat) (v : Int) : ((n.stepped p v).peers i).known j = if i = p ∧ j = p then (n.peers p).known p ++ [v] else (n.peers i).known j := by
  unfold NetM.stepped NetM.put PeerM.learn
  by_cases hi : i = p
  · subst hi
    by_cases hj : j = i
    · subst hj; simp
    · simp [hj]
  · simp [hi]
theorem stepped_acked (n : NetM) (p i : Nat) (v : Int) : ((n.stepped p v).peers i).acked = (n.peers i).acked := by
  unfold NetM.stepped NetM.put PeerM.learn
  by_cases hi : i = p <;> simp [hi]
theorem stepped_dropped (n : NetM) (p i : Nat) (v : Int) : ((n.stepped p v).peers i).dropped = (n.peers i).dropped := by
  unfold NetM.stepped NetM.put PeerM.learn
  by_cases hi : i = p <;> simp [hi]
theorem stepped_frame (n : NetM) (p i : Nat) (v : Int) : ((n.stepped p v).peers i).frame = if i = p then (n.peers p).frame + 1 else (n.peers i).frame := by
  unfold NetM.stepped NetM.put PeerM.learn
  by_cases hi : i = p <;> simp [hi]
theorem stepped_len (n : NetM) (p i j : Nat) (v : Int) : ((n.peers i).known j).length ≤ (((n.stepped p v).peers i).known j).length := by
  rw [stepped_known]
  split
  · rename_i h; rw [h.1, h.2]; simp
  · exact Nat.le_refl _
theorem Inv.stepped {n : NetM} {real : Nat → List Int} (h : Inv n real) {p : Nat} (hp : p < n.players) (v : Int) (hv : 0 ≤ v ∧ v ≤ 255) (hf : (n.peers p).frame < 200) (hw : (n.peers p).frame < n.conf p + n.window) : Inv (n.stepped p v) (grown real p v) where
  hp := h.hp
  hd := h.hd
  own q hq := by
    rw [stepped_known]
    by_cases e : q = p
    · subst e; rw [if_pos ⟨rfl, rfl⟩, grown_same, h.own q hp]
    · rw [if_neg (by simp [e]), grown_other _ _ _ _ e]; exact h.own q hq
  pre a b ha hb := by
    rw [stepped_known]
    by_cases e : b = p
    · subst e
      rw [grown_same]
      split
      · exact ⟨(real b ++ [v]).length, Nat.le_refl _, by rw [List.take_length, h.own b hp]⟩
      · obtain ⟨k, hk, e⟩ := h.pre a b ha hb
        exact ⟨k, by simp; omega, by rw [e, List.take_append_of_le_length hk]⟩
    · rw [if_neg (by simp [e]), grown_other _ _ _ _ e]; exact h.pre a b ha hb
  len q hq := by
    have := h.len q hq
    rw [stepped_frame]
    by_cases e : q = p
    · subst e; rw [if_pos rfl, grown_same]; show _ + 1 + n.delay = _; simp; omega
    · rw [if_neg e, grown_other _ _ _ _ e]; exact this
  fr q hq := by
    have := h.fr q hq
    rw [stepped_frame]
    split
    · omega
    · exact this
  byte q hq := by
    by_cases e : q = p
    · subst e; rw [grown_same]; exact (h.byte q hp).app (fun x hx => by rw [List.mem_singleton.1 hx]; exact hv)
    · rw [grown_other _ _ _ _ e]; exact h.byte q hq
  ack a b ha hb hne := by
    rw [stepped_acked]
    exact Nat.le_trans (h.ack a b ha hb hne) (stepped_len n p b a v)
  drop q hq := by rw [stepped_dropped]; exact h.drop q hq
  win q hq := by
    have hm : n.conf q ≤ (n.stepped p v).conf q := confTo_mono (by rw [stepped_frame]; split <;> (try subst_vars) <;> omega) _ (fun j _ => stepped_len n p q j v)
    have h1 := h.win q hq
    show _ ≤ (n.stepped p v).conf q + n.window
    rw [stepped_frame]
    by_cases e : q = p
    · subst e; rw [if_pos rfl]; omega
    · rw [if_neg e]; omega
  fly f hf := by
    obtain ⟨a, start, ack, ins, e1, e2, e3, e4, e5, e6, e7, e8, e9⟩ := h.fly f hf
    refine ⟨a, start, ack, ins, e1, e2, e3, e4, e5, ?_, ?_, Nat.le_trans e8 (stepped_len n p _ _ v), Nat.le_trans e9 (stepped_len n p _ _ v)⟩
    · by_cases e : a = p
      · subst e; rw [grown_same]; simp; omega
      · rw [grown_other _ _ _ _ e]; exact e6
    · by_cases e : a = p
      · subst e
        rw [grown_same, List.drop_append_of_le_length (by omega), List.take_append_of_le_length (by simp; omega)]
        exact e7
      · rw [grown_other _ _ _ _ e]; exact e7
theorem Inv.advance {n : NetM} {real : Nat → List Int} (h : Inv n real) {p : Nat} (hp : p < n.players) (v : Int) (hv : 0 ≤ v ∧ v ≤ 255) : Inv (n.advance p v).2 (if (n.advance p v).1 = 0 then grown real p v else real) := by
  unfold NetM.advance
  by_cases h1 : (n.peers p).frame = 200
  · rw [if_pos h1, if_neg (by simp)]; exact h
  · rw [if_neg h1]
    by_cases h2 : n.window ≤ (n.peers p).frame - n.conf p
    · rw [if_pos h2, if_neg (by simp)]; exact h
    · rw [if_neg h2, if_pos rfl]
      have := h.fr p hp
      exact (h.stepped hp v hv (by omega) (by omega)).sendTo hp _ (Nat.le_refl _)
end Go.Proofs.YtandblanpafjoaaGreatDoor

namespace Go.Proofs.YtandblanpafjoaaGreatDoor
open Go.RowKit
theorem learnt_take (r : List Int) (L start m : Nat) (h1 : start ≤ L) (h2 : L ≤ r.length) : learnt (r.take L) start ((r.drop start).take m) = r.take (max L (start + m)) := by
  unfold learnt
  rw [List.length_take, Nat.min_eq_left h2, List.drop_take, List.drop_drop, show start + (L - start) = L by omega]
  by_cases h : start + m ≤ L
  · rw [show m - (L - start) = 0 by omega, List.take_zero, List.append_nil, Nat.max_eq_left h]
  · rw [Nat.max_eq_right (by omega)]
    rw [show start + m = L + (m - (L - start)) by omega, List.take_add]
theorem taken_known (n : NetM) (to i j q start ack : Nat) (ins : List Int) : ((n.put to (taken (n.peers to) q start ack ins)).peers i).known j = if i = to ∧ j = q then learnt ((n.peers to).known q) start ins else (n.peers i).known j := by
  unfold NetM.put taken PeerM.learn
  by_cases hi : i = to
  · subst hi
    by_cases hj : j = q
    · subst hj; simp
    · simp [hj]
  · simp [hi]
theorem taken_acked (n : NetM) (to i j q start ack : Nat) (ins : List Int) : ((n.put to (taken (n.peers to) q start ack ins)).peers i).acked j = if i = to ∧ j = q then max ((n.peers to).acked q) ack else (n.peers i).acked j := by
  unfold NetM.put taken PeerM.learn
  by_cases hi : i = to
  · subst hi
    by_cases hj : j = q
    · subst hj; simp
    · simp [hj]
  · simp [hi]
theorem taken_frame (n : NetM) (to i q start ack : Nat) (ins : List Int) : ((n.put to (taken (n.peers to) q start ack ins)).peers i).frame = (n.peers i).frame := by
  unfold NetM.put taken PeerM.learn
  by_cases hi : i = to <;> simp [hi]
theorem taken_dropped (n : NetM) (to i q start ack : Nat) (ins : List Int) : ((n.put to (taken (n.peers to) q start ack ins)).peers i).dropped = (n.peers i).dropped := by
  unfold NetM.put taken PeerM.learn
  by_cases hi : i = to <;> simp [hi]
theorem learnt_len (l : List Int) (start : Nat) (ins : List Int) : l.length ≤ (learnt l start ins).length := by simp [learnt]
theorem taken_len (n : NetM) (to i j q start ack : Nat) (ins : List Int) : ((n.peers i).known j).length ≤ (((n.put to (taken (n.peers to) q start ack ins)).peers i).known j).length := by
  rw [taken_known]
  split
  · rename_i h; rw [h.1, h.2]; exact learnt_len _ _ _
  · exact Nat.le_refl _
/-- An honest packet is taken. -/
theorem honest {n : NetM} {real : Nat → List Int} (h : Inv n real) {f : FlyM} (hf : FlyOk n real f) : ∃ (p start ack : Nat) (ins : List Int), f.bytes = packL (p : Int) (start : Int) (ack : Int) ins ∧ p < n.players ∧ p ≠ f.to ∧ f.to < n.players ∧ ins.length ≤ 64 ∧ start + ins.length ≤ (real p).length ∧ ins = ((real p).drop start).take ins.length ∧ start ≤ ((n.peers f.to).known p).length ∧ ack ≤ ((n.peers p).known f.to).length ∧ n.take f.to f.bytes = (true, n.put f.to (taken (n.peers f.to) p start ack ins)) := by
  obtain ⟨p, start, ack, ins, e1, e2, e3, e4, e5, e6, e7, e8, e9⟩ := hf
  refine ⟨p, start, ack, ins, e1, e2, e3, e4, e5, e6, e7, e8, e9, ?_⟩
  have hrp := h.realLe e2
  have hrt := h.realLe e4
  have hkt := h.knownLe e2 e4
  have hpl := h.hp.2
  have hg : GoodP (p : Int) (start : Int) (ack : Int) ins.length := ⟨⟨by omega, by omega⟩, ⟨by omega, by omega⟩, ⟨by omega, by omega⟩, e5⟩
  obtain ⟨o1, o2, o3, o4, o5⟩ := pack_ok hg
  have hlen := h.len p e2
  have hfr := h.fr p e2
  unfold NetM.take
  rw [e1, o2, o3, o4, o5]
  rw [if_pos]
  · simp
  · refine ⟨o1, ?_, ?_, ?_, ?_, ?_⟩
    · rw [o2]; omega
    · rw [o2]; omega
    · rw [o2, o3]; simpa using e8
    · rw [o3, o5]; omega
    · rw [o4, h.own f.to e4]; omega
theorem Inv.take {n : NetM} {real : Nat → List Int} (h : Inv n real) {f : FlyM} (hf : FlyOk n real f) : (n.take f.to f.bytes).1 = true ∧ Inv (n.take f.to f.bytes).2 real := by
  obtain ⟨p, start, ack, ins, _, e2, e3, e4, e5, e6, e7, e8, e9, ht⟩ := honest h hf
  rw [ht]
  refine ⟨rfl, ?_⟩
  exact
  { hp := h.hp
    hd := h.hd
    own := fun q hq => by
      show ((n.put f.to (taken (n.peers f.to) p start ack ins)).peers q).known q = real q
      rw [taken_known, if_neg (fun hh => e3 (hh.2.symm.trans hh.1))]
      exact h.own q hq
    pre := fun a b ha hb => by
      show ∃ k, k ≤ (real b).length ∧ ((n.put f.to (taken (n.peers f.to) p start ack ins)).peers a).known b = (real b).take k
      rw [taken_known]
      split
      · rename_i hh
        obtain ⟨k, hk, e⟩ := h.pre f.to p e4 e2
        rw [hh.2]
        have hk8 : start ≤ k := by rw [e, List.length_take] at e8; omega
        refine ⟨max k (start + ins.length), by omega, ?_⟩
        rw [e, e7]
        have := learnt_take (real p) k start ins.length hk8 hk
        rw [← e7] at this ⊢
        exact this
      · exact h.pre a b ha hb
    len := fun q hq => by
      show ((n.put f.to (taken (n.peers f.to) p start ack ins)).peers q).frame + n.delay = _
      rw [taken_frame]; exact h.len q hq
    fr := fun q hq => by
      show ((n.put f.to (taken (n.peers f.to) p start ack ins)).peers q).frame ≤ 200
      rw [taken_frame]; exact h.fr q hq
    byte := h.byte
    ack := fun a b ha hb hne => by
      show ((n.put f.to (taken (n.peers f.to) p start ack ins)).peers a).acked b ≤ (((n.put f.to (taken (n.peers f.to) p start ack ins)).peers b).known a).length
      refine Nat.le_trans ?_ (taken_len n f.to b a p start ack ins)
      rw [taken_acked]
      split
      · rename_i hh
        rw [hh.1, hh.2]
        have := h.ack f.to p e4 e2 (fun e => e3 e.symm)
        omega
      · exact h.ack a b ha hb hne
    drop := fun q hq => by
      show ((n.put f.to (taken (n.peers f.to) p start ack ins)).peers q).dropped = 0
      rw [taken_dropped]; exact h.drop q hq
    win := fun q hq => by
      have hm : n.conf q ≤ (n.put f.to (taken (n.peers f.to) p start ack ins)).conf q := confTo_mono (by rw [taken_frame]; exact Nat.le_refl _) _ (fun j _ => taken_len n f.to q j p start ack ins)
      have h1 := h.win q hq
      show ((n.put f.to (taken (n.peers f.to) p start ack ins)).peers q).frame ≤ (n.put f.to (taken (n.peers f.to) p start ack ins)).conf q + n.window
      rw [taken_frame]
      omega
    fly := fun g hg => by
      obtain ⟨a, st, ak, is, g1, g2, g3, g4, g5, g6, g7, g8, g9⟩ := h.fly g hg
      exact ⟨a, st, ak, is, g1, g2, g3, g4, g5, g6, g7, Nat.le_trans g8 (taken_len n f.to _ _ p start ack ins), Nat.le_trans g9 (taken_len n f.to _ _ p start ack ins)⟩ }
theorem firstTo_lt (l : List FlyM) (d : FlyM) : ∀ k, 0 < k → firstTo l d k < k
  | k + 1, _ => by
    unfold firstTo
    split
    · omega
    · by_cases h : k = 0
      · subst h; simp [firstTo]
      · have := firstTo_lt l d k (by omega); omega
theorem firstM_lt (l : List FlyM) (h : l ≠ []) : firstM l < l.length := firstTo_lt l fly0 _ (List.length_pos_iff.2 h)
theorem getD_mem (l : List FlyM) (i : Nat) (h : i < l.length) : l.getD i fly0 ∈ l := by
  rw [List.getD_eq_getElem?_getD, List.getElem?_eq_getElem h]; exact List.getElem_mem h
theorem Inv.fewer {n : NetM} {real : Nat → List Int} (h : Inv n real) (l : List FlyM) (hl : ∀ f ∈ l, f ∈ n.flights) : Inv { n with flights := l } real :=
  { hp := h.hp, hd := h.hd, own := h.own, pre := h.pre, len := h.len, fr := h.fr, byte := h.byte, ack := h.ack, drop := h.drop, win := h.win, fly := fun f hf => h.fly f (hl f hf) }
theorem Inv.later {n : NetM} {real : Nat → List Int} (h : Inv n real) (t : Nat) : Inv { n with now := t } real :=
  { hp := h.hp, hd := h.hd, own := h.own, pre := h.pre, len := h.len, fr := h.fr, byte := h.byte, ack := h.ack, drop := h.drop, win := h.win, fly := h.fly }
theorem Inv.come {real : Nat → List Int} : ∀ k (n : NetM), Inv n real → Inv (comeM k n) real
  | 0, _, h => h
  | k + 1, n, h => by
    unfold comeM
    split
    · exact h
    · split
      · exact h
      · rename_i hne _
        have hf := h.fly _ (getD_mem n.flights _ (firstM_lt n.flights hne))
        exact Inv.come k _ (Inv.take (h.fewer _ (fun f hf => List.mem_of_mem_eraseIdx hf)) hf).2
theorem againTo_same (n : NetM) (p : Nat) : ∀ k, (againTo n p k).players = n.players ∧ (againTo n p k).peers = n.peers ∧ (againTo n p k).now = n.now ∧ (againTo n p k).delay = n.delay ∧ (againTo n p k).window = n.window ∧ (againTo n p k).lags = n.lags
  | 0 => ⟨rfl, rfl, rfl, rfl, rfl, rfl⟩
  | k + 1 => by
    obtain ⟨h1, h2, h3, h4, h5, h6⟩ := againTo_same n p k
    unfold againTo
    split
    · exact ⟨h1, h2, h3, h4, h5, h6⟩
    · exact ⟨h1, h2, h3, h4, h5, h6⟩
theorem Inv.againTo {n : NetM} {real : Nat → List Int} (h : Inv n real) {p : Nat} (hp : p < n.players) : ∀ k, k ≤ n.players → Inv (againTo n p k) real
  | 0, _ => h
  | k + 1, hk => by
    have ih := Inv.againTo h hp k (by omega)
    have hs := (againTo_same n p k).1
    unfold Go.Proofs.YtandblanpafjoaaGreatDoor.againTo
    split
    · rename_i hh
      exact ih.send (by omega) (by omega) (fun e => hh.1 e.symm)
    · exact ih
theorem againAll_same (n : NetM) : ∀ k, (againAll n k).players = n.players ∧ (againAll n k).peers = n.peers ∧ (againAll n k).now = n.now ∧ (againAll n k).delay = n.delay ∧ (againAll n k).window = n.window ∧ (againAll n k).lags = n.lags
  | 0 => ⟨rfl, rfl, rfl, rfl, rfl, rfl⟩
  | k + 1 => by
    obtain ⟨h1, h2, h3, h4, h5, h6⟩ := againAll_same n k
    obtain ⟨g1, g2, g3, g4, g5, g6⟩ := againTo_same (againAll n k) k n.players
    unfold againAll
    exact ⟨g1.trans h1, g2.trans h2, g3.trans h3, g4.trans h4, g5.trans h5, g6.trans h6⟩
theorem Inv.againAll {n : NetM} {real : Nat → List Int} (h : Inv n real) : ∀ k, k ≤ n.players → Inv (againAll n k) real
  | 0, _ => h
  | k + 1, hk => by
    have ih := Inv.againAll h k (by omega)
    have hs := (againAll_same n k).1
    unfold Go.Proofs.YtandblanpafjoaaGreatDoor.againAll
    exact ih.againTo (by omega) _ (by omega)
theorem Inv.tick {n : NetM} {real : Nat → List Int} (h : Inv n real) : Inv n.tick real := by
  unfold NetM.tick
  exact (Inv.come _ _ (h.later _)).againAll _ (Nat.le_refl _)
theorem Inv.inputs {n : NetM} {real : Nat → List Int} (h : Inv n real) {p q f : Nat} (hp : p < n.players) (hq : q < n.players) (hf : f < n.conf p) : inputM (n.peers p) q f = (real q).getD f 0 ∧ f < (real q).length := by
  have h1 : n.conf p ≤ ((n.peers p).known q).length := confTo_known _ _ _ hq
  obtain ⟨k, hk, e⟩ := h.pre p q hp hq
  have h2 : f < k := by rw [e, List.length_take] at h1; omega
  unfold inputM
  rw [if_pos (by omega), e, List.getD_eq_getElem?_getD, List.getD_eq_getElem?_getD, List.getElem?_take, if_pos h2]
  exact ⟨rfl, by omega⟩
/-- The first f frames of what was put in. -/
def rowsM (real : Nat → List Int) (players f : Nat) : List (List Int) := (List.range f).map fun k => (List.range players).map fun q => (real q).getD k 0
theorem Inv.frames {n : NetM} {real : Nat → List Int} (h : Inv n real) {p : Nat} (hp : p < n.players) : framesM (n.peers p) n.players (n.conf p) = rowsM real n.players (n.conf p) := by
  unfold framesM rowsM
  apply List.map_congr_left
  intro k hk
  unfold insM
  apply List.map_congr_left
  intro q hq
  exact (h.inputs hp (List.mem_range.1 hq) (List.mem_range.1 hk)).1
end Go.Proofs.YtandblanpafjoaaGreatDoor

namespace Go.Proofs.YtandblanpafjoaaGreatDoor
open Go.RowKit
def LagOk (n : NetM) : Prop := ∀ x ∈ n.lags, 0 ≤ x ∧ x ≤ 6
theorem lag_range {n : NetM} (h : LagOk n) : 0 ≤ n.lag ∧ n.lag ≤ 6 := by
  unfold NetM.lag
  split
  · exact ⟨by decide, by decide⟩
  · rename_i hne
    have hl : n.sent % n.lags.length < n.lags.length := Nat.mod_lt _ (List.length_pos_iff.2 hne)
    rw [List.getD_eq_getElem?_getD, List.getElem?_eq_getElem hl]
    exact h _ (List.getElem_mem hl)
structure Jnv (n : NetM) : Prop where
  win8 : n.window ≤ 8
  known : ∀ p q, p < n.players → q < n.players → p ≠ q → ((n.peers p).known q).length ≤ (n.peers p).acked q + n.delay + n.window
  fly : ∀ f ∈ n.flights, startL f.bytes + ((inputsL f.bytes).length : Int) ≤ ackL f.bytes + (n.delay : Int) + (n.window : Int)
  due : ∀ f ∈ n.flights, f.due ≤ n.now + 6
  lag : LagOk n
theorem Jnv.new (players window delay : Nat) (lags : List Int) (hw : window ≤ 8) (hl : ∀ x ∈ lags, 0 ≤ x ∧ x ≤ 6) : Jnv (newM players window delay lags) where
  win8 := hw
  known _ _ _ _ _ := by simp [newM]; omega
  fly f hf := by simp [newM] at hf
  due f hf := by simp [newM] at hf
  lag := hl
/-- What a peer sends. -/
theorem sent_parts {n : NetM} {real : Nat → List Int} (h : Inv n real) {p q : Nat} (hp : p < n.players) (hq : q < n.players) (hne : p ≠ q) :
    fromL (packM (n.peers p) p q) = (p : Int) ∧ startL (packM (n.peers p) p q) = ((n.peers p).acked q : Int) ∧ ackL (packM (n.peers p) p q) = (((n.peers p).known q).length : Int) ∧ inputsL (packM (n.peers p) p q) = ((real p).drop ((n.peers p).acked q)).take 64 := by
  have ha := h.ack p q hp hq hne
  have hk := h.knownLe hq hp
  have hk2 := h.knownLe hp hq
  have hr := h.realLe hp
  have hr2 := h.realLe hq
  have hpl := h.hp.2
  unfold packM
  rw [h.own p hp]
  have hg : GoodP (p : Int) ((n.peers p).acked q : Int) (((n.peers p).known q).length : Int) (((real p).drop ((n.peers p).acked q)).take 64).length := ⟨⟨by omega, by omega⟩, ⟨by omega, by omega⟩, ⟨by omega, by omega⟩, by simp; omega⟩
  exact (pack_ok hg).2
theorem Jnv.send {n : NetM} {real : Nat → List Int} (h : Inv n real) (j : Jnv n) {p q : Nat} (hp : p < n.players) (hq : q < n.players) (hne : p ≠ q) : Jnv (n.send p q) := by
  have hlag := lag_range j.lag
  have e : (n.send p q).flights = n.flights ++ [{ to := q, due := n.now + n.lag.toNat, num := n.sent, bytes := packM (n.peers p) p q }] := by simp [NetM.send, hlag.1]
  refine { win8 := j.win8, known := j.known, fly := fun f hf => ?_, due := fun f hf => ?_, lag := j.lag }
  · rw [e] at hf
    rcases List.mem_append.1 hf with hf | hf
    · exact j.fly f hf
    · obtain rfl := List.mem_singleton.1 hf
      obtain ⟨_, s2, s3, s4⟩ := sent_parts h hp hq hne
      have hlen := h.len p hp
      have hwin := h.win p hp
      have hc : n.conf p ≤ ((n.peers p).known q).length := confTo_known _ _ _ hq
      have ha := h.ack p q hp hq hne
      have hk := h.knownLe hq hp
      show startL (packM (n.peers p) p q) + ((inputsL (packM (n.peers p) p q)).length : Int) ≤ ackL (packM (n.peers p) p q) + (n.delay : Int) + (n.window : Int)
      rw [s2, s3, s4, List.length_take, List.length_drop]
      omega
  · rw [e] at hf
    rcases List.mem_append.1 hf with hf | hf
    · exact j.due f hf
    · obtain rfl := List.mem_singleton.1 hf
      show n.now + n.lag.toNat ≤ n.now + 6
      omega
theorem Jnv.sendTo {n : NetM} {real : Nat → List Int} (h : Inv n real) (j : Jnv n) {p : Nat} (hp : p < n.players) : ∀ k, k ≤ n.players → Jnv (sendTo n p k)
  | 0, _ => j
  | k + 1, hk => by
    have ih := Jnv.sendTo h j hp k (by omega)
    have hs := (sendTo_same n p k).1
    unfold Go.Proofs.YtandblanpafjoaaGreatDoor.sendTo
    split
    · exact ih
    · exact Jnv.send (h.sendTo hp k (by omega)) ih (by omega) (by omega) (by omega)
theorem Jnv.stepped {n : NetM} (j : Jnv n) (p : Nat) (v : Int) : Jnv (n.stepped p v) where
  win8 := j.win8
  known a b ha hb hne := by
    rw [stepped_known, stepped_acked, if_neg (fun e => hne (e.1.trans e.2.symm))]
    exact j.known a b ha hb hne
  fly := j.fly
  due := j.due
  lag := j.lag
theorem Jnv.advance {n : NetM} {real : Nat → List Int} (h : Inv n real) (j : Jnv n) {p : Nat} (hp : p < n.players) (v : Int) (hv : 0 ≤ v ∧ v ≤ 255) : Jnv (n.advance p v).2 := by
  unfold NetM.advance
  by_cases h1 : (n.peers p).frame = 200
  · rw [if_pos h1]; exact j
  · rw [if_neg h1]
    by_cases h2 : n.window ≤ (n.peers p).frame - n.conf p
    · rw [if_pos h2]; exact j
    · rw [if_neg h2]
      have := h.fr p hp
      exact Jnv.sendTo (h.stepped hp v hv (by omega) (by omega)) (j.stepped p v) hp _ (Nat.le_refl _)
/-- What an honest packet leaves behind. -/
theorem honest_left {n : NetM} {real : Nat → List Int} (h : Inv n real) {f : FlyM} (hf : FlyOk n real f) : ∃ p : Nat, fromL f.bytes = (p : Int) ∧ p < n.players ∧ p ≠ f.to ∧ f.to < n.players ∧
    (∀ i j, ((n.peers i).known j).length ≤ (((n.take f.to f.bytes).2.peers i).known j).length) ∧ (∀ i j, ¬ (i = f.to ∧ j = p) → ((n.take f.to f.bytes).2.peers i).known j = (n.peers i).known j ∧ ((n.take f.to f.bytes).2.peers i).acked j = (n.peers i).acked j) ∧
    ((((n.take f.to f.bytes).2.peers f.to).known p).length : Int) = max ((((n.peers f.to).known p).length : Int)) (startL f.bytes + ((inputsL f.bytes).length : Int)) ∧ ((((n.take f.to f.bytes).2.peers f.to).acked p : Nat) : Int) = max (((n.peers f.to).acked p : Nat) : Int) (ackL f.bytes) ∧
    (n.take f.to f.bytes).2.flights = n.flights ∧ (n.take f.to f.bytes).2.now = n.now ∧ (n.take f.to f.bytes).2.players = n.players ∧ (n.take f.to f.bytes).2.delay = n.delay ∧ (n.take f.to f.bytes).2.window = n.window ∧ (n.take f.to f.bytes).2.lags = n.lags := by
  obtain ⟨p, start, ack, ins, e1, e2, e3, e4, e5, e6, e7, e8, e9, ht⟩ := honest h hf
  have hrp := h.realLe e2
  have hrt := h.realLe e4
  have hkt := h.knownLe e2 e4
  have hpl := h.hp.2
  have hg : GoodP (p : Int) (start : Int) (ack : Int) ins.length := ⟨⟨by omega, by omega⟩, ⟨by omega, by omega⟩, ⟨by omega, by omega⟩, e5⟩
  obtain ⟨_, o2, o3, o4, o5⟩ := pack_ok hg
  rw [ht]
  refine ⟨p, by rw [e1, o2], e2, e3, e4, fun i j => taken_len n f.to i j p start ack ins, fun i j hij => ⟨?_, ?_⟩, ?_, ?_, rfl, rfl, rfl, rfl, rfl, rfl⟩
  · show ((n.put f.to (taken (n.peers f.to) p start ack ins)).peers i).known j = _
    rw [taken_known, if_neg hij]
  · show ((n.put f.to (taken (n.peers f.to) p start ack ins)).peers i).acked j = _
    rw [taken_acked, if_neg hij]
  · show (((((n.put f.to (taken (n.peers f.to) p start ack ins)).peers f.to).known p).length : Nat) : Int) = _
    rw [taken_known, if_pos ⟨rfl, rfl⟩, e1, o3, o5]
    unfold learnt
    rw [List.length_append, List.length_drop]
    omega
  · show ((((n.put f.to (taken (n.peers f.to) p start ack ins)).peers f.to).acked p : Nat) : Int) = _
    rw [taken_acked, if_pos ⟨rfl, rfl⟩, e1, o4]
    omega
theorem Jnv.take {n : NetM} {real : Nat → List Int} (h : Inv n real) (j : Jnv n) {f : FlyM} (hf : FlyOk n real f) (hj : startL f.bytes + ((inputsL f.bytes).length : Int) ≤ ackL f.bytes + (n.delay : Int) + (n.window : Int)) : Jnv (n.take f.to f.bytes).2 := by
  obtain ⟨p, _, p2, p3, p4, _, p6, p7, p8, q1, q2, q3, q4, q5, q6⟩ := honest_left h hf
  refine { win8 := by rw [q5]; exact j.win8, known := fun a b ha hb hne => ?_, fly := fun g hg => ?_, due := fun g hg => ?_, lag := ?_ }
  · rw [q3] at ha hb
    rw [q4, q5]
    by_cases e : a = f.to ∧ b = p
    · rw [e.1, e.2]
      have := j.known f.to p p4 p2 (fun e => p3 e.symm)
      omega
    · rw [(p6 a b e).1, (p6 a b e).2]
      exact j.known a b ha hb hne
  · rw [q1] at hg; rw [q4, q5]; exact j.fly g hg
  · rw [q1] at hg; rw [q2]; exact j.due g hg
  · unfold LagOk; rw [q6]; exact j.lag
theorem Jnv.fewer {n : NetM} (j : Jnv n) (l : List FlyM) (hl : ∀ f ∈ l, f ∈ n.flights) : Jnv { n with flights := l } :=
  { win8 := j.win8, known := j.known, fly := fun f hf => j.fly f (hl f hf), due := fun f hf => j.due f (hl f hf), lag := j.lag }
theorem Jnv.later {n : NetM} (j : Jnv n) (t : Nat) (ht : n.now ≤ t) : Jnv { n with now := t } :=
  { win8 := j.win8, known := j.known, fly := j.fly, due := fun f hf => Nat.le_trans (j.due f hf) (by show n.now + 6 ≤ t + 6; omega), lag := j.lag }
end Go.Proofs.YtandblanpafjoaaGreatDoor

namespace Go.Proofs.YtandblanpafjoaaGreatDoor
open Go.RowKit
theorem Jnv.againTo {n : NetM} {real : Nat → List Int} (h : Inv n real) (j : Jnv n) {p : Nat} (hp : p < n.players) : ∀ k, k ≤ n.players → Jnv (againTo n p k)
  | 0, _ => j
  | k + 1, hk => by
    have ih := Jnv.againTo h j hp k (by omega)
    have hs := (againTo_same n p k).1
    unfold Go.Proofs.YtandblanpafjoaaGreatDoor.againTo
    split
    · rename_i hh
      exact Jnv.send (h.againTo hp k (by omega)) ih (by omega) (by omega) (fun e => hh.1 e.symm)
    · exact ih
theorem Jnv.againAll {n : NetM} {real : Nat → List Int} (h : Inv n real) (j : Jnv n) : ∀ k, k ≤ n.players → Jnv (againAll n k)
  | 0, _ => j
  | k + 1, hk => by
    have ih := Jnv.againAll h j k (by omega)
    have hs := (againAll_same n k).1
    unfold Go.Proofs.YtandblanpafjoaaGreatDoor.againAll
    exact Jnv.againTo (h.againAll k (by omega)) ih (by omega) _ (by omega)
theorem take_flights (n : NetM) (p : Nat) (b : List Int) : (n.take p b).2.flights = n.flights := by
  unfold NetM.take
  split <;> rfl
def cnt (l : List FlyM) (t : Nat) : Nat := (l.filter fun f => decide (t < f.due)).length
/-- All know all. -/
def Full (n : NetM) (real : Nat → List Int) : Prop := ∀ p q, p < n.players → q < n.players → ((n.peers p).known q).length = (real q).length
def Pend (n : NetM) (real : Nat → List Int) (D : Nat) : Prop :=
  ∀ p q, p < n.players → q < n.players → p ≠ q → ((n.peers q).known p).length = (real p).length ∨ ∃ f ∈ n.flights, f.to = q ∧ fromL f.bytes = (p : Int) ∧ startL f.bytes + ((inputsL f.bytes).length : Int) = ((real p).length : Int) ∧ f.due ≤ D
def ticks (n : NetM) : Nat → NetM
  | 0 => n
  | k + 1 => (ticks n k).tick
end Go.Proofs.YtandblanpafjoaaGreatDoor

