import Derived.Test.YtandblanpafjoabGreatDoorNetM
namespace Go.Proofs.YtandblanpafjoabGreatDoor
open Go.RowKit

/-! What always holds of a net among honest packets: what is known of a player is a beginning of what it put in. -/
def FlyOk (n : NetM) (real : Nat → List Int) (f : FlyM) : Prop :=
  ∃ (p start ack : Nat) (ins : List Int), f.bytes = packL (p : Int) (start : Int) (ack : Int) ins ∧ p < n.players ∧ p ≠ f.to ∧ f.to < n.players ∧ ins.length ≤ 64 ∧ start + ins.length ≤ (real p).length ∧
    ins = ((real p).drop start).take ins.length ∧ start ≤ ((n.peers f.to).known p).length ∧ ack ≤ ((n.peers p).known f.to).length
structure Inv (n : NetM) (real : Nat → List Int) : Prop where
  hp : 2 ≤ n.players ∧ n.players ≤ 4
  hd : n.delay ≤ 3
  own : ∀ p, p < n.players → (n.peers p).known p = real p
  pre : ∀ p q, p < n.players → q < n.players → ∃ k, k ≤ (real q).length ∧ (n.peers p).known q = (real q).take k
  len : ∀ p, p < n.players → (n.peers p).frame + n.delay = (real p).length
  fr : ∀ p, p < n.players → (n.peers p).frame ≤ 200
  byte : ∀ p, p < n.players → InB (real p)
  ack : ∀ p q, p < n.players → q < n.players → p ≠ q → (n.peers p).acked q ≤ ((n.peers q).known p).length
  drop : ∀ p, p < n.players → (n.peers p).dropped = 0
  win : ∀ p, p < n.players → (n.peers p).frame ≤ n.conf p + n.window
  fly : ∀ f ∈ n.flights, FlyOk n real f
theorem Inv.knownLe {n : NetM} {real : Nat → List Int} (h : Inv n real) {p q : Nat} (hp : p < n.players) (hq : q < n.players) : ((n.peers p).known q).length ≤ (real q).length := by
  obtain ⟨k, hk, e⟩ := h.pre p q hp hq
  rw [e, List.length_take]; omega
theorem Inv.realLe {n : NetM} {real : Nat → List Int} (h : Inv n real) {p : Nat} (hp : p < n.players) : (real p).length ≤ 203 := by
  have := h.len p hp
  have := h.fr p hp
  have := h.hd
  omega

theorem Inv.new (players window delay : Nat) (lags : List Int) (hp : 2 ≤ players ∧ players ≤ 4) (hd : delay ≤ 3) : Inv (newM players window delay lags) (fun _ => List.replicate delay 0) where
  hp := hp
  hd := hd
  own _ _ := rfl
  pre _ _ _ _ := ⟨delay, by simp, by simp [newM]⟩
  len _ _ := by simp [newM]
  fr _ _ := by simp [newM]
  byte _ _ := by
    intro x hx
    rw [List.eq_of_mem_replicate hx]; exact ⟨by decide, by decide⟩
  ack _ _ _ _ _ := by simp [newM]
  drop _ _ := rfl
  win _ _ := by simp [newM]
  fly f hf := by simp [newM] at hf

/-! To send. -/
theorem Inv.send {n : NetM} {real : Nat → List Int} (h : Inv n real) {p q : Nat} (hp : p < n.players) (hq : q < n.players) (hne : p ≠ q) : Inv (n.send p q) real where
  hp := h.hp
  hd := h.hd
  own := h.own
  pre := h.pre
  len := h.len
  fr := h.fr
  byte := h.byte
  ack := h.ack
  drop := h.drop
  win := h.win
  fly f hf := by
    have hold : ∀ f ∈ n.flights, FlyOk (n.send p q) real f := fun f hf => h.fly f hf
    by_cases hl : 0 ≤ n.lag
    · have e : (n.send p q).flights = n.flights ++ [{ to := q, due := n.now + n.lag.toNat, num := n.sent, bytes := packM (n.peers p) p q }] := by simp [NetM.send, hl]
      rw [e] at hf
      rcases List.mem_append.1 hf with hf | hf
      · exact hold f hf
      · obtain rfl := List.mem_singleton.1 hf
        have ha := h.ack p q hp hq hne
        have hk := h.knownLe hq hp
        refine ⟨p, (n.peers p).acked q, ((n.peers p).known q).length, (((n.peers p).known p).drop ((n.peers p).acked q)).take 64, rfl, hp, hne, hq, by simp; omega, ?_, ?_, ha, Nat.le_refl _⟩
        · rw [h.own p hp, List.length_take, List.length_drop]; omega
        · rw [h.own p hp]
          rw [List.take_eq_take_iff]
          simp
    · have e : (n.send p q).flights = n.flights := by simp [NetM.send, hl]
      rw [e] at hf
      exact hold f hf
theorem sendTo_same (n : NetM) (p : Nat) : ∀ k, (sendTo n p k).players = n.players ∧ (sendTo n p k).peers = n.peers ∧ (sendTo n p k).now = n.now ∧ (sendTo n p k).delay = n.delay ∧ (sendTo n p k).window = n.window ∧ (sendTo n p k).lags = n.lags
  | 0 => ⟨rfl, rfl, rfl, rfl, rfl, rfl⟩
  | k + 1 => by
    obtain ⟨h1, h2, h3, h4, h5, h6⟩ := sendTo_same n p k
    unfold sendTo
    split
    · exact ⟨h1, h2, h3, h4, h5, h6⟩
    · exact ⟨h1, h2, h3, h4, h5, h6⟩
theorem Inv.sendTo {n : NetM} {real : Nat → List Int} (h : Inv n real) {p : Nat} (hp : p < n.players) : ∀ k, k ≤ n.players → Inv (sendTo n p k) real
  | 0, _ => h
  | k + 1, hk => by
    have ih := Inv.sendTo h hp k (by omega)
    have hs := (sendTo_same n p k).1
    unfold Go.Proofs.YtandblanpafjoabGreatDoor.sendTo
    split
    · exact ih
    · exact ih.send (by omega) (by omega) (by omega)

/-! To go on. -/
theorem confTo_frame (x : PeerM) : ∀ k, confTo x k ≤ x.frame
  | 0 => Nat.le_refl _
  | k + 1 => by unfold confTo; have := confTo_frame x k; omega
theorem confTo_known (x : PeerM) : ∀ k q, q < k → confTo x k ≤ (x.known q).length
  | k + 1, q, hq => by
    unfold confTo
    by_cases h : q = k
    · subst h; omega
    · have := confTo_known x k q (by omega); omega
theorem confTo_mono {x y : PeerM} (hf : x.frame ≤ y.frame) : ∀ k, (∀ q, q < k → (x.known q).length ≤ (y.known q).length) → confTo x k ≤ confTo y k
  | 0, _ => hf
  | k + 1, h => by
    unfold confTo
    have := confTo_mono hf k (fun q hq => h q (by omega))
    have := h k (by omega)
    omega
def grown (real : Nat → List Int) (p : Nat) (v : Int) : Nat → List Int := fun q => if q = p then real p ++ [v] else real q
theorem grown_same (real : Nat → List Int) (p : Nat) (v : Int) : grown real p v p = real p ++ [v] := by simp [grown]
theorem grown_other (real : Nat → List Int) (p q : Nat) (v : Int) (h : q ≠ p) : grown real p v q = real q := by simp [grown, h]
theorem stepped_known (n : NetM) (p i j : Nat) (v : Int) : ((n.stepped p v).peers i).known j = if i = p ∧ j = p then (n.peers p).known p ++ [v] else (n.peers i).known j := by
  unfold NetM.stepped NetM.put PeerM.learn
  by_cases hi : i = p
  · subst hi
    by_cases hj : j = i
    · subst hj; simp
    · simp [hj]
  · simp [hi]
theorem stepped_acked (n : NetM) (p i : Nat) (v : Int) : ((n.stepped p v).peers i).acked = (n.peers i).acked := by
  unfold NetM.stepped NetM.put PeerM.learn
  by_cases hi : i = p <;> simp [hi]
theorem stepped_dropped (n : NetM) (p i : Nat) (v : Int) : ((n.stepped p v).peers i).dropped = (n.peers i).dropped := by
  unfold NetM.stepped NetM.put PeerM.learn
  by_cases hi : i = p <;> simp [hi]
theorem stepped_frame (n : NetM) (p i : Nat) (v : Int) : ((n.stepped p v).peers i).frame = if i = p then (n.peers p).frame + 1 else (n.peers i).frame := by
  unfold NetM.stepped NetM.put PeerM.learn
  by_cases hi : i = p <;> simp [hi]
theorem stepped_len (n : NetM) (p i j : Nat) (v : Int) : ((n.peers i).known j).length ≤ (((n.stepped p v).peers i).known j).length := by
  rw [stepped_known]
  split
  · rename_i h; rw [h.1, h.2]; simp
  · exact Nat.le_refl _
theorem Inv.stepped {n : NetM} {real : Nat → List Int} (h : Inv n real) {p : Nat} (hp : p < n.players) (v : Int) (hv : 0 ≤ v ∧ v ≤ 255) (hf : (n.peers p).frame < 200) (hw : (n.peers p).frame < n.conf p + n.window) : Inv (n.stepped p v) (grown real p v) where
  hp := h.hp
  hd := h.hd
  own q hq := by
    rw [stepped_known]
    by_cases e : q = p
    · subst e; rw [if_pos ⟨rfl, rfl⟩, grown_same, h.own q hp]
    · rw [if_neg (by simp [e]), grown_other _ _ _ _ e]; exact h.own q hq
  pre a b ha hb := by
    rw [stepped_known]
    by_cases e : b = p
    · subst e
      rw [grown_same]
      split
      · exact ⟨(real b ++ [v]).length, Nat.le_refl _, by rw [List.take_length, h.own b hp]⟩
      · obtain ⟨k, hk, e⟩ := h.pre a b ha hb
        exact ⟨k, by simp; omega, by rw [e, List.take_append_of_le_length hk]⟩
    · rw [if_neg (by simp [e]), grown_other _ _ _ _ e]; exact h.pre a b ha hb
  len q hq := by
    have := h.len q hq
    rw [stepped_frame]
    by_cases e : q = p
    · subst e; rw [if_pos rfl, grown_same]; show _ + 1 + n.delay = _; simp; omega
    · rw [if_neg e, grown_other _ _ _ _ e]; exact this
  fr q hq := by
    have := h.fr q hq
    rw [stepped_frame]
    split
    · omega
    · exact this
  byte q hq := by
    by_cases e : q = p
    · subst e; rw [grown_same]; exact (h.byte q hp).app (fun x hx => by rw [List.mem_singleton.1 hx]; exact hv)
    · rw [grown_other _ _ _ _ e]; exact h.byte q hq
  ack a b ha hb hne := by
    rw [stepped_acked]
    exact Nat.le_trans (h.ack a b ha hb hne) (stepped_len n p b a v)
  drop q hq := by rw [stepped_dropped]; exact h.drop q hq
  win q hq := by
    have hm : n.conf q ≤ (n.stepped p v).conf q := confTo_mono (by rw [stepped_frame]; split <;> (try subst_vars) <;> omega) _ (fun j _ => stepped_len n p q j v)
    have h1 := h.win q hq
    show _ ≤ (n.stepped p v).conf q + n.window
    rw [stepped_frame]
    by_cases e : q = p
    · subst e; rw [if_pos rfl]; omega
    · rw [if_neg e]; omega
  fly f hf := by
    obtain ⟨a, start, ack, ins, e1, e2, e3, e4, e5, e6, e7, e8, e9⟩ := h.fly f hf
    refine ⟨a, start, ack, ins, e1, e2, e3, e4, e5, ?_, ?_, Nat.le_trans e8 (stepped_len n p _ _ v), Nat.le_trans e9 (stepped_len n p _ _ v)⟩
    · by_cases e : a = p
      · subst e; rw [grown_same]; simp; omega
      · rw [grown_other _ _ _ _ e]; exact e6
    · by_cases e : a = p
      · subst e
        rw [grown_same, List.drop_append_of_le_length (by omega), List.take_append_of_le_length (by simp; omega)]
        exact e7
      · rw [grown_other _ _ _ _ e]; exact e7
theorem Inv.advance {n : NetM} {real : Nat → List Int} (h : Inv n real) {p : Nat} (hp : p < n.players) (v : Int) (hv : 0 ≤ v ∧ v ≤ 255) : Inv (n.advance p v).2 (if (n.advance p v).1 = 0 then grown real p v else real) := by
  unfold NetM.advance
  by_cases h1 : (n.peers p).frame = 200
  · rw [if_pos h1, if_neg (by simp)]; exact h
  · rw [if_neg h1]
    by_cases h2 : n.window ≤ (n.peers p).frame - n.conf p
    · rw [if_pos h2, if_neg (by simp)]; exact h
    · rw [if_neg h2, if_pos rfl]
      have := h.fr p hp
      exact (h.stepped hp v hv (by omega) (by omega)).sendTo hp _ (Nat.le_refl _)
end Go.Proofs.YtandblanpafjoabGreatDoor
