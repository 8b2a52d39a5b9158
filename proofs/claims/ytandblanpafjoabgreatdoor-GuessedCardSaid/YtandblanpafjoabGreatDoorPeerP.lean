import Derived.Test.YtandblanpafjoabGreatDoorNetF
namespace Go.Proofs.YtandblanpafjoabGreatDoor
open Go.RowKit

/-! One peer, whatever it was handed: pure. -/
structure POk (x : PeerM) (num n win delay : Nat) : Prop where
  own : (x.known num).length = delay + x.frame
  len : ∀ q, q < n → (x.known q).length ≤ 203
  rng : ∀ q, q < n → ∀ j : Nat, 0 ≤ (x.known q).getD j 0 ∧ (x.known q).getD j 0 ≤ 255
  frame : x.frame ≤ 200
  ack : ∀ q, q < n → x.acked q ≤ (x.known num).length
  win : x.frame ≤ confTo x n + win
  delay : delay ≤ 3

theorem getD_out (l : List Int) (j : Nat) (h : l.length ≤ j) : l.getD j 0 = 0 := by
  rw [List.getD_eq_getElem?_getD, List.getElem?_eq_none h]; rfl
theorem insM_len (x : PeerM) (n f : Nat) : (insM x n f).length = n := by simp [insM]
theorem insM_get (x : PeerM) (n f q : Nat) (hq : q < n) : (insM x n f).getD q 0 = inputM x q f := by
  simp [insM, List.getD_eq_getElem?_getD, hq]
theorem getD_append_left (l m : List Int) (j : Nat) (h : j < l.length) : (l ++ m).getD j 0 = l.getD j 0 := by
  simp [List.getD_eq_getElem?_getD, List.getElem?_append_left h]
theorem inputM_rng {x : PeerM} {num n win delay q : Nat} (h : POk x num n win delay) (hq : q < n) (f : Nat) : 0 ≤ inputM x q f ∧ inputM x q f ≤ 255 := by
  unfold inputM; split <;> exact h.rng q hq _
theorem insM_rng {x : PeerM} {num n win delay : Nat} (h : POk x num n win delay) (f j : Nat) : 0 ≤ (insM x n f).getD j 0 ∧ (insM x n f).getD j 0 ≤ 255 := by
  by_cases hj : j < n
  · rw [insM_get x n f j hj]; exact inputM_rng h hj f
  · rw [getD_out _ _ (by rw [insM_len]; omega)]; omega
theorem insM_congr {x y : PeerM} {n f : Nat} (h : ∀ q, q < n → inputM x q f = inputM y q f) : insM x n f = insM y n f := by
  unfold insM
  apply List.map_congr_left
  intro q hq
  exact h q (by simpa using hq)
theorem framesM_get (x : PeerM) (n f k : Nat) (hk : k < f) : (framesM x n f).getD k [] = insM x n k := by
  simp [framesM, List.getD_eq_getElem?_getD, hk]
theorem framesM_len (x : PeerM) (n f : Nat) : (framesM x n f).length = f := by simp [framesM]

/-- One frame more, with an input of one's own. -/
def stepM (x : PeerM) (num : Nat) (v : Int) : PeerM := { x.learn num (x.known num ++ [v]) with frame := x.frame + 1 }
theorem stepM_known (x : PeerM) (num q : Nat) (v : Int) : (stepM x num v).known q = if q = num then x.known num ++ [v] else x.known q := by
  simp [stepM, PeerM.learn]
theorem stepM_ins {x : PeerM} {num n win delay : Nat} (h : POk x num n win delay) (v : Int) (f : Nat) (hf : f < x.frame) : insM (stepM x num v) n f = insM x n f := by
  apply insM_congr
  intro q hq
  unfold inputM
  rw [stepM_known]
  by_cases e : q = num
  · subst e
    have := h.own
    rw [if_pos rfl, if_pos (by simp; omega), if_pos (by omega), getD_append_left _ _ _ (by omega)]
  · rw [if_neg e]
theorem POk.step {x : PeerM} {num n win delay : Nat} (h : POk x num n win delay) (hn : num < n) (v : Int) (hv : 0 ≤ v ∧ v ≤ 255) (hf : x.frame < 200) (hw : x.frame < confTo x n + win) : POk (stepM x num v) num n win delay where
  own := by rw [stepM_known, if_pos rfl]; simp [stepM, h.own]; omega
  len := fun q hq => by
    rw [stepM_known]; split
    · have := h.own; have := h.delay; simp; omega
    · exact h.len q hq
  rng := fun q hq j => by
    rw [stepM_known]; split
    · by_cases e : j < (x.known num).length
      · rw [getD_append_left _ _ _ e]; exact h.rng num hn j
      · by_cases e2 : j = (x.known num).length
        · subst e2; simp [List.getD_eq_getElem?_getD]; exact hv
        · rw [getD_out _ _ (by simp; omega)]; omega
    · exact h.rng q hq j
  frame := by simp [stepM]; omega
  ack := fun q hq => by
    have := h.ack q hq
    rw [stepM_known, if_pos rfl]; simp [stepM, PeerM.learn]; omega
  win := by
    have : confTo x n ≤ confTo (stepM x num v) n := confTo_mono (by simp [stepM]) n (fun q _ => by rw [stepM_known]; split <;> simp_all)
    simp only [stepM] at this ⊢; omega
  delay := h.delay

theorem learnt_get (l : List Int) (start : Nat) (ins : List Int) (j : Nat) (h : j < l.length) : (learnt l start ins).getD j 0 = l.getD j 0 := getD_append_left _ _ _ h
theorem taken_kn (x : PeerM) (q start ack j : Nat) (ins : List Int) : (taken x q start ack ins).known j = if j = q then learnt (x.known q) start ins else x.known j := by
  simp [taken, PeerM.learn]
theorem taken_fr (x : PeerM) (q start ack : Nat) (ins : List Int) : (taken x q start ack ins).frame = x.frame := rfl
theorem taken_ins (x : PeerM) (n q start ack : Nat) (ins : List Int) (f : Nat) (hf : f < confTo x n) : insM (taken x q start ack ins) n f = insM x n f := by
  apply insM_congr
  intro j hj
  have := confTo_known x n j hj
  unfold inputM
  rw [taken_kn]
  by_cases e : j = q
  · subst e
    have hl := learnt_len (x.known j) start ins
    rw [if_pos rfl, if_pos (by omega), if_pos (by omega), learnt_get _ _ _ _ (by omega)]
  · rw [if_neg e]
theorem taken_conf (x : PeerM) (n q start ack : Nat) (ins : List Int) : confTo x n ≤ confTo (taken x q start ack ins) n :=
  confTo_mono (x := x) (y := taken x q start ack ins) (Nat.le_refl _) n (fun j _ => by
    rw [taken_kn]; split
    · rename_i e; subst e; exact learnt_len _ _ _
    · exact Nat.le_refl _)
theorem learnt_tot (l : List Int) (start : Nat) (ins : List Int) (h : start ≤ l.length) : (learnt l start ins).length = max l.length (start + ins.length) := by
  simp [learnt]; omega
theorem POk.taken {x : PeerM} {num n win delay : Nat} (h : POk x num n win delay) {q start ack : Nat} {ins : List Int} (hq : q ≠ num) (hqn : q < n) (hs : start ≤ (x.known q).length) (ht : start + ins.length ≤ 200 + delay) (ha : ack ≤ (x.known num).length)
    (hr : ∀ j : Nat, 0 ≤ ins.getD j 0 ∧ ins.getD j 0 ≤ 255) : POk (taken x q start ack ins) num n win delay where
  own := by rw [taken_kn, if_neg (Ne.symm hq), taken_fr]; exact h.own
  len := fun j hj => by
    rw [taken_kn]; split
    · rw [learnt_tot _ _ _ hs]; have := h.len q hqn; have := h.delay; omega
    · exact h.len j hj
  rng := fun j hj i => by
    rw [taken_kn]; split
    · unfold learnt
      by_cases e : i < (x.known q).length
      · rw [getD_append_left _ _ _ e]; exact h.rng q hqn i
      · rw [List.getD_eq_getElem?_getD, List.getElem?_append_right (by omega), List.getElem?_drop, ← List.getD_eq_getElem?_getD]; exact hr _
    · exact h.rng j hj i
  frame := h.frame
  ack := fun j hj => by
    rw [taken_kn, if_neg (Ne.symm hq)]
    have := h.ack j hj
    have := h.ack q hqn
    simp only [Proofs.YtandblanpafjoabGreatDoor.taken]; split <;> omega
  win := by
    have := taken_conf x n q start ack ins
    have := h.win
    rw [taken_fr]; omega
  delay := h.delay
theorem POk.drop {x : PeerM} {num n win delay : Nat} (h : POk x num n win delay) (d : Nat) : POk { x with dropped := d } num n win delay where
  own := h.own
  len := h.len
  rng := h.rng
  frame := h.frame
  ack := h.ack
  win := by
    have e : ∀ k, confTo { x with dropped := d } k = confTo x k := fun k => by
      induction k with
      | zero => rfl
      | succ k ih => simp [confTo, ih]
    rw [e]; exact h.win
  delay := h.delay
end Go.Proofs.YtandblanpafjoabGreatDoor
