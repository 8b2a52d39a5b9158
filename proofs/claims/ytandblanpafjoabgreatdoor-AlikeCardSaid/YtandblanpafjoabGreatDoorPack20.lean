import Derived.Test.YtandblanpafjoabGreatDoorPack09
import Derived.Test.YtandblanpafjoabGreatDoorPack06
import Derived.Test.YtandblanpafjoabGreatDoorPack04
import Derived.Test.YtandblanpafjoabGreatDoorPack16
namespace Go.Proofs.YtandblanpafjoabGreatDoor
open Go.RowKit

/-! One peer, whatever it was handed: pure. -/
structure POk (x : PeerM) (num n win delay : Nat) : Prop where
  own : (x.known num).length = delay + x.frame
  len : ∀ q, q < n → (x.known q).length ≤ 203
  rng : ∀ q, q < n → ∀ j : Nat, 0 ≤ (x.known q).getD j 0 ∧ (x.known q).getD j 0 ≤ 255
  frame : x.frame ≤ 200
  ack : ∀ q, q < n → x.acked q ≤ (x.known num).length
  win : x.frame ≤ confTo x n + win
  delay : delay ≤ 3

theorem getD_out (l : List Int) (j : Nat) (h : l.length ≤ j) : l.getD j 0 = 0 := by
  rw [List.getD_eq_getElem?_getD, List.getElem?_eq_none h]; rfl
theorem insM_len (x : PeerM) (n f : Nat) : (insM x n f).length = n := by simp [insM]
theorem insM_get (x : PeerM) (n f q : Nat) (hq : q < n) : (insM x n f).getD q 0 = inputM x q f := by
  simp [insM, List.getD_eq_getElem?_getD, hq]
theorem getD_append_left (l m : List Int) (j : Nat) (h : j < l.length) : (l ++ m).getD j 0 = l.getD j 0 := by
  simp [List.getD_eq_getElem?_getD, List.getElem?_append_left h]
theorem inputM_rng {x : PeerM} {num n win delay q : Nat} (h : POk x num n win delay) (hq : q < n) (f : Nat) : 0 ≤ inputM x q f ∧ inputM x q f ≤ 255 := by
  unfold inputM; split <;> exact h.rng q hq _
theorem insM_rng {x : PeerM} {num n win delay : Nat} (h : POk x num n win delay) (f j : Nat) : 0 ≤ (insM x n f).getD j 0 ∧ (insM x n f).getD j 0 ≤ 255 := by
  by_cases hj : j < n
  · rw [insM_get x n f j hj]; exact inputM_rng h hj f
  · rw [getD_out _ _ (by rw [insM_len]; omega)]; omega
theorem insM_congr {x y : PeerM} {n f : Nat} (h : ∀ q, q < n → inputM x q f = inputM y q f) : insM x n f = insM y n f := by
  unfold insM
  apply List.map_congr_left
  intro q hq
  exact h q (by simpa using hq)
theorem framesM_get (x : PeerM) (n f k : Nat) (hk : k < f) : (framesM x n f).getD k [] = insM x n k := by
  simp [framesM, List.getD_eq_getElem?_getD, hk]
theorem framesM_len (x : PeerM) (n f : Nat) : (framesM x n f).length = f := by simp [framesM]

/-- One frame more, with an input of one's own. -/
def stepM (x : PeerM) (num : Nat) (v : Int) : PeerM := { x.learn num (x.known num ++ [v]) with frame := x.frame + 1 }
theorem stepM_known (x : PeerM) (num q : Nat) (v : Int) : (stepM x num v).known q = if q = num then x.known num ++ [v] else x.known q := by
  simp [stepM, PeerM.learn]
theorem stepM_ins {x : PeerM} {num n win delay : Nat} (h : POk x num n win delay) (v : Int) (f : Nat) (hf : f < x.frame) : insM (stepM x num v) n f = insM x n f := by
  apply insM_congr
  intro q hq
  unfold inputM
  rw [stepM_known]
  by_cases e : q = num
  · subst e
    have := h.own
    rw [if_pos rfl, if_pos (by simp; omega), if_pos (by omega), getD_append_left _ _ _ (by omega)]
  · rw [if_neg e]
theorem POk.step {x : PeerM} {num n win delay : Nat} (h : POk x num n win delay) (hn : num < n) (v : Int) (hv : 0 ≤ v ∧ v ≤ 255) (hf : x.frame < 200) (hw : x.frame < confTo x n + win) : POk (stepM x num v) num n win delay where
  own := by rw [stepM_known, if_pos rfl]; simp [stepM, h.own]; omega
  len := fun q hq => by
    rw [stepM_known]; split
    · have := h.own; have := h.delay; simp; omega
    · exact h.len q hq
  rng := fun q hq j => by
    rw [stepM_known]; split
    · by_cases e : j < (x.known num).length
      · rw [getD_append_left _ _ _ e]; exact h.rng num hn j
      · by_cases e2 : j = (x.known num).length
        · subst e2; simp [List.getD_eq_getElem?_getD]; exact hv
        · rw [getD_out _ _ (by simp; omega)]; omega
    · exact h.rng q hq j
  frame := by simp [stepM]; omega
  ack := fun q hq => by
    have := h.ack q hq
    rw [stepM_known, if_pos rfl]; simp [stepM, PeerM.learn]; omega
  win := by
    have : confTo x n ≤ confTo (stepM x num v) n := confTo_mono (by simp [stepM]) n (fun q _ => by rw [stepM_known]; split <;> simp_all)
    simp only [stepM] at this ⊢; omega
  delay := h.delay

theorem learnt_get (l : List Int) (start : Nat) (ins : List Int) (j : Nat) (h : j < l.length) : (learnt l start ins).getD j 0 = l.getD j 0 := getD_append_left _ _ _ h
theorem taken_kn (x : PeerM) (q start ack j : Nat) (ins : List Int) : (taken x q start ack ins).known j = if j = q then learnt (x.known q) start ins else x.known j := by
  simp [taken, PeerM.learn]
theorem taken_fr (x : PeerM) (q start ack : Nat) (ins : List Int) : (taken x q start ack ins).frame = x.frame := rfl
theorem taken_ins (x : PeerM) (n q start ack : Nat) (ins : List Int) (f : Nat) (hf : f < confTo x n) : insM (taken x q start ack ins) n f = insM x n f := by
  apply insM_congr
  intro j hj
  have := confTo_known x n j hj
  unfold inputM
  rw [taken_kn]
  by_cases e : j = q
  · subst e
    have hl := learnt_len (x.known j) start ins
    rw [if_pos rfl, if_pos (by omega), if_pos (by omega), learnt_get _ _ _ _ (by omega)]
  · rw [if_neg e]
theorem taken_conf (x : PeerM) (n q start ack : Nat) (ins : List Int) : confTo x n ≤ confTo (taken x q start ack ins) n :=
  confTo_mono (x := x) (y := taken x q start ack ins) (Nat.le_refl _) n (fun j _ => by
    rw [taken_kn]; split
    · rename_i e; subst e; exact learnt_len _ _ _
    · exact Nat.le_refl _)
theorem learnt_tot (l : List Int) (start : Nat) (ins : List Int) (h : start ≤ l.length) : (learnt l start ins).length = max l.length (start + ins.length) := by
  simp [learnt]; omega
theorem POk.taken {x : PeerM} {num n win delay : Nat} (h : POk x num n win delay) {q start ack : Nat} {ins : List Int} (hq : q ≠ num) (hqn : q < n) (hs : start ≤ (x.known q).length) (ht : start + ins.length ≤ 200 + delay) (ha : ack ≤ (x.known num).length)
    (hr : ∀ j : Nat, 0 ≤ ins.getD j 0 ∧ ins.getD j 0 ≤ 255) : POk (taken x q start ack ins) num n win delay where
  own := by rw [taken_kn, if_neg (Ne.symm hq), taken_fr]; exact h.own
  len := fun j hj => by
    rw [taken_kn]; split
    · rw [learnt_tot _ _ _ hs]; have := h.len q hqn; have := h.delay; omega
    · exact h.len j hj
  rng := fun j hj i => by
    rw [taken_kn]; split
    · unfold learnt
      by_cases e : i < (x.known q).length
      · rw [getD_append_left _ _ _ e]; exact h.rng q hqn i
      · rw [List.getD_eq_getElem?_getD, List.getElem?_append_right (by omega), List.getElem?_drop, ← List.getD_eq_getElem?_getD]; exact hr _
    · exact h.rng j hj i
  frame := h.frame
  ack := fun j hj => by
    rw [taken_kn, if_neg (Ne.symm hq)]
    have := h.ack j hj
    have := h.ack q hqn
    simp only [Proofs.YtandblanpafjoabGreatDoor.taken]; split <;> omega
  win := by
    have := taken_conf x n q start ack ins
    have := h.win
    rw [taken_fr]; omega
  delay := h.delay
theorem POk.drop {x : PeerM} {num n win delay : Nat} (h : POk x num n win delay) (d : Nat) : POk { x with dropped := d } num n win delay where
  own := h.own
  len := h.len
  rng := h.rng
  frame := h.frame
  ack := h.ack
  win := by
    have e : ∀ k, confTo { x with dropped := d } k = confTo x k := fun k => by
      induction k with
      | zero => rfl
      | succ k ih => simp [confTo, ih]
    rw [e]; exact h.win
  delay := h.delay
end Go.Proofs.YtandblanpafjoabGreatDoor

namespace Go.Proofs.YtandblanpafjoabGreatDoor
open Go.RowKit Go.Extern.Stop Go.Stop Go.Extern

/-! Packets read: a number of two bytes, what lies about the parts, a copy. -/
theorem or_two (a b : Nat) (ha : a < 256) (hb : b < 256) : bits .or .i64 ((a : Int) * 256) (b : Int) = (a : Int) * 256 + (b : Int) := by
  have hn : a * 256 ||| b = a * 256 + b := by
    have := Nat.two_pow_add_eq_or_of_lt (i := 8) (b := b) (by omega) a
    rw [Nat.mul_comm a 256]; exact this.symm
  show IntKind.i64.wrap ((BitVec.ofInt 64 ((a : Int) * 256) ||| BitVec.ofInt 64 (b : Int)).toNat : Int) = _
  rw [show ((a : Int) * 256) = ((a * 256 : Nat) : Int) by omega, BitVec.toNat_or, ofInt_u64 (a * 256) (by omega), ofInt_u64 b (by omega), hn, i64_id _ (by omega) (by omega)]
  omega

set_option maxHeartbeats 400000 in
theorem pknumber_any (b o n c : Nat) (x y : Nat) (w : World) (hn : 2 ≤ n) (hx : x < 256) (hy : y < 256) (h0 : w.cell? ⟨b, o, none⟩ = some (.int .u8 (x : Int))) (h1 : w.cell? ⟨b, o + 1, none⟩ = some (.int .u8 (y : Int))) :
    Calls Tryz.prog 105 #[.slice (some ⟨b, o, none⟩) n c] w fun e w' => e = .returned (.int .i64 ((x : Int) * 256 + (y : Int))) ∧ ∃ nq, w' = w.drewN nq := by
  have hor := or_two x y hx hy
  have hi0 : (0 : Int) < (n : Int) := by omega
  have hi1 : (1 : Int) < (n : Int) := by omega
  have hw : IntKind.i64.wrap ((x : Int) * 256) = (x : Int) * 256 := i64_id _ (by omega) (by omega)
  go_enter Tryz.func105, Tryz.ntmps105
  go_wp2
  go_quiet (fail)
  go_wp2
  go_ret
  exact ⟨rfl, _, rfl⟩

theorem take_getD (l : List Int) (m j : Nat) (h : j < m) : (l.take m).getD j 0 = l.getD j 0 := by
  rw [List.getD_eq_getElem?_getD, List.getD_eq_getElem?_getD, List.getElem?_take, if_pos h]

set_option maxRecDepth 10000 in
set_option maxHeartbeats 2000000 in
theorem pkbytes_yes (b o k c : Nat) (l : List Int) (w : World) (hl : l.length = k + 8) (hk : k ≤ 70000) (hcap : k + 8 ≤ c)
    (hc : ∀ j, j < k + 8 → w.cell? ⟨b, o + j, none⟩ = some (.int .u8 (l.getD j 0))) (hf : Framed l) :
    Calls Tryz.prog 104 #[.slice (some ⟨b, o, none⟩) (k + 8) c] w fun e w' => e = .returned .nilIface ∧ Below w.heap.size w w' := by
  obtain ⟨_, f2, f3, f4⟩ := hf
  rw [hl] at f2 f4
  have e1 : k + 8 - 1 = k + 7 := by omega
  rw [e1] at f4
  have c0 := hc 0 (by omega)
  have c6 := hc 6 (by omega)
  have c7 := hc (k + 7) (by omega)
  rw [f3] at c0
  rw [f4] at c7
  rw [show l.getD 6 0 = (k : Int) by omega] at c6
  rw [Nat.add_zero] at c0
  clear f2 f3 f4
  have hd : decide ((k : Int) + 8 < 8) = false := by simp; omega
  have hne : ((k : Int) + 8 != 8 + (k : Int)) = false := by rw [Int.add_comm]; simp
  have hw1 : (k : Int) + 8 - 1 = (k : Int) + 7 := by omega
  have ht : ((k : Int) + 7).toNat = k + 7 := by omega
  have HC := hide hc
  have hsum : ∀ W : World, W.heap = w.heap → Calls Tryz.prog 86 #[.slice (some ⟨b, o, none⟩) (k + 7) c] W fun e w' => e = .returned (.int .u8 (xorL (l.take (k + 7)))) ∧ w' = W := fun W hW =>
    pksum_any b o (k + 7) c (l.take (k + 7)) W (by simp [hl]) (by omega) (fun j hj => by rw [take_getD l _ _ hj, World.cell?_of_block (w := w) (by rw [hW])]; exact unhide HC j (by omega))
  have HSUM := hide hsum
  clear hsum hc
  go_enter Tryz.func104, Tryz.ntmps104
  go_wp2
  go_quiet ((go_at_call 86; exact Calls.quiet_of_same (unhide HSUM _ rfl)))
  go_wp2
  go_ret
  exact ⟨rfl, Go.below_drewN (Below.refl _ _) _⟩

set_option maxRecDepth 10000 in
set_option maxHeartbeats 2000000 in
theorem pkbytes_no (b o n c : Nat) (l : List Int) (w : World) (hl : l.length = n) (hn : n ≤ 70000) (hcap : n ≤ c) (hr : ∀ j : Nat, 0 ≤ l.getD j 0 ∧ l.getD j 0 ≤ 255)
    (hc : ∀ j, j < n → w.cell? ⟨b, o + j, none⟩ = some (.int .u8 (l.getD j 0))) (hf : ¬ Framed l) :
    Calls Tryz.prog 104 #[.slice (some ⟨b, o, none⟩) n c] w fun e w' => (∃ s, e = .returned (.iface 219 (.agg #[.string s]))) ∧ Below w.heap.size w w' := by
  by_cases h8 : n < 8
  · have h8' : (n : Int) < 8 := by omega
    clear hr hc hf
    go_enter Tryz.func104, Tryz.ntmps104
    go_wp2
    go_ret
    exact ⟨⟨_, rfl⟩, Below.refl _ _⟩
  obtain ⟨k, rfl⟩ : ∃ k, n = k + 8 := ⟨n - 8, by omega⟩
  have hd : decide ((k : Int) + 8 < 8) = false := by simp; omega
  have c0 := hc 0 (by omega)
  have c6 := hc 6 (by omega)
  have c7 := hc (k + 7) (by omega)
  have r6 := hr 6
  have HC := hide hc
  have HF := hide hf
  have HL := hide hl
  clear hc hf hr h8 hl
  rw [Nat.add_zero] at c0
  obtain ⟨x0, hx0⟩ : ∃ x, x = l.getD 0 0 := ⟨_, rfl⟩
  obtain ⟨x6, hx6⟩ : ∃ x, x = l.getD 6 0 := ⟨_, rfl⟩
  obtain ⟨x7, hx7⟩ : ∃ x, x = l.getD (k + 7) 0 := ⟨_, rfl⟩
  rw [← hx0] at c0
  rw [← hx6] at c6 r6
  rw [← hx7] at c7
  have H0 := hide hx0
  have H6 := hide hx6
  have H7 := hide hx7
  clear hx0 hx6 hx7
  obtain ⟨r60, r61⟩ := r6
  by_cases h6 : x6 = (k : Int)
  · subst h6
    have hne : ((k : Int) + 8 != 8 + (k : Int)) = false := by rw [Int.add_comm]; simp
    by_cases h0 : x0 = 82
    · subst h0
      have hw1 : (k : Int) + 8 - 1 = (k : Int) + 7 := by omega
      have ht : ((k : Int) + 7).toNat = k + 7 := by omega
      have hsum : ∀ W : World, W.heap = w.heap → Calls Tryz.prog 86 #[.slice (some ⟨b, o, none⟩) (k + 7) c] W fun e w' => e = .returned (.int .u8 (xorL (l.take (k + 7)))) ∧ w' = W := fun W hW =>
        pksum_any b o (k + 7) c (l.take (k + 7)) W (by have := unhide HL; simp [this]) (by omega) (fun j hj => by rw [take_getD l _ _ hj, World.cell?_of_block (w := w) (by rw [hW])]; exact unhide HC j (by omega))
      have HSUM := hide hsum
      have hx : x7 ≠ xorL (l.take (k + 7)) := by
        intro e
        have hl := unhide HL
        refine unhide HF ⟨by omega, ?_, (unhide H0).symm, ?_⟩
        · rw [← unhide H6, hl]; omega
        · rw [hl, show k + 8 - 1 = k + 7 by omega, ← unhide H7, e]
      have hxb : (x7 != xorL (l.take (k + 7))) = true := by rw [bne_iff_ne]; exact hx
      clear hsum hx
      go_enter Tryz.func104, Tryz.ntmps104
      go_wp2
      go_quiet ((go_at_call 86; exact Calls.quiet_of_same (unhide HSUM _ rfl)))
      go_wp2
      go_ret
      exact ⟨⟨_, rfl⟩, Go.below_drewN (Below.refl _ _) _⟩
    · have h0b : (x0 != 82) = true := by rw [bne_iff_ne]; exact h0
      go_enter Tryz.func104, Tryz.ntmps104
      go_wp2
      go_ret
      exact ⟨⟨_, rfl⟩, Below.refl _ _⟩
  · have hne : ((k : Int) + 8 != 8 + x6) = true := by rw [bne_iff_ne]; omega
    go_enter Tryz.func104, Tryz.ntmps104
    go_wp2
    go_ret
    exact ⟨⟨_, rfl⟩, Below.refl _ _⟩

set_option maxRecDepth 100000 in
set_option maxHeartbeats 1000000 in
theorem clone_any (b o n c : Nat) (l : List Int) (w : World) (hl : l.length = n) (hn : n ≤ 100000) (hsrc : SrcAt w (some ⟨b, o, none⟩) l) :
    Calls Tryz.prog 106 #[.slice (some ⟨b, o, none⟩) n c] w fun e w' => ∃ g cap, e = .returned (.slice (some ⟨g, 0, none⟩) n cap) ∧ w.heap.size ≤ g ∧ g < w'.heap.size ∧ w'.ownsRow w.heap.size 5 1 (.slice (some ⟨g, 0, none⟩) n cap) n (l.map (Value.int .u8)) ∧ Below w.heap.size w w' := by
  obtain ⟨i8, hi8, hz8, hs8, hy8⟩ := info_parts Tryz.infoU8
  have HT := hide (And.intro hi8 (And.intro hz8 (And.intro hs8 hy8)))
  have HS := hide hsrc
  have HL := hide hl
  have hnn := not_nil
  clear hi8 hz8 hs8 hy8 hsrc hl
  go_enter Tryz.func106, Tryz.ntmps106
  go_wp2_with (at_builtin; refine wpList_append_src rfl _ _ 35 rfl w.heap.size 5 i8 (.int .u8 0) Tryz.underlying35 (unhide HT).1 (unhide HT).2.1 (unhide HT).2.2.1 (unhide HT).2.2.2 rfl _ 0 _ rfl (own_lit w _ 0 _ rfl (Nat.le_refl _) (by unfold maxLen; omega) rfl) _ n c l rfl (fun h => by cases h) (unhide HL) ((unhide HS).alloc _) (by omega) (by simp only [World.size_alloc]; omega) ?_; intro v4 w4 hown4 hgr4 hnil4)
  go_ret
  have hB : Below w.heap.size w w4 := ((Below.refl _ _).alloc (Nat.le_refl _) _).trans (below_grown hgr4 (by simp) (by simp))
  have hown : w4.ownsRow w.heap.size 5 1 v4 n (l.map (Value.int .u8)) := by simpa using hown4
  rcases hown.2 with ⟨h', _⟩ | ⟨g, cap, cur, h', hbg, hg, _⟩
  · have := (hnil4.1 h').1
    cases this
  · subst h'
    exact ⟨g, cap, rfl, hbg, (Array.getElem?_eq_some_iff.1 hg).1, hown, hB⟩
end Go.Proofs.YtandblanpafjoabGreatDoor

namespace Go.Proofs.YtandblanpafjoabGreatDoor
open Go.RowKit Go.Extern.Stop Go.Stop Go.Extern

/-- A value that is a list of frames. -/
def FrAt (w : World) (v : Value) (fs : List (List Int)) : Prop :=
  (fs = [] ∧ v = .slice none 0 0) ∨ ∃ f cap, v = .slice (some ⟨f, 0, none⟩) fs.length cap ∧ f < w.heap.size ∧
    ∀ i, i < fs.length → ∃ b c, w.cell? ⟨f, i, none⟩ = some (.slice (some ⟨b, 0, none⟩) (fs.getD i []).length c) ∧ b < w.heap.size ∧ ∀ j, j < (fs.getD i []).length → w.cell? ⟨b, j, none⟩ = some (.int .u8 ((fs.getD i []).getD j 0))
theorem FrAt.below {w w' : World} {v : Value} {fs : List (List Int)} (h : FrAt w v fs) (hb : Below w.heap.size w w') : FrAt w' v fs := by
  rcases h with h | ⟨f, cap, h1, h2, h3⟩
  · exact Or.inl h
  · refine Or.inr ⟨f, cap, h1, Nat.lt_of_lt_of_le h2 hb.size, fun i hi => ?_⟩
    obtain ⟨b, c, c1, c2, c3⟩ := h3 i hi
    exact ⟨b, c, by rw [hb.cell (p := ⟨f, i, none⟩) h2]; exact c1, Nat.lt_of_lt_of_le c2 hb.size, fun j hj => by rw [hb.cell (p := ⟨b, j, none⟩) c2]; exact c3 j hj⟩

/-- Are they frames of a game? -/
def fitB (p : Int) (fs : List (List Int)) : Bool := decide (fs.length ≤ 200) && decide (∀ i, i < fs.length → ((fs.getD i []).length : Int) = p)

set_option maxHeartbeats 1000000 in
theorem playable_any (p : Int) (v : Value) (fs : List (List Int)) (w : World) (hfr : FrAt w v fs) (hN : fs.length ≤ 100000) (hl : ∀ i : Nat, (fs.getD i []).length ≤ 100000) :
    Calls Tryz.prog 44 #[.int .i64 p, v] w fun e w' => e = .returned (.bool (fitB p fs)) ∧ w' = w := by
  rcases hfr with ⟨rfl, rfl⟩ | ⟨f, cap, rfl, hf, hcell⟩
  · go_enter Tryz.func44, Tryz.ntmps44
    go_wp2_with fail
    refine wp_loop_rounds 1 ?_
    rw [rounds_succ]
    go_wp2
    go_ret
    exact ⟨rfl, rfl⟩
  · by_cases h200 : 200 < fs.length
    · have h200' : (200 : Int) < (fs.length : Int) := by omega
      have e : fitB p fs = false := by unfold fitB; rw [decide_eq_false (by omega), Bool.false_and]
      rw [e]
      clear e
      go_enter Tryz.func44, Tryz.ntmps44
      go_wp2_with fail
      go_ret
      exact ⟨rfl, rfl⟩
    · have h200' : ¬ ((200 : Int) < (fs.length : Int)) := by omega
      have HE : Hid (fitB p fs = decide (∀ i, i < fs.length → ((fs.getD i []).length : Int) = p)) := hide (by unfold fitB; rw [decide_eq_true (by omega), Bool.true_and])
      have HC := hide hcell
      have HL := hide hl
      clear hcell hl
      go_enter Tryz.func44, Tryz.ntmps44
      go_wp2_with fail
      go_loop [12] (fun i => ∃ k : Nat, k ≤ fs.length ∧ i = .int .i64 k ∧ ∀ j, j < k → ((fs.getD j []).length : Int) = p) (fun i => fs.length - (intOf i).toNat)
      case atStart => exact ⟨0, by omega, rfl, fun j hj => absurd hj (by omega)⟩
      case round =>
        obtain ⟨k, hk, rfl, hall⟩ := hrel
        have HA := hide hall
        clear hall
        by_cases hlt : k < fs.length
        · obtain ⟨b, c, c1, c2, c3⟩ := unhide HC k hlt
          have hlk := unhide HL k
          have hlt' : (k : Int) < (fs.length : Int) := by omega
          clear c3
          by_cases heq : ((fs.getD k []).length : Int) = p
          · have hne : (((fs.getD k []).length : Int) != p) = false := by rw [heq]; simp
            have HA2 : Hid (∀ j, j < k + 1 → ((fs.getD j []).length : Int) = p) := hide (fun j hj => by
              by_cases hjk : j = k
              · rw [hjk]; exact heq
              · exact unhide HA j (by omega))
            clear heq
            generalize (fs.getD k []).length = q at *
            go_wp2_with fail
            go_round
            case rel => exact ⟨k + 1, by omega, by go_num, unhide HA2⟩
            case measure => simp [intOf]; omega
          · have hne : (((fs.getD k []).length : Int) != p) = true := by rw [bne_iff_ne]; exact heq
            have HF : Hid (fitB p fs = false) := hide (by rw [unhide HE]; exact decide_eq_false (fun hh => heq (hh k hlt)))
            clear heq
            generalize (fs.getD k []).length = q at *
            go_wp2_with fail
            go_ret
            exact ⟨by rw [unhide HF]; rfl, rfl⟩
        · have HF : Hid (fitB p fs = true) := hide (by rw [unhide HE]; exact decide_eq_true (fun j hj => unhide HA j (by omega)))
          go_wp2_with fail
          go_ret
          exact ⟨by rw [unhide HF]; rfl, rfl⟩

end Go.Proofs.YtandblanpafjoabGreatDoor

namespace Go.Proofs.YtandblanpafjoabGreatDoor
open Go.RowKit Go.Extern.Stop Go.Stop Go.Extern

set_option maxHeartbeats 1000000 in
theorem canplay_no (p : Int) (w : World) (hp : p < 2 ∨ 4 < p) : Calls Tryz.prog 43 #[.int .i64 p] w fun e w' => e = .returned (.bool false) ∧ w' = w := by
  by_cases h : (2 : Int) ≤ p
  · have d1 : decide ((2 : Int) ≤ p) = true := by simp [h]
    have d2 : decide (p ≤ 4) = false := by simp; omega
    go_enter Tryz.func43, Tryz.ntmps43
    go_wp2
    go_ret
    exact ⟨rfl, rfl⟩
  · have d1 : decide ((2 : Int) ≤ p) = false := by simp; omega
    go_enter Tryz.func43, Tryz.ntmps43
    go_wp2
    go_ret
    exact ⟨rfl, rfl⟩
set_option maxHeartbeats 1000000 in
theorem canplay_yes (p : Int) (w : World) (h2 : 2 ≤ p) (h4 : p ≤ 4) : Calls Tryz.prog 43 #[.int .i64 p] w fun e w' => e = .returned (.bool true) ∧ w' = w := by
  have d1 : decide ((2 : Int) ≤ p) = true := by simp [h2]
  have d2 : decide (p ≤ 4) = true := by simp [h4]
  go_enter Tryz.func43, Tryz.ntmps43
  go_wp2
  go_ret
  exact ⟨rfl, rfl⟩

set_option maxHeartbeats 1000000 in
theorem play_player (p : Int) (v : Value) (w : World) (hp : p < 2 ∨ 4 < p) :
    Calls Tryz.prog 27 #[.int .i64 p, v] w fun e w' => e = .returned (.tuple #[.slice none 0 0, .iface 39 (.int .i64 2)]) ∧ w' = w := by
  go_enter Tryz.func27, Tryz.ntmps27
  go_wp2_with fail
  refine (canplay_no p w hp).mono ?_
  rintro e w1 ⟨rfl, rfl⟩
  go_wp2_with fail
  go_ret2
  exact ⟨rfl, rfl⟩

set_option maxHeartbeats 1000000 in
theorem play_inputs (n : Nat) (v : Value) (fs : List (List Int)) (w : World) (hn2 : 2 ≤ n) (hn4 : n ≤ 4) (hfr : FrAt w v fs) (hN : fs.length ≤ 100000) (hl : ∀ i : Nat, (fs.getD i []).length ≤ 100000) (hf : fitB (n : Int) fs = false) :
    Calls Tryz.prog 27 #[.int .i64 (n : Int), v] w fun e w' => e = .returned (.tuple #[.slice none 0 0, .iface 39 (.int .i64 7)]) ∧ w' = w := by
  have h2 : ¬ ((n : Int) < 2) := by omega
  have h4 : ¬ ((4 : Int) < (n : Int)) := by omega
  have HL := hide hl
  clear hl
  go_enter Tryz.func27, Tryz.ntmps27
  go_wp2_with fail
  refine (canplay_yes (n : Int) w (by omega) (by omega)).mono ?_
  rintro e w ⟨rfl, rfl⟩
  go_wp2_with fail
  refine (playable_any (n : Int) v fs w hfr hN (unhide HL)).mono ?_
  rintro e w1 ⟨rfl, rfl⟩
  go_wp2_with fail
  go_ret2
  exact ⟨rfl, rfl⟩

set_option maxRecDepth 100000 in
set_option maxHeartbeats 1000000 in
theorem play_yes (n : Nat) (v : Value) (fs : List (List Int)) (w : World) (hn2 : 2 ≤ n) (hn4 : n ≤ 4) (hfr : FrAt w v fs) (hN : fs.length ≤ 100000) (hl : ∀ i : Nat, (fs.getD i []).length ≤ 100000) (hf : fitB (n : Int) fs = true)
    (hrg : ∀ i j : Nat, 0 ≤ (fs.getD i []).getD j 0 ∧ (fs.getD i []).getD j 0 ≤ 255) :
    Calls Tryz.prog 27 #[.int .i64 (n : Int), v] w fun e w' => ∃ g, e = .returned (.tuple #[.slice (some ⟨g, 0, none⟩) 288 288, .nilIface]) ∧ w.heap.size ≤ g ∧ Blk w' g (nums .u8 (playL n fs)) 5 ∧ Below w.heap.size w w' := by
  have h2 : ¬ ((n : Int) < 2) := by omega
  have h4 : ¬ ((4 : Int) < (n : Int)) := by omega
  have hz := Tryz.zeroMem
  have hlen : ∀ i, i < fs.length → (fs.getD i []).length = n := fun i hi => by
    have hf' := hf
    unfold fitB at hf'
    rw [Bool.and_eq_true] at hf'
    have := of_decide_eq_true hf'.2 i hi
    omega
  have HL := hide hl
  have HLE := hide hlen
  have HRG := hide hrg
  have HFR := hide hfr
  clear hl hlen hrg hfr
  go_enter Tryz.func27, Tryz.ntmps27
  go_wp2_with fail
  refine (canplay_yes (n : Int) w (by omega) (by omega)).mono ?_
  rintro e w ⟨rfl, rfl⟩
  go_wp2_with fail
  refine (playable_any (n : Int) v fs w (unhide HFR) hN (unhide HL)).mono ?_
  rintro e w1 ⟨rfl, rfl⟩
  rw [hf]
  go_wp2_with fail
  refine (start_any n w1 hn4).mono ?_
  rintro e w2 ⟨rfl, hb2⟩
  have hz2 := hb2.size
  have hfr2 := (unhide HFR).below hb2
  rcases hfr2 with ⟨hfs, rfl⟩ | ⟨f, cap, rfl, hf2, hcell⟩
  · subst hfs
    go_wp2_with (first | (refine wpList_store_new rfl 106 _ _ rfl (nums .u8 Z288) (nums .u8 (startTo n)) rfl rfl (Tryz.sizeMem _ (startTo_len n)) (by rw [nums_size, nums_size, startTo_len, Z288_len]) (nums_one _ _) ?_))
    refine wp_loop_rounds 1 ?_
    rw [rounds_succ]
    go_wp2_with (first | (refine wpList_load_blk rfl 106 _ rfl w2.heap.size rfl 106 (nums .u8 (startTo n)) _ (Blk.new _ _ _) Tryz.underlying106 rfl (Tryz.sizeMem _ (startTo_len n)) ?_))
    refine (bytes_any (startTo n) _ (startTo_len n)).mono ?_
    rintro e w3 ⟨g, rfl, hg3, hbg, hb3⟩
    go_wp2
    go_ret2
    exact ⟨g, rfl, by simp at hg3; omega, hbg, (hb2.alloc hz2 _).trans (hb3.mono (by simp; omega))⟩
  · have HC := hide hcell
    clear hcell
    go_wp2_with (first | (refine wpList_store_new rfl 106 _ _ rfl (nums .u8 Z288) (nums .u8 (startTo n)) rfl rfl (Tryz.sizeMem _ (startTo_len n)) (by rw [nums_size, nums_size, startTo_len, Z288_len]) (nums_one _ _) ?_))
    go_loopw [22] (fun i wr => ∃ k : Nat, k ≤ fs.length ∧ i = .int .i64 k ∧ Below w2.heap.size w2 wr ∧ Blk wr w2.heap.size (nums .u8 (playTo n fs k)) 106) (fun i _ => fs.length - (intOf i).toNat)
    case atStart => exact ⟨0, by omega, rfl, (Below.refl _ _).alloc (Nat.le_refl _) _, Blk.new _ _ _⟩
    case round =>
      obtain ⟨k, hk, rfl, hb3, hbm⟩ := hrel
      have hgk := good_play n hn4 fs k
      have hlk := hgk.len
      have HBM := hide hbm
      have hlm := hbm.lt
      have HGK := hide hgk
      clear hbm hgk
      by_cases hlt : k < fs.length
      · obtain ⟨b, c, c1, c2, c3⟩ := unhide HC k hlt
        have hlt' : (k : Int) < (fs.length : Int) := by omega
        have hck : wr.cell? ⟨f, k, none⟩ = some (.slice (some ⟨b, 0, none⟩) n c) := by
          rw [hb3.cell (p := ⟨f, k, none⟩) hf2, c1, unhide HLE k hlt]
        have HLN : Hid ((frameL (playTo n fs k) n (fs.getD k [])).length = 288) := hide (good_play n hn4 fs (k + 1)).len
        clear c1
        have HC3 := hide c3
        clear c3
        go_wp2_with (refine wpList_load_blk rfl 106 _ rfl w2.heap.size rfl 106 (nums .u8 (playTo n fs k)) _ (unhide HBM) Tryz.underlying106 rfl (Tryz.sizeMem _ hlk) ?_)
        refine (next_any b n c (playTo n fs k) (fs.getD k []) wr hn4 (unhide HGK) (unhide HLE k hlt) (unhide HRG k) (by have := hb3.size; omega) (fun j hj => by rw [hb3.cell (p := ⟨b, j, none⟩) c2]; exact unhide HC3 j (by rw [unhide HLE k hlt]; exact hj))).mono ?_
        rintro e w4 ⟨rfl, hb4⟩
        have hz4 := hb4.size
        have hbm4 := (unhide HBM).below hlm hb4
        have hln := unhide HLN
        have HNM : Hid (playTo n fs (k + 1) = frameL (playTo n fs k) n (fs.getD k [])) := hide rfl
        clear HLN
        generalize frameL (playTo n fs k) n (fs.getD k []) = nm at *
        go_wp2_with (refine wpList_store_blk rfl 106 _ _ rfl w2.heap.size 106 (nums .u8 (playTo n fs k)) (nums .u8 nm) rfl rfl hbm4 (Tryz.sizeMem _ hln) (by rw [nums_size, nums_size, hlk, hln]) (nums_one _ _) ?_)
        go_roundw
        case rel => exact ⟨k + 1, by omega, by go_num, below_setRow (hb3.trans (hb4.mono (by omega))) (Nat.le_refl _) _, by rw [unhide HNM]; exact hbm4.setRow _⟩
        case measure => simp [intOf]; omega
      · have hkn : k = fs.length := by omega
        subst hkn
        go_wp2_with (refine wpList_load_blk rfl 106 _ rfl w2.heap.size rfl 106 (nums .u8 (playTo n fs fs.length)) _ (unhide HBM) Tryz.underlying106 rfl (Tryz.sizeMem _ hlk) ?_)
        refine (bytes_any (playTo n fs fs.length) _ hlk).mono ?_
        rintro e w4 ⟨g, rfl, hg4, hbg, hb4⟩
        go_wp2
        go_ret2
        have hz3 := hb3.size
        exact ⟨g, rfl, by omega, hbg, (hb2.trans (hb3.mono hz2)).trans (hb4.mono (by omega))⟩
end Go.Proofs.YtandblanpafjoabGreatDoor

