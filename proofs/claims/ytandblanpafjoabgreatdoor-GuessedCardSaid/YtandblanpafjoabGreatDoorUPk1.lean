import Derived.Test.YtandblanpafjoabGreatDoorPk2
import Derived.Test.YtandblanpafjoabGreatDoorUnpL
namespace Go.Proofs.YtandblanpafjoabGreatDoor
open Go.RowKit Go.Extern.Stop Go.Stop Go.Extern

/-! Packets read: a number of two bytes, what lies about the parts, a copy. -/
theorem or_two (a b : Nat) (ha : a < 256) (hb : b < 256) : bits .or .i64 ((a : Int) * 256) (b : Int) = (a : Int) * 256 + (b : Int) := by
  have hn : a * 256 ||| b = a * 256 + b := by
    have := Nat.two_pow_add_eq_or_of_lt (i := 8) (b := b) (by omega) a
    rw [Nat.mul_comm a 256]; exact this.symm
  show IntKind.i64.wrap ((BitVec.ofInt 64 ((a : Int) * 256) ||| BitVec.ofInt 64 (b : Int)).toNat : Int) = _
  rw [show ((a : Int) * 256) = ((a * 256 : Nat) : Int) by omega, BitVec.toNat_or, ofInt_u64 (a * 256) (by omega), ofInt_u64 b (by omega), hn, i64_id _ (by omega) (by omega)]
  omega

set_option maxHeartbeats 400000 in
theorem pknumber_any (b o n c : Nat) (x y : Nat) (w : World) (hn : 2 ≤ n) (hx : x < 256) (hy : y < 256) (h0 : w.cell? ⟨b, o, none⟩ = some (.int .u8 (x : Int))) (h1 : w.cell? ⟨b, o + 1, none⟩ = some (.int .u8 (y : Int))) :
    Calls Tryz.prog 105 #[.slice (some ⟨b, o, none⟩) n c] w fun e w' => e = .returned (.int .i64 ((x : Int) * 256 + (y : Int))) ∧ ∃ nq, w' = w.drewN nq := by
  have hor := or_two x y hx hy
  have hi0 : (0 : Int) < (n : Int) := by omega
  have hi1 : (1 : Int) < (n : Int) := by omega
  have hw : IntKind.i64.wrap ((x : Int) * 256) = (x : Int) * 256 := i64_id _ (by omega) (by omega)
  go_enter Tryz.func105, Tryz.ntmps105
  go_wp2
  go_quiet (fail)
  go_wp2
  go_ret
  exact ⟨rfl, _, rfl⟩

theorem take_getD (l : List Int) (m j : Nat) (h : j < m) : (l.take m).getD j 0 = l.getD j 0 := by
  rw [List.getD_eq_getElem?_getD, List.getD_eq_getElem?_getD, List.getElem?_take, if_pos h]

set_option maxRecDepth 10000 in
set_option maxHeartbeats 2000000 in
theorem pkbytes_yes (b o k c : Nat) (l : List Int) (w : World) (hl : l.length = k + 8) (hk : k ≤ 70000) (hcap : k + 8 ≤ c)
    (hc : ∀ j, j < k + 8 → w.cell? ⟨b, o + j, none⟩ = some (.int .u8 (l.getD j 0))) (hf : Framed l) :
    Calls Tryz.prog 104 #[.slice (some ⟨b, o, none⟩) (k + 8) c] w fun e w' => e = .returned .nilIface ∧ Below w.heap.size w w' := by
  obtain ⟨_, f2, f3, f4⟩ := hf
  rw [hl] at f2 f4
  have e1 : k + 8 - 1 = k + 7 := by omega
  rw [e1] at f4
  have c0 := hc 0 (by omega)
  have c6 := hc 6 (by omega)
  have c7 := hc (k + 7) (by omega)
  rw [f3] at c0
  rw [f4] at c7
  rw [show l.getD 6 0 = (k : Int) by omega] at c6
  rw [Nat.add_zero] at c0
  clear f2 f3 f4
  have hd : decide ((k : Int) + 8 < 8) = false := by simp; omega
  have hne : ((k : Int) + 8 != 8 + (k : Int)) = false := by rw [Int.add_comm]; simp
  have hw1 : (k : Int) + 8 - 1 = (k : Int) + 7 := by omega
  have ht : ((k : Int) + 7).toNat = k + 7 := by omega
  have HC := hide hc
  have hsum : ∀ W : World, W.heap = w.heap → Calls Tryz.prog 86 #[.slice (some ⟨b, o, none⟩) (k + 7) c] W fun e w' => e = .returned (.int .u8 (xorL (l.take (k + 7)))) ∧ w' = W := fun W hW =>
    pksum_any b o (k + 7) c (l.take (k + 7)) W (by simp [hl]) (by omega) (fun j hj => by rw [take_getD l _ _ hj, World.cell?_of_block (w := w) (by rw [hW])]; exact unhide HC j (by omega))
  have HSUM := hide hsum
  clear hsum hc
  go_enter Tryz.func104, Tryz.ntmps104
  go_wp2
  go_quiet ((go_at_call 86; exact Calls.quiet_of_same (unhide HSUM _ rfl)))
  go_wp2
  go_ret
  exact ⟨rfl, Go.below_drewN (Below.refl _ _) _⟩

set_option maxRecDepth 10000 in
set_option maxHeartbeats 2000000 in
theorem pkbytes_no (b o n c : Nat) (l : List Int) (w : World) (hl : l.length = n) (hn : n ≤ 70000) (hcap : n ≤ c) (hr : ∀ j : Nat, 0 ≤ l.getD j 0 ∧ l.getD j 0 ≤ 255)
    (hc : ∀ j, j < n → w.cell? ⟨b, o + j, none⟩ = some (.int .u8 (l.getD j 0))) (hf : ¬ Framed l) :
    Calls Tryz.prog 104 #[.slice (some ⟨b, o, none⟩) n c] w fun e w' => (∃ s, e = .returned (.iface 219 (.agg #[.string s]))) ∧ Below w.heap.size w w' := by
  by_cases h8 : n < 8
  · have h8' : (n : Int) < 8 := by omega
    clear hr hc hf
    go_enter Tryz.func104, Tryz.ntmps104
    go_wp2
    go_ret
    exact ⟨⟨_, rfl⟩, Below.refl _ _⟩
  obtain ⟨k, rfl⟩ : ∃ k, n = k + 8 := ⟨n - 8, by omega⟩
  have hd : decide ((k : Int) + 8 < 8) = false := by simp; omega
  have c0 := hc 0 (by omega)
  have c6 := hc 6 (by omega)
  have c7 := hc (k + 7) (by omega)
  have r6 := hr 6
  have HC := hide hc
  have HF := hide hf
  have HL := hide hl
  clear hc hf hr h8 hl
  rw [Nat.add_zero] at c0
  obtain ⟨x0, hx0⟩ : ∃ x, x = l.getD 0 0 := ⟨_, rfl⟩
  obtain ⟨x6, hx6⟩ : ∃ x, x = l.getD 6 0 := ⟨_, rfl⟩
  obtain ⟨x7, hx7⟩ : ∃ x, x = l.getD (k + 7) 0 := ⟨_, rfl⟩
  rw [← hx0] at c0
  rw [← hx6] at c6 r6
  rw [← hx7] at c7
  have H0 := hide hx0
  have H6 := hide hx6
  have H7 := hide hx7
  clear hx0 hx6 hx7
  obtain ⟨r60, r61⟩ := r6
  by_cases h6 : x6 = (k : Int)
  · subst h6
    have hne : ((k : Int) + 8 != 8 + (k : Int)) = false := by rw [Int.add_comm]; simp
    by_cases h0 : x0 = 82
    · subst h0
      have hw1 : (k : Int) + 8 - 1 = (k : Int) + 7 := by omega
      have ht : ((k : Int) + 7).toNat = k + 7 := by omega
      have hsum : ∀ W : World, W.heap = w.heap → Calls Tryz.prog 86 #[.slice (some ⟨b, o, none⟩) (k + 7) c] W fun e w' => e = .returned (.int .u8 (xorL (l.take (k + 7)))) ∧ w' = W := fun W hW =>
        pksum_any b o (k + 7) c (l.take (k + 7)) W (by have := unhide HL; simp [this]) (by omega) (fun j hj => by rw [take_getD l _ _ hj, World.cell?_of_block (w := w) (by rw [hW])]; exact unhide HC j (by omega))
      have HSUM := hide hsum
      have hx : x7 ≠ xorL (l.take (k + 7)) := by
        intro e
        have hl := unhide HL
        refine unhide HF ⟨by omega, ?_, (unhide H0).symm, ?_⟩
        · rw [← unhide H6, hl]; omega
        · rw [hl, show k + 8 - 1 = k + 7 by omega, ← unhide H7, e]
      have hxb : (x7 != xorL (l.take (k + 7))) = true := by rw [bne_iff_ne]; exact hx
      clear hsum hx
      go_enter Tryz.func104, Tryz.ntmps104
      go_wp2
      go_quiet ((go_at_call 86; exact Calls.quiet_of_same (unhide HSUM _ rfl)))
      go_wp2
      go_ret
      exact ⟨⟨_, rfl⟩, Go.below_drewN (Below.refl _ _) _⟩
    · have h0b : (x0 != 82) = true := by rw [bne_iff_ne]; exact h0
      go_enter Tryz.func104, Tryz.ntmps104
      go_wp2
      go_ret
      exact ⟨⟨_, rfl⟩, Below.refl _ _⟩
  · have hne : ((k : Int) + 8 != 8 + x6) = true := by rw [bne_iff_ne]; omega
    go_enter Tryz.func104, Tryz.ntmps104
    go_wp2
    go_ret
    exact ⟨⟨_, rfl⟩, Below.refl _ _⟩

set_option maxRecDepth 100000 in
set_option maxHeartbeats 1000000 in
theorem clone_any (b o n c : Nat) (l : List Int) (w : World) (hl : l.length = n) (hn : n ≤ 100000) (hsrc : SrcAt w (some ⟨b, o, none⟩) l) :
    Calls Tryz.prog 106 #[.slice (some ⟨b, o, none⟩) n c] w fun e w' => ∃ g cap, e = .returned (.slice (some ⟨g, 0, none⟩) n cap) ∧ w.heap.size ≤ g ∧ g < w'.heap.size ∧ w'.ownsRow w.heap.size 5 1 (.slice (some ⟨g, 0, none⟩) n cap) n (l.map (Value.int .u8)) ∧ Below w.heap.size w w' := by
  obtain ⟨i8, hi8, hz8, hs8, hy8⟩ := info_parts Tryz.infoU8
  have HT := hide (And.intro hi8 (And.intro hz8 (And.intro hs8 hy8)))
  have HS := hide hsrc
  have HL := hide hl
  have hnn := not_nil
  clear hi8 hz8 hs8 hy8 hsrc hl
  go_enter Tryz.func106, Tryz.ntmps106
  go_wp2_with (at_builtin; refine wpList_append_src rfl _ _ 35 rfl w.heap.size 5 i8 (.int .u8 0) Tryz.underlying35 (unhide HT).1 (unhide HT).2.1 (unhide HT).2.2.1 (unhide HT).2.2.2 rfl _ 0 _ rfl (own_lit w _ 0 _ rfl (Nat.le_refl _) (by unfold maxLen; omega) rfl) _ n c l rfl (fun h => by cases h) (unhide HL) ((unhide HS).alloc _) (by omega) (by simp only [World.size_alloc]; omega) ?_; intro v4 w4 hown4 hgr4 hnil4)
  go_ret
  have hB : Below w.heap.size w w4 := ((Below.refl _ _).alloc (Nat.le_refl _) _).trans (below_grown hgr4 (by simp) (by simp))
  have hown : w4.ownsRow w.heap.size 5 1 v4 n (l.map (Value.int .u8)) := by simpa using hown4
  rcases hown.2 with ⟨h', _⟩ | ⟨g, cap, cur, h', hbg, hg, _⟩
  · have := (hnil4.1 h').1
    cases this
  · subst h'
    exact ⟨g, cap, rfl, hbg, (Array.getElem?_eq_some_iff.1 hg).1, hown, hB⟩
end Go.Proofs.YtandblanpafjoabGreatDoor
