import Derived.Test.YtkcljpacofehlaaDoorPlays2
namespace Go.Proofs.YtkcljpacofehlaaDoor
open Go.RowKit Go.Extern.Stop Go.Stop Go.Extern

/-- A block of bytes that begins with these numbers, whatever its marks. -/
def Beg (w : World) (b : Nat) (l : List Int) : Prop := ∃ cs fr, w.heap[b]? = some (.cells cs 5 fr) ∧ ∀ q, q < l.length → cs[q]? = some (.int .u8 (l.getD q 0))
theorem Beg.lt {w : World} {b : Nat} {l : List Int} (h : Beg w b l) : b < w.heap.size := by
  obtain ⟨cs, fr, h1, _⟩ := h
  exact (Array.getElem?_eq_some_iff.1 h1).1
theorem Beg.same {w w' : World} {b : Nat} {l : List Int} (h : Beg w b l) (e : w'.heap[b]? = w.heap[b]?) : Beg w' b l := by
  obtain ⟨cs, fr, h1, h2⟩ := h
  exact ⟨cs, fr, by rw [e]; exact h1, h2⟩
theorem Beg.below {B : Nat} {w w' : World} {b : Nat} {l : List Int} (h : Beg w b l) (hb : Below B w w') (hB : b < B) : Beg w' b l := h.same (hb.block b hB)
theorem Beg.cell {w : World} {b : Nat} {l : List Int} (h : Beg w b l) (q : Nat) (hq : q < l.length) : w.cell? ⟨b, q, none⟩ = some (.int .u8 (l.getD q 0)) := by
  obtain ⟨cs, fr, h1, h2⟩ := h
  rw [cell_of_row w b q cs _ fr h1]; exact h2 q hq
theorem Beg.ofBlk {w : World} {b : Nat} {l : List Int} (h : Blk w b (nums .u8 l) 5) : Beg w b l := ⟨_, _, h, fun q hq => nums_get .u8 l q hq⟩
theorem own_ne' {w : World} {base : Nat} {v : Value} {n : Nat} {xs : List Value} (h : w.ownsRow base 27 1 v n xs) {b : Nat} {l : List Int} (hb : Beg w b l) : some b ≠ v.ownBlock := by
  obtain ⟨cs, fr, hb1, _⟩ := hb
  rcases h.2 with ⟨rfl, _⟩ | ⟨g, cap, cur, rfl, _, hg, _⟩
  · intro e; cases e
  · intro e
    have e' : b = g := Option.some.inj e
    subst e'
    have := Option.some.inj (hb1.symm.trans hg)
    injection this with _ h2
    exact absurd h2 (by decide)
def ListsAt (w : World) (base : Nat) (fs : List (List Int)) (j : Nat) (xs : List Value) : Prop :=
  ∀ i, i < j → ∃ b c, xs[i]? = some (.slice (some ⟨b, 0, none⟩) (fs.getD i []).length c) ∧ base ≤ b ∧ Beg w b (fs.getD i [])
theorem lists_push {wr W w2 : World} {base : Nat} {v : Value} {j : Nat} {xs : List Value} {fs : List (List Int)} {b c : Nat} (hown : wr.ownsRow base 27 1 v j xs) (hl : ListsAt wr base fs j xs) (hW : Below wr.heap.size wr W)
    (hb : base ≤ b) (hbeg : Beg W b (fs.getD j [])) (x : Value) (hx : x = .slice (some ⟨b, 0, none⟩) (fs.getD j []).length c) (hg : (W.alloc (.cells #[x] 27)).grownBy w2 v.ownBlock) : ListsAt w2 base fs (j + 1) (xs ++ [x]) := by
  have hlen := hown.1
  have hownW : (W.alloc (.cells #[x] 27)).ownsRow base 27 1 v j xs :=
    (hown.kept (grown_below hW none) (by cases hv : v.ownBlock <;> simp)).alloc _
  have hkeep : ∀ b' l, Beg (W.alloc (.cells #[x] 27)) b' l → Beg w2 b' l := fun b' l hb' => hb'.same (hg.block b' hb'.lt (own_ne' hownW hb'))
  have halloc : ∀ b' l, Beg W b' l → Beg (W.alloc (.cells #[x] 27)) b' l := fun b' l hb' => hb'.same (heap_alloc_old W _ hb'.lt)
  intro i hi
  by_cases hij : i = j
  · subst hij
    refine ⟨b, c, ?_, hb, hkeep _ _ (halloc _ _ hbeg)⟩
    rw [List.getElem?_append_right (by omega)]
    simp [hlen, hx]
  · obtain ⟨b', c', h1, h2, h3⟩ := hl i (by omega)
    refine ⟨b', c', ?_, h2, hkeep _ _ (halloc _ _ (h3.below hW h3.lt))⟩
    rw [List.getElem?_append_left (by omega)]; exact h1
theorem frAt_of_lists {w : World} {base : Nat} {v : Value} {fs : List (List Int)} {xs : List Value} (ho : w.ownsRow base 27 1 v fs.length xs) (hr : ListsAt w base fs fs.length xs) : FrAt w v fs := by
  rcases ho.2 with ⟨rfl, hj⟩ | ⟨g, cap, cur, rfl, hbg, hg, hjc, hcm, hcs, htake⟩
  · exact Or.inl ⟨List.eq_nil_of_length_eq_zero hj, rfl⟩
  · refine Or.inr ⟨g, cap, rfl, Blk.lt hg, fun i hi => ?_⟩
    obtain ⟨b, c, h1, h2, h3⟩ := hr i hi
    have hc := ho.cells (g := g) rfl i _ h1
    rw [Addr.add_mid, Nat.zero_add] at hc
    exact ⟨b, c, hc, h3.lt, fun q hq => h3.cell q hq⟩

/-! pick -/
def pickN (c : Int) (n : Nat) : Nat := ((if c < 0 then -(c + 1) else c) % (n : Int)).toNat
theorem pickN_lt (c : Int) (n : Nat) (hn : 0 < n) : pickN c n < n := by
  unfold pickN
  have h1 := Int.emod_nonneg (if c < 0 then -(c + 1) else c) (show (n : Int) ≠ 0 by omega)
  have h2 := Int.emod_lt_of_pos (if c < 0 then -(c + 1) else c) (show (0 : Int) < n by omega)
  omega
theorem pickN_two (c : Int) : pickN c 2 = pickN c 4 % 2 := by
  unfold pickN
  generalize (if c < 0 then -(c + 1) else c) = d
  omega
set_option maxHeartbeats 400000 in
theorem pick_any (c : Int) (n : Nat) (w : World) (hc : -9223372036854775808 ≤ c ∧ c ≤ 9223372036854775807) (hn : 1 ≤ n) (hn2 : n ≤ 1000) :
    Calls Tryd.prog 27 #[.int .i64 c, .int .i64 (n : Int)] w fun e w' => e = .returned (.int .i64 (pickN c n : Int)) ∧ w' = w := by
  obtain ⟨hc0, hc1⟩ := hc
  have hn0 : (1 : Int) ≤ (n : Int) := by omega
  have hn3 : (n : Int) ≤ 1000 := by omega
  have hne : ((n : Int) == 0) = false := by rw [beq_eq_false_iff_ne]; omega
  by_cases h : c < 0
  · have e : ((pickN c n : Nat) : Int) = (-(c + 1)) % (n : Int) := by
      unfold pickN; rw [if_pos h]
      have := Int.emod_nonneg (-(c + 1)) (show (n : Int) ≠ 0 by omega)
      omega
    rw [e]
    have h1 : 0 ≤ -(c + 1) := by omega
    clear e
    go_enter Tryd.func27, Tryd.ntmps27
    go_wp2
    have et : -((c + 1).tmod (n : Int)) = (-(c + 1)) % (n : Int) := by rw [← Int.neg_tmod, Int.tmod_eq_emod_of_nonneg h1]
    rw [← et]
    go_ret
    exact ⟨rfl, rfl⟩
  · have e : ((pickN c n : Nat) : Int) = c % (n : Int) := by
      unfold pickN; rw [if_neg h]
      have := Int.emod_nonneg c (show (n : Int) ≠ 0 by omega)
      omega
    rw [e]
    have h1 : 0 ≤ c := by omega
    clear e
    go_enter Tryd.func27, Tryd.ntmps27
    go_wp2
    go_ret
    exact ⟨rfl, rfl⟩
end Go.Proofs.YtkcljpacofehlaaDoor
