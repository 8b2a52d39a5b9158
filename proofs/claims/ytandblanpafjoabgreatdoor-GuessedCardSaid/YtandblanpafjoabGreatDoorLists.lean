import Derived.Test.YtandblanpafjoabGreatDoorPPlay
import Derived.Test.YtandblanpafjoabGreatDoorPick
namespace Go.Proofs.YtandblanpafjoabGreatDoor
open Go.RowKit Go.Extern.Stop Go.Stop Go.Extern

/-- A block of bytes that begins with these numbers, whatever its marks. -/
def Beg (w : World) (b : Nat) (l : List Int) : Prop := ∃ cs fr, w.heap[b]? = some (.cells cs 5 fr) ∧ ∀ q, q < l.length → cs[q]? = some (.int .u8 (l.getD q 0))
theorem Beg.lt {w : World} {b : Nat} {l : List Int} (h : Beg w b l) : b < w.heap.size := by
  obtain ⟨cs, fr, h1, _⟩ := h
  exact (Array.getElem?_eq_some_iff.1 h1).1
theorem Beg.same {w w' : World} {b : Nat} {l : List Int} (h : Beg w b l) (e : w'.heap[b]? = w.heap[b]?) : Beg w' b l := by
  obtain ⟨cs, fr, h1, h2⟩ := h
  exact ⟨cs, fr, by rw [e]; exact h1, h2⟩
theorem Beg.below {B : Nat} {w w' : World} {b : Nat} {l : List Int} (h : Beg w b l) (hb : Below B w w') (hB : b < B) : Beg w' b l := h.same (hb.block b hB)
theorem Beg.cell {w : World} {b : Nat} {l : List Int} (h : Beg w b l) (q : Nat) (hq : q < l.length) : w.cell? ⟨b, q, none⟩ = some (.int .u8 (l.getD q 0)) := by
  obtain ⟨cs, fr, h1, h2⟩ := h
  rw [cell_of_row w b q cs _ fr h1]; exact h2 q hq
theorem Beg.ofBlk {w : World} {b : Nat} {l : List Int} (h : Blk w b (nums .u8 l) 5) : Beg w b l := ⟨_, _, h, fun q hq => nums_get .u8 l q hq⟩
theorem own_ne' {w : World} {base : Nat} {v : Value} {n : Nat} {xs : List Value} (h : w.ownsRow base 35 1 v n xs) {b : Nat} {l : List Int} (hb : Beg w b l) : some b ≠ v.ownBlock := by
  obtain ⟨cs, fr, hb1, _⟩ := hb
  rcases h.2 with ⟨rfl, _⟩ | ⟨g, cap, cur, rfl, _, hg, _⟩
  · intro e; cases e
  · intro e
    have e' : b = g := Option.some.inj e
    subst e'
    have := Option.some.inj (hb1.symm.trans hg)
    injection this with _ h2
    exact absurd h2 (by decide)
def ListsAt (w : World) (base : Nat) (fs : List (List Int)) (j : Nat) (xs : List Value) : Prop :=
  ∀ i, i < j → ∃ b c, xs[i]? = some (.slice (some ⟨b, 0, none⟩) (fs.getD i []).length c) ∧ base ≤ b ∧ Beg w b (fs.getD i [])
theorem lists_push {wr W w2 : World} {base : Nat} {v : Value} {j : Nat} {xs : List Value} {fs : List (List Int)} {b c : Nat} (hown : wr.ownsRow base 35 1 v j xs) (hl : ListsAt wr base fs j xs) (hW : Below wr.heap.size wr W)
    (hb : base ≤ b) (hbeg : Beg W b (fs.getD j [])) (x : Value) (hx : x = .slice (some ⟨b, 0, none⟩) (fs.getD j []).length c) (hg : (W.alloc (.cells #[x] 35)).grownBy w2 v.ownBlock) : ListsAt w2 base fs (j + 1) (xs ++ [x]) := by
  have hlen := hown.1
  have hownW : (W.alloc (.cells #[x] 35)).ownsRow base 35 1 v j xs :=
    (hown.kept (grown_below hW none) (by cases hv : v.ownBlock <;> simp)).alloc _
  have hkeep : ∀ b' l, Beg (W.alloc (.cells #[x] 35)) b' l → Beg w2 b' l := fun b' l hb' => hb'.same (hg.block b' hb'.lt (own_ne' hownW hb'))
  have halloc : ∀ b' l, Beg W b' l → Beg (W.alloc (.cells #[x] 35)) b' l := fun b' l hb' => hb'.same (heap_alloc_old W _ hb'.lt)
  intro i hi
  by_cases hij : i = j
  · subst hij
    refine ⟨b, c, ?_, hb, hkeep _ _ (halloc _ _ hbeg)⟩
    rw [List.getElem?_append_right (by omega)]
    simp [hlen, hx]
  · obtain ⟨b', c', h1, h2, h3⟩ := hl i (by omega)
    refine ⟨b', c', ?_, h2, hkeep _ _ (halloc _ _ (h3.below hW h3.lt))⟩
    rw [List.getElem?_append_left (by omega)]; exact h1
theorem frAt_of_lists {w : World} {base : Nat} {v : Value} {fs : List (List Int)} {xs : List Value} (ho : w.ownsRow base 35 1 v fs.length xs) (hr : ListsAt w base fs fs.length xs) : FrAt w v fs := by
  rcases ho.2 with ⟨rfl, hj⟩ | ⟨g, cap, cur, rfl, hbg, hg, hjc, hcm, hcs, htake⟩
  · exact Or.inl ⟨List.eq_nil_of_length_eq_zero hj, rfl⟩
  · refine Or.inr ⟨g, cap, rfl, Blk.lt hg, fun i hi => ?_⟩
    obtain ⟨b, c, h1, h2, h3⟩ := hr i hi
    have hc := ho.cells (g := g) rfl i _ h1
    rw [Addr.add_mid, Nat.zero_add] at hc
    exact ⟨b, c, hc, h3.lt, fun q hq => h3.cell q hq⟩

end Go.Proofs.YtandblanpafjoabGreatDoor
