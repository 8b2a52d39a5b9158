import Derived.Test.YtandblanpafjoabGreatDoorChg
import Derived.Deep.MidRow
namespace Go.Proofs.YtandblanpafjoabGreatDoor
open Go.RowKit

/-! Parts of a block: read and written as one. -/
def putA : Array Value → Nat → List Value → Array Value
  | cs, _, [] => cs
  | cs, o, v :: r => putA (cs.setIfInBounds o v) (o + 1) r
theorem Blk.setCells {t : TypeId} {g : Nat} : ∀ (vs : List Value) (o : Nat) (w : World) (cs : Array Value), Blk w g cs t → Blk (w.setCells g o vs) g (putA cs o vs) t
  | [], _, _, _, h => h
  | v :: r, o, _, _, h => Blk.setCells r (o + 1) _ _ (h.set o v)
theorem heap_setCells_other {g g' : Nat} (hne : g' ≠ g) : ∀ (vs : List Value) (o : Nat) (w : World), (w.setCells g o vs).heap[g']? = w.heap[g']?
  | [], _, _ => rfl
  | v :: r, o, w => (heap_setCells_other hne r (o + 1) _).trans (heap_setCell_other w _ g' v (fun e => hne e))
theorem grown_setCells (g : Nat) : ∀ (vs : List Value) (o : Nat) (w : World), w.grownBy (w.setCells g o vs) (some g)
  | [], _, w => grown_refl w _
  | v :: r, o, w => grown_trans (grown_set w g o v) (grown_setCells g r (o + 1) _)
theorem Chg.setCells {F : Nat → Prop} (w : World) (g o : Nat) (vs : List Value) (hF : F g) : Chg F w (w.setCells g o vs) := .ofGrown (grown_setCells g vs o w) hF
theorem Chg.thenBelow {F : Nat → Prop} {a b c : World} (h : Chg F a b) (k : Below a.heap.size b c) : Chg F a c :=
  ⟨k.os.trans h.os, k.tape.trans h.tape, k.output.trans h.output, Nat.le_trans h.size k.size, fun x hx hF => (k.block x hx).trans (h.block x hx hF)⟩
theorem Chg.thenCells {F : Nat → Prop} {a b : World} (h : Chg F a b) (g o : Nat) (vs : List Value) (hF : F g) : Chg F a (b.setCells g o vs) := h.trans (Chg.setCells b g o vs hF) (fun _ _ h => h)
theorem Chg.thenCell {F : Nat → Prop} {a b : World} (h : Chg F a b) (g i : Nat) (v : Value) (hF : F g) : Chg F a (b.setCell ⟨g, i, none⟩ v) := h.trans (Chg.setCell b g i v hF) (fun _ _ h => h)
theorem Chg.thenNew {F : Nat → Prop} {a b : World} (h : Chg F a b) (g i : Nat) (v : Value) (hF : a.heap.size ≤ g) : Chg F a (b.setCell ⟨g, i, none⟩ v) := h.trans (Chg.setCell (F := fun k => k = g) b g i v rfl) (fun x hx e => absurd hx (by have : x = g := e; omega))
theorem size_setCells (g : Nat) : ∀ (vs : List Value) (o : Nat) (w : World), (w.setCells g o vs).heap.size = w.heap.size
  | [], _, _ => rfl
  | v :: r, o, w => (size_setCells g r (o + 1) _).trans (by simp)
theorem putA_toList : ∀ (vs : List Value) (o : Nat) (cs : Array Value), (putA cs o vs).size = cs.size
  | [], _, _ => rfl
  | v :: r, o, cs => by rw [putA, putA_toList r]; simp
theorem putA_mid : ∀ (b b' a c : List Value), b'.length = b.length → putA (a ++ (b ++ c)).toArray a.length b' = (a ++ (b' ++ c)).toArray
  | [], [], a, c, _ => rfl
  | x :: b, y :: b', a, c, h => by
    have h' : b'.length = b.length := by simpa using h
    have e : ((a ++ (x :: b ++ c)).toArray).setIfInBounds a.length y = ((a ++ [y]) ++ (b ++ c)).toArray := by
      simp
    have := putA_mid b b' (a ++ [y]) c h'
    rw [putA, e]
    simp only [List.length_append, List.length_singleton] at this
    rw [this]
    simp
/-- A part of a block is stored. -/
theorem Blk.mid {w : World} {g : Nat} {a b c : List Value} {t : TypeId} (h : Blk w g (a ++ (b ++ c)).toArray t) (b' : List Value) (hb : b'.length = b.length) : Blk (w.setCells g a.length b') g (a ++ (b' ++ c)).toArray t := by
  have := Blk.setCells b' a.length w _ h
  rwa [putA_mid b b' a c hb] at this
theorem Blk.rangeAt {w : World} {g : Nat} {a b c : List Value} {t : TypeId} (h : Blk w g (a ++ (b ++ c)).toArray t) : w.rangeAt g a.length b := fun j v hv => by
  have hj := (List.getElem?_eq_some_iff.1 hv).1
  rw [h.cell]
  simp only [List.getElem?_toArray]
  rw [List.getElem?_append_right (by omega), List.getElem?_append_left (by omega)]
  simpa using hv
theorem Blk.there {w : World} {g o n : Nat} {cs : Array Value} {t : TypeId} (h : Blk w g cs t) (hn : o + n ≤ cs.size) : w.there g o n := fun j hj => by
  rw [h.cell, h.frozen]
  simp; omega
end Go.Proofs.YtandblanpafjoabGreatDoor
