import Derived.Test.YtandblanpafjoabGreatDoorCom
namespace Go.Proofs.YtandblanpafjoabGreatDoor
open Go.RowKit

/-! What a call may have changed: of the old blocks those of F alone. -/
structure Chg (F : Nat → Prop) (w w' : World) : Prop where
  os : w'.os = w.os
  tape : w'.tape = w.tape
  output : w'.output = w.output
  size : w.heap.size ≤ w'.heap.size
  block : ∀ k, k < w.heap.size → ¬ F k → w'.heap[k]? = w.heap[k]?

theorem Chg.refl (F : Nat → Prop) (w : World) : Chg F w w := ⟨rfl, rfl, rfl, Nat.le_refl _, fun _ _ _ => rfl⟩
theorem Chg.trans {F G : Nat → Prop} {a b c : World} (h : Chg F a b) (k : Chg G b c) (hG : ∀ x, x < a.heap.size → G x → F x) : Chg F a c :=
  ⟨k.os.trans h.os, k.tape.trans h.tape, k.output.trans h.output, Nat.le_trans h.size k.size, fun x hx hF => (k.block x (Nat.lt_of_lt_of_le hx h.size) (fun e => hF (hG x hx e))).trans (h.block x hx hF)⟩
theorem Chg.mono {F G : Nat → Prop} {a b : World} (h : Chg G a b) (hG : ∀ x, x < a.heap.size → G x → F x) : Chg F a b :=
  ⟨h.os, h.tape, h.output, h.size, fun x hx hF => h.block x hx (fun e => hF (hG x hx e))⟩
theorem Chg.ofBelow {F : Nat → Prop} {w w' : World} (h : Below w.heap.size w w') : Chg F w w' :=
  ⟨h.os, h.tape, h.output, h.size, fun k hk _ => h.block k hk⟩
theorem Chg.toBelow {F : Nat → Prop} {w w' : World} {B : Nat} (h : Chg F w w') (hB : B ≤ w.heap.size) (hF : ∀ k, F k → B ≤ k) : Below B w w' :=
  ⟨h.os, h.tape, h.output, h.size, fun k hk => h.block k (Nat.lt_of_lt_of_le hk hB) (fun e => absurd (hF k e) (by omega))⟩
theorem Chg.ofGrown {F : Nat → Prop} {w w' : World} {g : Nat} (h : w.grownBy w' (some g)) (hF : F g) : Chg F w w' :=
  ⟨h.os, h.tape, h.output, h.size, fun k hk hk' => h.block k hk (fun e => hk' (by cases e; exact hF))⟩
theorem Chg.alloc (F : Nat → Prop) (w : World) (o : Obj) : Chg F w (w.alloc o) :=
  .ofBelow ((Below.refl _ w).alloc (Nat.le_refl _) o)
theorem Chg.setCell {F : Nat → Prop} (w : World) (g i : Nat) (v : Value) (hF : F g) : Chg F w (w.setCell ⟨g, i, none⟩ v) := .ofGrown (grown_set w g i v) hF
theorem Chg.drew (F : Nat → Prop) (w : World) : Chg F w w.drew := ⟨rfl, rfl, rfl, Nat.le_refl _, fun _ _ _ => rfl⟩
theorem Chg.drewN (F : Nat → Prop) (w : World) (n : Nat) : Chg F w (w.drewN n) := ⟨rfl, rfl, rfl, Nat.le_refl _, fun _ _ _ => rfl⟩
theorem Chg.heap {F : Nat → Prop} {w w' : World} (h : Chg F w w') {k : Nat} (hk : k < w.heap.size) (hF : ¬ F k) : w'.heap[k]? = w.heap[k]? := h.block k hk hF
theorem Blk.chg {F : Nat → Prop} {w w' : World} {g : Nat} {cs : Array Value} {t : TypeId} (h : Blk w g cs t) (hc : Chg F w w') (hF : ¬ F g) : Blk w' g cs t := by
  have := h.lt
  unfold Blk at h ⊢
  rw [hc.block g this hF]; exact h
/-- What stands in the blocks of F reads on where those blocks have stayed. -/
def Same (F : Nat → Prop) (w w' : World) : Prop := ∀ k, F k → w'.heap[k]? = w.heap[k]?
theorem Chg.same {F G : Nat → Prop} {w w' : World} (h : Chg F w w') (hG : ∀ k, G k → k < w.heap.size ∧ ¬ F k) : Same G w w' := fun k hk => h.block k (hG k hk).1 (hG k hk).2
theorem Same.mono {F G : Nat → Prop} {w w' : World} (h : Same F w w') (hG : ∀ k, G k → F k) : Same G w w' := fun k hk => h k (hG k hk)
theorem Same.below {F : Nat → Prop} {w w' : World} (h : Below w.heap.size w w') (hF : ∀ k, F k → k < w.heap.size) : Same F w w' := fun k hk => h.block k (hF k hk)
theorem Blk.same {F : Nat → Prop} {w w' : World} {g : Nat} {cs : Array Value} {t : TypeId} (h : Blk w g cs t) (hc : Same F w w') (hF : F g) : Blk w' g cs t := by
  unfold Blk at h ⊢
  rw [hc g hF]; exact h
/-- A row of one's own, wherever it lies. -/
theorem owns_same {w w' : World} {base : Nat} {e : TypeId} {s : Nat} {v : Value} {n : Nat} {xs : List Value} (h : w.ownsRow base e s v n xs) (hs : ∀ k, v.ownBlock = some k → w'.heap[k]? = w.heap[k]?) : w'.ownsRow base e s v n xs := by
  obtain ⟨h1, h2⟩ := h
  refine ⟨h1, ?_⟩
  rcases h2 with h2 | ⟨g, cap, cur, rfl, hb, hg, hr⟩
  · exact .inl h2
  · exact .inr ⟨g, cap, cur, rfl, hb, (hs g rfl).trans hg, hr⟩
end Go.Proofs.YtandblanpafjoabGreatDoor
