import Derived.Test.YtandblanpafjoabGreatDoorPack43
namespace Go.Proofs.YtandblanpafjoabGreatDoor
open Go.RowKit Go.Extern.Stop Go.Stop Go.Extern

/-! Two nets and a configuration beside each other. -/
structure TwoN (w0 wr : World) (g1 g2 cb : Nat) (pv1 pv2 : Value) (pb1 pb2 : Nat → Nat) (F1 F2 : Nat → Prop) (cs : Array Value) (m1 m2 : NetM) : Prop where
  n1 : NetQ wr g1 pv1 pb1 F1 m1
  n2 : NetQ wr g2 pv2 pb2 F2 m2
  cfg : Blk wr cb cs 26
  a1 : ∀ k, F1 k → w0.heap.size ≤ k ∧ k ≠ cb ∧ ¬ F2 k
  a2 : ∀ k, F2 k → w0.heap.size ≤ k ∧ k ≠ cb
  bel : Below w0.heap.size w0 wr
theorem TwoN.below {w0 wr w' : World} {g1 g2 cb : Nat} {pv1 pv2 : Value} {pb1 pb2 : Nat → Nat} {F1 F2 : Nat → Prop} {cs : Array Value} {m1 m2 : NetM} (h : TwoN w0 wr g1 g2 cb pv1 pv2 pb1 pb2 F1 F2 cs m1 m2) (hb : Below wr.heap.size wr w') : TwoN w0 w' g1 g2 cb pv1 pv2 pb1 pb2 F1 F2 cs m1 m2 :=
  ⟨h.n1.below hb, h.n2.below hb, (hb.block cb h.cfg.lt).trans h.cfg, h.a1, h.a2, h.bel.trans (hb.mono h.bel.size)⟩
theorem TwoN.act1 {w0 wr w' : World} {g1 g2 cb : Nat} {pv1 pv2 : Value} {pb1 pb2 : Nat → Nat} {F1 F2 F1' : Nat → Prop} {cs : Array Value} {m1 m2 m1' : NetM} (h : TwoN w0 wr g1 g2 cb pv1 pv2 pb1 pb2 F1 F2 cs m1 m2) (hC : Chg F1 wr w') (hQ : NetQ w' g1 pv1 pb1 F1' m1') (hF : ∀ k, F1' k → F1 k ∨ wr.heap.size ≤ k) : TwoN w0 w' g1 g2 cb pv1 pv2 pb1 pb2 F1' F2 cs m1' m2 := by
  have hcl := h.cfg.lt
  have hz := h.bel.size
  refine ⟨hQ, h.n2.same (fun k hk => hC.block k (h.n2.lt k hk) (fun e => (h.a1 k e).2.2 hk)), (hC.block cb hcl (fun e => (h.a1 cb e).2.1 rfl)).trans h.cfg, fun k hk => ?_, h.a2, h.bel.trans (hC.toBelow h.bel.size (fun k hk => (h.a1 k hk).1))⟩
  rcases hF k hk with e | e
  · exact h.a1 k e
  · exact ⟨by omega, by omega, fun e2 => by have := h.n2.lt k e2; omega⟩
theorem TwoN.act2 {w0 wr w' : World} {g1 g2 cb : Nat} {pv1 pv2 : Value} {pb1 pb2 : Nat → Nat} {F1 F2 F2' : Nat → Prop} {cs : Array Value} {m1 m2 m2' : NetM} (h : TwoN w0 wr g1 g2 cb pv1 pv2 pb1 pb2 F1 F2 cs m1 m2) (hC : Chg F2 wr w') (hQ : NetQ w' g2 pv2 pb2 F2' m2') (hF : ∀ k, F2' k → F2 k ∨ wr.heap.size ≤ k) : TwoN w0 w' g1 g2 cb pv1 pv2 pb1 pb2 F1 F2' cs m1 m2' := by
  have hcl := h.cfg.lt
  have hz := h.bel.size
  refine ⟨h.n1.same (fun k hk => hC.block k (h.n1.lt k hk) (fun e => (h.a1 k hk).2.2 e)), hQ, (hC.block cb hcl (fun e => (h.a2 cb e).2 rfl)).trans h.cfg, fun k hk => ⟨(h.a1 k hk).1, (h.a1 k hk).2.1, fun e => ?_⟩, fun k hk => ?_, h.bel.trans (hC.toBelow h.bel.size (fun k hk => (h.a2 k hk).1))⟩
  · rcases hF k e with e | e
    · exact (h.a1 k hk).2.2 e
    · have := h.n1.lt k hk; omega
  · rcases hF k hk with e | e
    · exact h.a2 k e
    · exact ⟨by omega, by omega⟩
theorem TwoN.laid {w0 wr : World} {g1 g2 cb : Nat} {pv1 pv2 : Value} {pb1 pb2 : Nat → Nat} {F1 F2 : Nat → Prop} {cs : Array Value} {m1 m2 : NetM} (h : TwoN w0 wr g1 g2 cb pv1 pv2 pb1 pb2 F1 F2 cs m1 m2) (hL : Laid w0) : Laid wr := hL.below hL.lt h.bel
theorem two_start {w w1 w3 : World} {g1 g2 : Nat} {pv1 pv2 : Value} {pb1 pb2 : Nat → Nat} {F1 F2 : Nat → Prop} {cs1 cs2 : Array Value} {m1 m2 : NetM} (q1 : NetQ w1 g1 pv1 pb1 F1 m1) (f1 : ∀ k, F1 k → w.heap.size ≤ k) (b1 : Below w.heap.size w w1)
    (q2 : NetQ w3 g2 pv2 pb2 F2 m2) (f2 : ∀ k, F2 k → (w1.alloc (.cells cs1 26)).heap.size ≤ k) (b3 : Below (w1.alloc (.cells cs1 26)).heap.size (w1.alloc (.cells cs1 26)) w3) :
    TwoN w (w3.alloc (.cells cs2 26)) g1 g2 w1.heap.size pv1 pv2 pb1 pb2 F1 F2 cs1 m1 m2 := by
  have c1 : Below w1.heap.size w1 (w1.alloc (.cells cs1 26)) := (Below.refl _ w1).alloc (Nat.le_refl _) _
  have x1 : Blk (w1.alloc (.cells cs1 26)) w1.heap.size cs1 26 := Blk.new _ _ _
  have z1 : (w1.alloc (.cells cs1 26)).heap.size = w1.heap.size + 1 := by simp
  have c3 : Below w3.heap.size w3 (w3.alloc (.cells cs2 26)) := (Below.refl _ w3).alloc (Nat.le_refl _) _
  have b13 : Below w1.heap.size w1 w3 := c1.trans (b3.mono (by omega))
  have s1 := b1.size
  have s3 := b3.size
  refine ⟨(q1.below b13).below c3, q2.below c3, ((x1.on b3).on c3), fun k hk => ⟨f1 k hk, ?_, fun e => ?_⟩, fun k hk => ?_, (b1.trans (b13.mono s1)).trans (c3.mono (by omega))⟩
  · have := q1.lt k hk; omega
  · have := q1.lt k hk
    have := f2 k e
    omega
  · have := f2 k hk
    exact ⟨by omega, by omega⟩
end Go.Proofs.YtandblanpafjoabGreatDoor
