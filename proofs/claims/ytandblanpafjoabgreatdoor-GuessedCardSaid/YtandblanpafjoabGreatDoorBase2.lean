import Derived.Test.YtandblanpafjoabGreatDoorBase
namespace Go.Proofs.YtandblanpafjoabGreatDoor
open Go.RowKit

theorem grown_set (w : World) (g i : Nat) (v : Value) : w.grownBy (w.setCell ⟨g, i, none⟩ v) (some g) :=
  ⟨rfl, rfl, rfl, by simp, fun k _ hk => heap_setCell_other w _ k v (fun e => hk (by rw [e]))⟩
theorem grown_refl (w : World) (r : Option Nat) : w.grownBy w r := ⟨rfl, rfl, rfl, Nat.le_refl _, fun _ _ _ => rfl⟩
theorem grown_trans {a b c : World} {r : Option Nat} (h : a.grownBy b r) (k : b.grownBy c r) : a.grownBy c r :=
  ⟨k.os.trans h.os, k.tape.trans h.tape, k.output.trans h.output, Nat.le_trans h.size k.size, fun i hi hr => (k.block i (Nat.lt_of_lt_of_le hi h.size) hr).trans (h.block i hi hr)⟩
theorem grown_below {a b : World} (h : Below a.heap.size a b) (r : Option Nat) : a.grownBy b r :=
  ⟨h.os, h.tape, h.output, h.size, fun i hi _ => h.block i hi⟩
theorem grown_drew (w : World) (r : Option Nat) : w.grownBy w.drew r := ⟨rfl, rfl, rfl, Nat.le_refl _, fun _ _ _ => rfl⟩
theorem below_grown {B g : Nat} {w w' : World} (h : w.grownBy w' (some g)) (hB : B ≤ w.heap.size) (hg : B ≤ g) : Below B w w' :=
  ⟨h.os, h.tape, h.output, h.size, fun k hk => h.block k (by omega) (fun e => by injection e with e'; omega)⟩
theorem Blk.grown {w w' : World} {b : Nat} {cs : Array Value} {t : TypeId} {g : Nat} (h : Blk w b cs t) (hg : w.grownBy w' (some g)) (hne : b ≠ g) : Blk w' b cs t := by
  have := h.lt
  unfold Blk at h ⊢
  rw [hg.block b this (fun e => hne (by injection e))]; exact h

section
variable {P : Program}
/-- A number stored into a row of numbers: behind it the world is a letter. -/
theorem wpList_store_num {ops : Array Oper} {rest : List Oper} {op : Oper} {a : Act} {w : World} {Q : Exit → Act → World → Prop} (hgd : op.guard = none) (ty : TypeId) (x y : Operand) (ho : op.op = .store ty x y)
    (g i : Nat) (k : IntKind) (v : Int) (l : List Int) (t : TypeId) (hx : a.eval x = .pointer (some ⟨g, i, none⟩)) (hy : a.eval y = .int k v) (hg : Blk w g (nums k l) t) (hi : i < l.length)
    (hs : (P.info? ty).map (·.size) = some 1)
    (h : ∀ w', Blk w' g (nums k (l.set i v)) t → w.grownBy w' (some g) → w'.heap.size = w.heap.size → (∀ b o, b ≠ g → w'.cell? ⟨b, o, none⟩ = w.cell? ⟨b, o, none⟩) → wpList P ops Q rest (a.put op.dst undef) w') : wpList P ops Q (op :: rest) a w :=
  wpList_plain hgd fun _ hK => by
    cases hq : P.info? ty with
    | none => simp [hq] at hs
    | some inf =>
      have hm : inf.size = 1 := by simpa [hq] using hs
      have hst : (storeVar ty ⟨g, i, none⟩ (.int k v)).run P w = .ok () (w.setCell ⟨g, i, none⟩ (.int k v)) := by
        have hc := hg.num i hi
        have hf := hg.frozen i
        simp [storeVar, sizeOf, typeInfo, hq, hm, Value.cells, storeCells, Addr.add]
        rw [run_store P w _ _ _ (by rfl)]
        simp [hc, hf]
      unfold Oper.wp execOp
      simp only [ho, hx, hy, Instr.storeAt, Instr.sureAddr, Sem.run_bind, Sem.run_pure, Result.andThen_ok, hst]
      exact hK _ _ (h _ (hg.put i v) (grown_set w g i _) (by simp) (fun b o hb => World.cell?_setCell_other _ _ _ _ (by intro e; injection e with e1; exact hb e1.symm)))
/-- A value of one cell stored into a block: behind it the world is a letter. -/
theorem wpList_store_one {ops : Array Oper} {rest : List Oper} {op : Oper} {a : Act} {w : World} {Q : Exit → Act → World → Prop} (hgd : op.guard = none) (ty : TypeId) (x y : Operand) (ho : op.op = .store ty x y)
    (g i : Nat) (v : Value) (cs : Array Value) (t : TypeId) (hx : a.eval x = .pointer (some ⟨g, i, none⟩)) (hy : a.eval y = v) (h1 : v.oneCell' = true) (hg : Blk w g cs t) (hi : i < cs.size)
    (hs : (P.info? ty).map (·.size) = some 1)
    (h : ∀ w', Blk w' g (cs.setIfInBounds i v) t → w.grownBy w' (some g) → w'.heap.size = w.heap.size → (∀ b o, b ≠ g → w'.cell? ⟨b, o, none⟩ = w.cell? ⟨b, o, none⟩) → wpList P ops Q rest (a.put op.dst undef) w') : wpList P ops Q (op :: rest) a w :=
  wpList_plain hgd fun _ hK => by
    cases hq : P.info? ty with
    | none => simp [hq] at hs
    | some inf =>
      have hm : inf.size = 1 := by simpa [hq] using hs
      have hst : (storeVar ty ⟨g, i, none⟩ v).run P w = .ok () (w.setCell ⟨g, i, none⟩ v) := by
        have hc : w.cell? ⟨g, i, none⟩ = some cs[i] := by rw [hg.cell i, Array.getElem?_eq_getElem hi]
        have hf := hg.frozen i
        have hvc : v.cells = #[v] := by cases v <;> first | rfl | (simp [Value.oneCell'] at h1)
        simp [storeVar, sizeOf, typeInfo, hq, hm, hvc, storeCells, Addr.add]
        rw [run_store P w _ _ _ h1]
        simp [hc, hf]
      unfold Oper.wp execOp
      simp only [ho, hx, hy, Instr.storeAt, Instr.sureAddr, Sem.run_bind, Sem.run_pure, Result.andThen_ok, hst]
      exact hK _ _ (h _ (hg.set i v) (grown_set w g i _) (by simp) (fun b o hb => World.cell?_setCell_other _ _ _ _ (by intro e; injection e with e1; exact hb e1.symm)))
end
end Go.Proofs.YtandblanpafjoabGreatDoor
