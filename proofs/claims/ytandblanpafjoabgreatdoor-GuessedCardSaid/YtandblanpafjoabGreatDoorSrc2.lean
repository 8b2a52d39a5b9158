import Derived.Test.YtandblanpafjoabGreatDoorSrc
import Derived.Deep.RegionLaw
namespace Go.Proofs.YtandblanpafjoabGreatDoor
open Go.RowKit

section
variable {P : Program}
/-- The same, as a step of a statement that draws its order. -/
theorem step_append_src {ops : Array Oper} {o : Oper} {a : Act} {w : World} {K : Act → World → Prop} {Q : Exit → Act → World → Prop} {E : Prop}
    (hgd : o.guard = none) (s x : Operand) (t : TypeId) (hop : o.op = Op.call { callee := Callee.builtin Builtin.append, args := #[s, x], argTypes := #[t, t] })
    (base : Nat) (e : TypeId) (i : TypeInfo) (z : Value) (h1 : P.underlying t = some (.slice e)) (h2 : P.info? e = some i) (h3 : i.zero = some z) (h4 : i.size = 1) (h5 : i.bytes = 1) (h6 : z.cells.size = 1)
    (v : Value) (n : Nat) (xs : List Value) (hs : a.eval s = v) (hown : w.ownsRow base e 1 v n xs)
    (ao : Option Addr) (m c : Nat) (l : List Int) (hx : a.eval x = .slice ao m c) (hc0 : ao = none → c = 0) (hm : l.length = m) (hsrc : SrcAt w ao l) (hle : n + m ≤ 1000000000) (hbase : base ≤ w.heap.size)
    (hK : ∀ v' w', w'.ownsRow base e 1 v' (n + m) (xs ++ l.map (Value.int .u8)) → w.grownBy w' v.ownBlock → (v' = .slice none 0 0 ↔ v = .slice none 0 0 ∧ m = 0) → K (a.put o.dst v') w') :
    if Region.wanted o (yielded ops a.tmps) = true then Oper.wp P o a w K Q else E := by
  have hw : Region.wanted o (yielded ops a.tmps) = true := by simp [Region.wanted, hgd]
  rw [if_pos hw]
  subst hm
  rcases hsrc with ⟨rfl, rfl⟩ | ⟨b, of, rfl, hb, hcells⟩
  · obtain rfl := hc0 rfl
    have hrun := run_append_owned_none (P := P) w base t o.type e i 1 h1 h2 v n xs hown
    have hk := hK v w (by simpa using hown) ⟨rfl, rfl, rfl, Nat.le_refl _, fun _ _ _ => rfl⟩ (by simp)
    unfold Oper.wp
    simp only [List.length_nil] at hx
    simp [execOp, hop, resolve, invoke, builtin, hs, hx, hrun, Result.andThen]
    exact hk
  · obtain ⟨v', w', hrun, r1, r2, r3⟩ := run_append_own (P := P) w base t o.type e i z 1 1 h1 h2 h3 h4 h5 h6 (by decide) v n xs hown ⟨b, of, none⟩ l.length c (l.map (Value.int .u8)) (by simp) (fun j u hu => by
      rw [List.getElem?_map] at hu
      have hj : j < l.length := by
        rcases Nat.lt_or_ge j l.length with h | h
        · exact h
        · rw [List.getElem?_eq_none h] at hu; cases hu
      have := hcells j hj
      rw [List.getElem?_eq_getElem hj] at hu
      rw [Addr.add_lit, this, List.getD_eq_getElem?_getD, List.getElem?_eq_getElem hj]
      simpa using hu) (nums_ones _ _) (by unfold maxLen; omega) (by omega) hbase
    unfold Oper.wp
    simp [execOp, hop, resolve, invoke, builtin, hs, hx, hrun, Result.andThen]
    exact hK v' w' r1 r2 r3
end

/-- A row of the call's own, as bytes to be appended. -/
theorem own_src {w : World} {base n : Nat} {e : TypeId} {v : Value} {l : List Int} (h : w.ownsRow base e 1 v n (l.map (Value.int .u8))) (hl : l.length = n) : ∃ ao c, v = .slice ao n c ∧ (ao = none → c = 0) ∧ SrcAt w ao l ∧ (∀ b, ao.map (·.block) = some b → base ≤ b) := by
  rcases h.2 with ⟨rfl, h0⟩ | ⟨g, cap, cur, h', hbg, hg, _⟩
  · subst h0
    exact ⟨none, 0, rfl, fun _ => rfl, .inl ⟨rfl, List.eq_nil_of_length_eq_zero hl⟩, fun b hb => by simp at hb⟩
  · subst h'
    refine ⟨some ⟨g, 0, none⟩, cap, rfl, fun e => (by cases e), .inr ⟨g, 0, rfl, (Array.getElem?_eq_some_iff.1 hg).1, fun j hj => own_num h hl j (by omega)⟩, fun b hb => ?_⟩
    simp at hb
    omega

end Go.Proofs.YtandblanpafjoabGreatDoor
