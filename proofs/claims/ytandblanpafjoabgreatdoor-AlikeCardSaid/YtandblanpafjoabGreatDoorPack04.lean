import Derived.Test.YtandblanpafjoabGreatDoorPack01
import Derived.OwnWalk
import Derived.Laws.OwnMore
import Derived.Laws.BitsAllLaws
import Derived.Deep.RegionLaw
namespace Go.Proofs.YtandblanpafjoabGreatDoor
open Go.RowKit

/-! Bytes to be appended: nothing, or cells that read as they should; appending them to a row of the call's own. -/
def SrcAt (w : World) (ao : Option Addr) (l : List Int) : Prop :=
  (ao = none ∧ l = []) ∨ ∃ b o, ao = some ⟨b, o, none⟩ ∧ b < w.heap.size ∧ ∀ j, j < l.length → w.cell? ⟨b, o + j, none⟩ = some (.int .u8 (l.getD j 0))
theorem SrcAt.below {B : Nat} {w w' : World} {ao : Option Addr} {l : List Int} (h : SrcAt w ao l) (hB : w.heap.size ≤ B) (hb : Below B w w') : SrcAt w' ao l := by
  rcases h with h | ⟨b, o, h1, h2, h3⟩
  · exact .inl h
  · exact .inr ⟨b, o, h1, Nat.lt_of_lt_of_le h2 hb.size, fun j hj => by rw [hb.cell (p := ⟨b, o + j, none⟩) (Nat.lt_of_lt_of_le h2 hB)]; exact h3 j hj⟩
theorem SrcAt.alloc {w : World} {ao : Option Addr} {l : List Int} (h : SrcAt w ao l) (x : Obj) : SrcAt (w.alloc x) ao l :=
  h.below (Nat.le_refl _) ((Below.refl _ _).alloc (Nat.le_refl _) _)
theorem SrcAt.grown {w w' : World} {ao : Option Addr} {l : List Int} {g : Nat} (h : SrcAt w ao l) (hg : w.grownBy w' (some g)) (hne : ∀ b, ao.map (·.block) = some b → b ≠ g) : SrcAt w' ao l := by
  rcases h with h | ⟨b, o, h1, h2, h3⟩
  · exact .inl h
  · refine .inr ⟨b, o, h1, Nat.lt_of_lt_of_le h2 hg.size, fun j hj => ?_⟩
    rw [World.cell?_of_block (hg.block b h2 (fun e => hne b (by rw [h1]; rfl) (by injection e)))]; exact h3 j hj
theorem SrcAt.lt {w : World} {ao : Option Addr} {l : List Int} (h : SrcAt w ao l) : ∀ b, ao.map (·.block) = some b → b < w.heap.size := by
  rcases h with ⟨rfl, _⟩ | ⟨b, o, rfl, h2, _⟩
  · intro b hb; simp at hb
  · intro b' hb; simp at hb; omega
theorem src_new1 (W : World) (x : Int) (t : TypeId) (g : Nat) (hg : W.heap.size = g) : SrcAt (W.alloc (.cells #[.int .u8 x] t)) (some ⟨g, 0, none⟩) [x] := by
  subst hg
  refine .inr ⟨W.heap.size, 0, rfl, by simp, fun j hj => ?_⟩
  obtain rfl : j = 0 := by simpa using hj
  rw [World.cell?_alloc_new]; rfl
theorem src_new2 (W : World) (x y : Int) (t : TypeId) (g : Nat) (hg : W.heap.size = g) : SrcAt (W.alloc (.cells #[.int .u8 x, .int .u8 y] t)) (some ⟨g, 0, none⟩) [x, y] := by
  subst hg
  refine .inr ⟨W.heap.size, 0, rfl, by simp, fun j hj => ?_⟩
  match j, hj with
  | 0, _ => rw [World.cell?_alloc_new]; rfl
  | 1, _ => rw [World.cell?_alloc_new]; rfl
  | n + 2, h => exact absurd h (by simp)
theorem SrcAt.mid {w : World} {b o : Nat} {l : List Int} {a n : Nat} (h : ∀ j, j < l.length → w.cell? ⟨b, o + j, none⟩ = some (.int .u8 (l.getD j 0))) (hb : b < w.heap.size) (hn : a + n ≤ l.length) : SrcAt w (some ⟨b, o + a, none⟩) ((l.drop a).take n) := by
  refine .inr ⟨b, o + a, rfl, hb, fun j hj => ?_⟩
  have hj' : j < n := by simp at hj; omega
  rw [Nat.add_assoc, h (a + j) (by omega)]
  rw [List.getD_eq_getElem?_getD, List.getD_eq_getElem?_getD, List.getElem?_take, if_pos hj', List.getElem?_drop]

section
variable {P : Program}
theorem wpList_append_fits {w : World} {ops : Array Oper} {rest : List Oper} {o : Oper} {a : Act} {Q : Exit → Act → World → Prop}
    (hgd : o.guard = none) (s x : Operand) (t : TypeId) (hop : o.op = Op.call { callee := Callee.builtin Builtin.append, args := #[s, x], argTypes := #[t, t] })
    (base : Nat) (e : TypeId) (i : TypeInfo) (h1 : P.underlying t = some (.slice e)) (h2 : P.info? e = some i) (h4 : i.size = 1)
    (g n cap : Nat) (xs : List Value) (hs : a.eval s = .slice (some ⟨g, 0, none⟩) n cap) (hown : w.ownsRow base e 1 (.slice (some ⟨g, 0, none⟩) n cap) n xs)
    (ao : Option Addr) (m c : Nat) (l : List Int) (hx : a.eval x = .slice ao m c) (hc0 : ao = none → c = 0) (hm : l.length = m) (hsrc : SrcAt w ao l) (hroom : n + m ≤ cap)
    (hK : ∀ w', w'.ownsRow base e 1 (.slice (some ⟨g, 0, none⟩) (n + m) cap) (n + m) (xs ++ l.map (Value.int .u8)) → w.grownBy w' (some g) → wpList P ops Q rest (a.put o.dst (.slice (some ⟨g, 0, none⟩) (n + m) cap)) w') :
    wpList P ops Q (o :: rest) a w := by
  refine wpList_plain hgd fun K hK' => ?_
  subst hm
  rcases hsrc with ⟨rfl, rfl⟩ | ⟨b, of, rfl, hb, hcells⟩
  · obtain rfl := hc0 rfl
    have hrun := run_append_owned_none (P := P) w base t o.type e i 1 h1 h2 _ n xs hown
    have hk := hK w (by simpa using hown) ⟨rfl, rfl, rfl, Nat.le_refl _, fun _ _ _ => rfl⟩
    unfold Oper.wp
    simp only [List.length_nil] at hx
    simp [execOp, hop, resolve, invoke, builtin, hs, hx, hrun, Result.andThen]
    exact hK' _ _ (by simpa using hk)
  · obtain ⟨w', hrun, r1, r2⟩ := run_append_fits (P := P) w base t o.type e i 1 h1 h2 h4 g n cap xs hown ⟨b, of, none⟩ l.length c (l.map (Value.int .u8)) (by simp) (fun j u hu => by
      rw [List.getElem?_map] at hu
      have hj : j < l.length := by
        rcases Nat.lt_or_ge j l.length with h | h
        · exact h
        · rw [List.getElem?_eq_none h] at hu; cases hu
      have := hcells j hj
      rw [List.getElem?_eq_getElem hj] at hu
      rw [Addr.add_lit, this, List.getD_eq_getElem?_getD, List.getElem?_eq_getElem hj]
      simpa using hu) (nums_ones _ _) hroom
    unfold Oper.wp
    simp [execOp, hop, resolve, invoke, builtin, hs, hx, hrun, Result.andThen]
    exact hK' _ _ (hK w' r1 r2)
/-- Appended to a row of the call's own, with room or without. -/
theorem wpList_append_src {w : World} {ops : Array Oper} {rest : List Oper} {o : Oper} {a : Act} {Q : Exit → Act → World → Prop}
    (hgd : o.guard = none) (s x : Operand) (t : TypeId) (hop : o.op = Op.call { callee := Callee.builtin Builtin.append, args := #[s, x], argTypes := #[t, t] })
    (base : Nat) (e : TypeId) (i : TypeInfo) (z : Value) (h1 : P.underlying t = some (.slice e)) (h2 : P.info? e = some i) (h3 : i.zero = some z) (h4 : i.size = 1) (h5 : i.bytes = 1) (h6 : z.cells.size = 1)
    (v : Value) (n : Nat) (xs : List Value) (hs : a.eval s = v) (hown : w.ownsRow base e 1 v n xs)
    (ao : Option Addr) (m c : Nat) (l : List Int) (hx : a.eval x = .slice ao m c) (hc0 : ao = none → c = 0) (hm : l.length = m) (hsrc : SrcAt w ao l) (hle : n + m ≤ 1000000000) (hbase : base ≤ w.heap.size)
    (hK : ∀ v' w', w'.ownsRow base e 1 v' (n + m) (xs ++ l.map (Value.int .u8)) → w.grownBy w' v.ownBlock → (v' = .slice none 0 0 ↔ v = .slice none 0 0 ∧ m = 0) → wpList P ops Q rest (a.put o.dst v') w') :
    wpList P ops Q (o :: rest) a w := by
  refine wpList_plain hgd fun K hK' => ?_
  subst hm
  rcases hsrc with ⟨rfl, rfl⟩ | ⟨b, of, rfl, hb, hcells⟩
  · obtain rfl := hc0 rfl
    have hrun := run_append_owned_none (P := P) w base t o.type e i 1 h1 h2 v n xs hown
    have hk := hK v w (by simpa using hown) ⟨rfl, rfl, rfl, Nat.le_refl _, fun _ _ _ => rfl⟩ (by simp)
    unfold Oper.wp
    simp only [List.length_nil] at hx
    simp [execOp, hop, resolve, invoke, builtin, hs, hx, hrun, Result.andThen]
    exact hK' _ _ hk
  · obtain ⟨v', w', hrun, r1, r2, r3⟩ := run_append_own (P := P) w base t o.type e i z 1 1 h1 h2 h3 h4 h5 h6 (by decide) v n xs hown ⟨b, of, none⟩ l.length c (l.map (Value.int .u8)) (by simp) (fun j u hu => by
      rw [List.getElem?_map] at hu
      have hj : j < l.length := by
        rcases Nat.lt_or_ge j l.length with h | h
        · exact h
        · rw [List.getElem?_eq_none h] at hu; cases hu
      have := hcells j hj
      rw [List.getElem?_eq_getElem hj] at hu
      rw [Addr.add_lit, this, List.getD_eq_getElem?_getD, List.getElem?_eq_getElem hj]
      simpa using hu) (nums_ones _ _) (by unfold maxLen; omega) (by omega) hbase
    unfold Oper.wp
    simp [execOp, hop, resolve, invoke, builtin, hs, hx, hrun, Result.andThen]
    exact hK' _ _ (hK v' w' r1 r2 r3)
end

/-- A row of the call's own that is full is a block. -/
theorem own_blk {w : World} {base g n : Nat} {e : TypeId} {l : List Int} (h : w.ownsRow base e 1 (.slice (some ⟨g, 0, none⟩) n n) n (l.map (Value.int .u8))) : base ≤ g ∧ Blk w g (nums .u8 l) e := by
  rcases h.2 with ⟨h', _⟩ | ⟨g', cap', cur, h', hbg, hg, _, _, hcs, htake⟩
  · simp at h'
  · simp only [Value.slice.injEq, Option.some.injEq, Addr.mk.injEq, and_true, true_and] at h'
    obtain ⟨rfl, rfl⟩ := h'
    refine ⟨hbg, ?_⟩
    have : cur = nums .u8 l := by
      apply Array.ext'
      rw [List.take_of_length_le (by rw [Array.length_toList, hcs]; exact Nat.le_refl _)] at htake
      rw [htake]; simp [nums]
    unfold Blk
    rw [hg, this]

theorem own_num {w : World} {base g n cap : Nat} {e : TypeId} {l : List Int} (h : w.ownsRow base e 1 (.slice (some ⟨g, 0, none⟩) n cap) n (l.map (Value.int .u8))) (hl : l.length = n) (j : Nat) (hj : j < n) : w.cell? ⟨g, 0 + j, none⟩ = some (.int .u8 (l.getD j 0)) := by
  rw [Nat.zero_add, h.cellAt j (by omega), List.getElem?_map, List.getD_eq_getElem?_getD, List.getElem?_eq_getElem (show j < l.length by omega)]; rfl

/-! The check of a packet. -/
def xstep (v x : Int) : Int := bits .xor .u8 v x
def xorL (l : List Int) : Int := l.foldl xstep 90
theorem xorL_snoc (l : List Int) (k : Nat) (h : k < l.length) : xorL (l.take (k + 1)) = xstep (xorL (l.take k)) l[k] := by
  unfold xorL
  rw [List.take_succ_eq_append_getElem h, List.foldl_append]; rfl
theorem xstep_range (v x : Int) : 0 ≤ xstep v x ∧ xstep v x ≤ 255 := by
  unfold xstep bits
  simp only [IntKind.wrap_u8]
  omega
theorem xorL_range (l : List Int) : 0 ≤ xorL l ∧ xorL l ≤ 255 := by
  unfold xorL
  rcases List.eq_nil_or_concat l with rfl | ⟨r, x, rfl⟩
  · decide
  · rw [List.concat_eq_append, List.foldl_append]
    exact xstep_range _ _
def headL (f st ak : Int) (l : List Int) : List Int := [82, f, st / 256, st % 256, ak / 256, ak % 256, (l.length : Int)] ++ l
def packL (f st ak : Int) (l : List Int) : List Int := headL f st ak l ++ [xorL (headL f st ak l)]
def GoodP (f st ak : Int) (n : Nat) : Prop := (0 ≤ f ∧ f ≤ 3) ∧ (0 ≤ st ∧ st ≤ 65535) ∧ (0 ≤ ak ∧ ak ≤ 65535) ∧ n ≤ 64
instance (f st ak : Int) (n : Nat) : Decidable (GoodP f st ak n) := by unfold GoodP; infer_instance
theorem headL_len (f st ak : Int) (l : List Int) : (headL f st ak l).length = 7 + l.length := by simp [headL]; omega
theorem packL_len (f st ak : Int) (l : List Int) : (packL f st ak l).length = 8 + l.length := by simp [packL, headL_len]; omega
end Go.Proofs.YtandblanpafjoabGreatDoor

namespace Go.Proofs.YtandblanpafjoabGreatDoor
open Go.RowKit

section
variable {P : Program}
/-- The same, as a step of a statement that draws its order. -/
theorem step_append_src {ops : Array Oper} {o : Oper} {a : Act} {w : World} {K : Act → World → Prop} {Q : Exit → Act → World → Prop} {E : Prop}
    (hgd : o.guard = none) (s x : Operand) (t : TypeId) (hop : o.op = Op.call { callee := Callee.builtin Builtin.append, args := #[s, x], argTypes := #[t, t] })
    (base : Nat) (e : TypeId) (i : TypeInfo) (z : Value) (h1 : P.underlying t = some (.slice e)) (h2 : P.info? e = some i) (h3 : i.zero = some z) (h4 : i.size = 1) (h5 : i.bytes = 1) (h6 : z.cells.size = 1)
    (v : Value) (n : Nat) (xs : List Value) (hs : a.eval s = v) (hown : w.ownsRow base e 1 v n xs)
    (ao : Option Addr) (m c : Nat) (l : List Int) (hx : a.eval x = .slice ao m c) (hc0 : ao = none → c = 0) (hm : l.length = m) (hsrc : SrcAt w ao l) (hle : n + m ≤ 1000000000) (hbase : base ≤ w.heap.size)
    (hK : ∀ v' w', w'.ownsRow base e 1 v' (n + m) (xs ++ l.map (Value.int .u8)) → w.grownBy w' v.ownBlock → (v' = .slice none 0 0 ↔ v = .slice none 0 0 ∧ m = 0) → K (a.put o.dst v') w') :
    if Region.wanted o (yielded ops a.tmps) = true then Oper.wp P o a w K Q else E := by
  have hw : Region.wanted o (yielded ops a.tmps) = true := by simp [Region.wanted, hgd]
  rw [if_pos hw]
  subst hm
  rcases hsrc with ⟨rfl, rfl⟩ | ⟨b, of, rfl, hb, hcells⟩
  · obtain rfl := hc0 rfl
    have hrun := run_append_owned_none (P := P) w base t o.type e i 1 h1 h2 v n xs hown
    have hk := hK v w (by simpa using hown) ⟨rfl, rfl, rfl, Nat.le_refl _, fun _ _ _ => rfl⟩ (by simp)
    unfold Oper.wp
    simp only [List.length_nil] at hx
    simp [execOp, hop, resolve, invoke, builtin, hs, hx, hrun, Result.andThen]
    exact hk
  · obtain ⟨v', w', hrun, r1, r2, r3⟩ := run_append_own (P := P) w base t o.type e i z 1 1 h1 h2 h3 h4 h5 h6 (by decide) v n xs hown ⟨b, of, none⟩ l.length c (l.map (Value.int .u8)) (by simp) (fun j u hu => by
      rw [List.getElem?_map] at hu
      have hj : j < l.length := by
        rcases Nat.lt_or_ge j l.length with h | h
        · exact h
        · rw [List.getElem?_eq_none h] at hu; cases hu
      have := hcells j hj
      rw [List.getElem?_eq_getElem hj] at hu
      rw [Addr.add_lit, this, List.getD_eq_getElem?_getD, List.getElem?_eq_getElem hj]
      simpa using hu) (nums_ones _ _) (by unfold maxLen; omega) (by omega) hbase
    unfold Oper.wp
    simp [execOp, hop, resolve, invoke, builtin, hs, hx, hrun, Result.andThen]
    exact hK v' w' r1 r2 r3
end

/-- A row of the call's own, as bytes to be appended. -/
theorem own_src {w : World} {base n : Nat} {e : TypeId} {v : Value} {l : List Int} (h : w.ownsRow base e 1 v n (l.map (Value.int .u8))) (hl : l.length = n) : ∃ ao c, v = .slice ao n c ∧ (ao = none → c = 0) ∧ SrcAt w ao l ∧ (∀ b, ao.map (·.block) = some b → base ≤ b) := by
  rcases h.2 with ⟨rfl, h0⟩ | ⟨g, cap, cur, h', hbg, hg, _⟩
  · subst h0
    exact ⟨none, 0, rfl, fun _ => rfl, .inl ⟨rfl, List.eq_nil_of_length_eq_zero hl⟩, fun b hb => by simp at hb⟩
  · subst h'
    refine ⟨some ⟨g, 0, none⟩, cap, rfl, fun e => (by cases e), .inr ⟨g, 0, rfl, (Array.getElem?_eq_some_iff.1 hg).1, fun j hj => own_num h hl j (by omega)⟩, fun b hb => ?_⟩
    simp at hb
    omega

end Go.Proofs.YtandblanpafjoabGreatDoor

namespace Go.Proofs.YtandblanpafjoabGreatDoor
open Go.RowKit

/-! What packets are, in lists of bytes. -/
def Framed (l : List Int) : Prop := 8 ≤ l.length ∧ (l.length : Int) = 8 + l.getD 6 0 ∧ l.getD 0 0 = 82 ∧ l.getD (l.length - 1) 0 = xorL (l.take (l.length - 1))
instance (l : List Int) : Decidable (Framed l) := by unfold Framed; infer_instance
def fromL (l : List Int) : Int := l.getD 1 0
def numL (l : List Int) (j : Nat) : Int := l.getD j 0 * 256 + l.getD (j + 1) 0
def startL (l : List Int) : Int := numL l 2
def ackL (l : List Int) : Int := numL l 4

theorem parts7 (l : List Int) (k : Nat) (hl : l.length = k + 8) : ∃ a0 a1 a2 a3 a4 a5 a6 : Int, ∃ m : List Int, ∃ z : Int, l = [a0, a1, a2, a3, a4, a5, a6] ++ m ++ [z] ∧ m.length = k := by
  match l, hl with
  | a0 :: a1 :: a2 :: a3 :: a4 :: a5 :: a6 :: r, hl =>
    have hr : r.length = k + 1 := by simp at hl; omega
    rcases List.eq_nil_or_concat r with rfl | ⟨m, z, rfl⟩
    · simp at hr
    · exact ⟨a0, a1, a2, a3, a4, a5, a6, m, z, by simp, by simpa using hr⟩

theorem pack_is (l : List Int) (k : Nat) (hl : l.length = k + 8) (hr : ∀ j : Nat, 0 ≤ l.getD j 0 ∧ l.getD j 0 ≤ 255) : packL (fromL l) (startL l) (ackL l) ((l.drop 7).take k) = l ↔ Framed l := by
  obtain ⟨a0, a1, a2, a3, a4, a5, a6, m, z, rfl, hm⟩ := parts7 l k hl
  have r2 := hr 2
  have r3 := hr 3
  have r4 := hr 4
  have r5 := hr 5
  simp only [List.cons_append, List.nil_append, List.getD_cons_succ, List.getD_cons_zero] at r2 r3 r4 r5
  have hd : (([a0, a1, a2, a3, a4, a5, a6] ++ m ++ [z]).drop 7).take k = m := by
    subst hm
    simp
  have ht : ([a0, a1, a2, a3, a4, a5, a6] ++ m ++ [z]).take (k + 7) = [a0, a1, a2, a3, a4, a5, a6] ++ m := by
    subst hm
    rw [show m.length + 7 = ([a0, a1, a2, a3, a4, a5, a6] ++ m).length by simp, List.take_left']
    rfl
  have hz : ([a0, a1, a2, a3, a4, a5, a6] ++ m ++ [z]).getD (k + 7) 0 = z := by
    subst hm
    rw [show m.length + 7 = ([a0, a1, a2, a3, a4, a5, a6] ++ m).length by simp]
    simp
  have e2 : (a2 * 256 + a3) / 256 = a2 := by omega
  have e3 : (a2 * 256 + a3) % 256 = a3 := by omega
  have e4 : (a4 * 256 + a5) / 256 = a4 := by omega
  have e5 : (a4 * 256 + a5) % 256 = a5 := by omega
  have hh : headL (fromL ([a0, a1, a2, a3, a4, a5, a6] ++ m ++ [z])) (startL ([a0, a1, a2, a3, a4, a5, a6] ++ m ++ [z])) (ackL ([a0, a1, a2, a3, a4, a5, a6] ++ m ++ [z])) m = [82, a1, a2, a3, a4, a5, (k : Int)] ++ m := by
    simp [headL, fromL, startL, ackL, numL, e2, e3, e4, e5, hm]
  rw [hd]
  unfold packL
  rw [hh]
  unfold Framed
  rw [hl, show k + 8 - 1 = k + 7 by omega, ht, hz]
  simp only [List.cons_append, List.nil_append, List.getD_cons_succ, List.getD_cons_zero, List.cons.injEq, List.append_cancel_left_eq]
  constructor
  · rintro ⟨h0, _, _, _, _, _, h6, h7, _⟩
    subst h0
    subst h6
    exact ⟨by omega, by omega, rfl, h7.symm⟩
  · rintro ⟨_, h6, h0, h7⟩
    have h6' : a6 = (k : Int) := by omega
    subst h0
    subst h6'
    exact ⟨rfl, trivial, trivial, trivial, trivial, trivial, rfl, h7.symm, trivial⟩
end Go.Proofs.YtandblanpafjoabGreatDoor

