import Derived.WalkKit
import Derived.WalkLawsBesides
import Derived.WalkSmall
import Derived.Laws.CopyOwn
import Derived.Deep.MidRow
import Derived.Deep.WholeRow
import Derived.Test.YtandblanpafjoaaGreatDoorChecked
import Derived.OwnWalk
import Derived.Laws.OwnMore
import Derived.Laws.BytesArg
import Derived.Laws.ResultCell
import Derived.Lib.ConvBytes
namespace Go.Proofs.YtandblanpafjoaaGreatDoor
open Go.RowKit
theorem hide {p : Prop} (h : p) : Hid p := h
theorem unhide {p : Prop} (h : Hid p) : p := h
theorem ret_int {k : IntKind} {a b : Int} (h : a = b) : Ending.returned (.int k a) = .returned (.int k b) := by rw [h]
theorem int_eq {k : IntKind} {a b : Int} (h : a = b) : Value.int k a = .int k b := by rw [h]
theorem i64_id (n : Int) (h0 : -1000000000 ≤ n) (h1 : n ≤ 1000000000) : IntKind.i64.wrap n = n := by rw [IntKind.wrap_i64]; omega
def nums (k : IntKind) (l : List Int) : Array Value := (l.map (Value.int k)).toArray
theorem nums_size (k : IntKind) (l : List Int) : (nums k l).size = l.length := by simp [nums]
theorem nums_get (k : IntKind) (l : List Int) (i : Nat) (h : i < l.length) : (nums k l)[i]? = some (.int k (l.getD i 0)) := by
  simp [nums, h]
theorem nums_set (k : IntKind) (l : List Int) (i : Nat) (v : Int) : (nums k l).setIfInBounds i (.int k v) = nums k (l.set i v) := by
  simp [nums, List.map_set]
theorem nums_extract (k : IntKind) (l : List Int) (a b : Nat) : (nums k l).extract a b = nums k ((l.drop a).take (b - a)) := by
  simp [nums, List.map_take, List.map_drop]
theorem nums_one (k : IntKind) (l : List Int) : (nums k l).all (·.oneCell') = true := by
  rw [Array.all_eq_true_iff_forall_mem]
  intro v hv
  simp only [nums, List.mem_toArray, List.mem_map] at hv
  obtain ⟨x, _, rfl⟩ := hv
  rfl
theorem nums_ones (k : IntKind) (l : List Int) : ∀ u ∈ l.map (Value.int k), u.oneCell' = true := by
  intro v hv
  obtain ⟨x, _, rfl⟩ := List.mem_map.1 hv
  rfl
theorem cells_new (k : IntKind) (W : World) (l : List Int) (t : TypeId) (g : Nat) (hg : W.heap.size = g) : ∀ j u, (l.map (Value.int k))[j]? = some u → (W.alloc (.cells (nums k l) t)).cell? ((⟨g, 0, none⟩ : Addr).add j) = some u := by
  intro j u hu
  subst hg
  rw [Addr.add_mid, Nat.zero_add, World.cell?_alloc_new]
  simpa [nums] using hu
theorem one_new (W : World) (x : Value) (t : TypeId) : ∀ j u, [x][j]? = some u → (W.alloc (.cells #[x] t)).cell? ((⟨W.heap.size, 0, none⟩ : Addr).add j) = some u := by
  intro j u hu
  rw [Addr.add_mid, Nat.zero_add, World.cell?_alloc_new]
  simpa using hu
def Blk (w : World) (g : Nat) (cs : Array Value) (t : TypeId) : Prop := w.heap[g]? = some (.cells cs t (0, 0))
theorem Blk.lt {w : World} {g : Nat} {cs : Array Value} {t : TypeId} (h : Blk w g cs t) : g < w.heap.size := by
  unfold Blk at h
  exact (Array.getElem?_eq_some_iff.1 h).1
theorem Blk.alloc {w : World} {g : Nat} {cs : Array Value} {t : TypeId} (h : Blk w g cs t) (o : Obj) : Blk (w.alloc o) g cs t := by
  have := h.lt
  unfold Blk at h ⊢
  rw [heap_alloc_old w o this]; exact h
theorem Blk.new (w : World) (cs : Array Value) (t : TypeId) : Blk (w.alloc (.cells cs t)) w.heap.size cs t := heap_alloc_new w _
theorem Blk.below {B : Nat} {w w' : World} {g : Nat} {cs : Array Value} {t : TypeId} (h : Blk w g cs t) (hg : g < B) (hb : Below B w w') : Blk w' g cs t := by
  unfold Blk at h ⊢
  rw [hb.block g hg]; exact h
theorem Blk.set {w : World} {g : Nat} {cs : Array Value} {t : TypeId} (h : Blk w g cs t) (i : Nat) (v : Value) : Blk (w.setCell ⟨g, i, none⟩ v) g (cs.setIfInBounds i v) t :=
  heap_setCell_same w g i cs t v h
theorem Blk.setOther {w : World} {g : Nat} {cs : Array Value} {t : TypeId} (h : Blk w g cs t) (a : Addr) (v : Value) (hne : g ≠ a.block) : Blk (w.setCell a v) g cs t := by
  unfold Blk at h ⊢
  rw [heap_setCell_other w a g v hne]; exact h
theorem Blk.setRow {w : World} {g : Nat} {cs : Array Value} {t : TypeId} (h : Blk w g cs t) (cs' : Array Value) : Blk (w.setRow g cs') g cs' t := setRow_heap w g cs cs' t _ h
theorem Blk.setRowOther {w : World} {g : Nat} {cs : Array Value} {t : TypeId} (h : Blk w g cs t) (g' : Nat) (cs' : Array Value) (hne : g' ≠ g) : Blk (w.setRow g' cs') g cs t := by
  unfold Blk at h ⊢
  rw [setRow_other w g' g cs' (by omega)]; exact h
theorem Blk.drew {w : World} {g : Nat} {cs : Array Value} {t : TypeId} (h : Blk w g cs t) : Blk w.drew g cs t := h
theorem Blk.drewN {w : World} {g : Nat} {cs : Array Value} {t : TypeId} (h : Blk w g cs t) (n : Nat) : Blk (w.drewN n) g cs t := h
theorem Blk.cell {w : World} {g : Nat} {cs : Array Value} {t : TypeId} (h : Blk w g cs t) (i : Nat) : w.cell? ⟨g, i, none⟩ = cs[i]? := cell_of_row w g i cs t (0, 0) h
theorem Blk.frozen {w : World} {g : Nat} {cs : Array Value} {t : TypeId} (h : Blk w g cs t) (i : Nat) : w.frozen? ⟨g, i, none⟩ = false := frozen_of_row w g i cs t h
theorem Blk.num {w : World} {g : Nat} {k : IntKind} {l : List Int} {t : TypeId} (h : Blk w g (nums k l) t) (i : Nat) (hi : i < l.length) : w.cell? ⟨g, i, none⟩ = some (.int k (l.getD i 0)) := by
  rw [h.cell, nums_get k l i hi]
theorem Blk.put {w : World} {g : Nat} {k : IntKind} {l : List Int} {t : TypeId} (h : Blk w g (nums k l) t) (i : Nat) (v : Int) : Blk (w.setCell ⟨g, i, none⟩ (.int k v)) g (nums k (l.set i v)) t := by
  have := h.set i (.int k v)
  rwa [nums_set] at this
section
variable {P : Program}
/-- A whole array stored into the block that was made last. -/
theorem wpList_store_new {ops : Array Oper} {rest : List Oper} {op : Oper} {a : Act} {W : World} {Q : Exit → Act → World → Prop} (hgd : op.guard = none) (ty : TypeId) (x y : Operand) (ho : op.op = .store ty x y)
    (c c' : Array Value) (hx : a.eval x = .pointer (some ⟨W.heap.size, 0, none⟩)) (hy : a.eval y = .agg c')
    (hi : (P.info? ty).map (·.size) = some c'.size) (hoo : c.size = c'.size) (h1 : c'.all (·.oneCell') = true)
    (h : wpList P ops Q rest (a.put op.dst undef) (W.alloc (.cells c' ty))) : wpList P ops Q (op :: rest) a (W.alloc (.cells c ty)) :=
  wpList_plain hgd fun _ hK => by
    unfold Oper.wp execOp
    simp only [ho, hx, hy, Instr.storeAt, Instr.sureAddr, Sem.run_bind, Sem.run_pure, Result.andThen_ok, run_storeVar_new W ty c c' hi hoo h1]
    exact hK _ _ h
/-- A whole array stored into a block. -/
theorem wpList_store_blk {ops : Array Oper} {rest : List Oper} {op : Oper} {a : Act} {w : World} {Q : Exit → Act → World → Prop} (hgd : op.guard = none) (ty : TypeId) (x y : Operand) (ho : op.op = .store ty x y)
    (g : Nat) (t : TypeId) (c c' : Array Value) (hx : a.eval x = .pointer (some ⟨g, 0, none⟩)) (hy : a.eval y = .agg c') (hg : Blk w g c t)
    (hi : (P.info? ty).map (·.size) = some c'.size) (hoo : c.size = c'.size) (h1 : c'.all (·.oneCell') = true)
    (h : wpList P ops Q rest (a.put op.dst undef) (w.setRow g c')) : wpList P ops Q (op :: rest) a w :=
  wpList_plain hgd fun _ hK => by
    unfold Oper.wp execOp
    simp only [ho, hx, hy, Instr.storeAt, Instr.sureAddr, Sem.run_bind, Sem.run_pure, Result.andThen_ok, run_storeVar_row w g t ty c c' hg hi hoo h1]
    exact hK _ _ h
/-- A whole array read out of a block. -/
theorem wpList_load_blk {ops : Array Oper} {rest : List Oper} {o : Oper} {a : Act} {w : World} {Q : Exit → Act → World → Prop} (hgd : o.guard = none) (ty : TypeId) (x : Operand) (ho : o.op = .load ty x)
    (g : Nat) (hx : a.eval x = .pointer (some ⟨g, 0, none⟩)) (t : TypeId) (cs : Array Value) (d : TypeDesc) (hg : Blk w g cs t)
    (hu : P.underlying ty = some d) (hd : (match d with | .struct _ | .array _ _ => true | _ => false) = true) (hi : (P.info? ty).map (·.size) = some cs.size)
    (h : wpList P ops Q rest (a.put o.dst (.agg cs)) w) : wpList P ops Q (o :: rest) a w :=
  wpList_load_row hgd ty x ho g hx t cs (0, 0) d hg hu hd hi h
/-- An array's element that is an array. -/
theorem run_index_part (w : World) (t e : TypeId) (n m : Nat) (d : TypeDesc) (cs : Array Value) (k : Nat) (hu : P.underlying t = some (.array n e)) (hue : P.underlying e = some d) (hd : d.isRow = true)
    (hs : (P.info? e).map (·.size) = some m) (hk : k < n) : (Instr.index t (.agg cs) (.int .i64 k)).run P w = .ok (.agg (cs.extract (k * m) (k * m + m))) w := by
  cases hq : P.info? e with
  | none => simp [hq] at hs
  | some i =>
    have hm : i.size = m := by simpa [hq] using hs
    have hagg : (isAgg e).run P w = .ok true w := by
      unfold isAgg
      rw [Sem.run_bind, run_underlying hue w]
      cases d <;> simp_all [TypeDesc.isRow]
    simp [Instr.index, asIntOf, run_underlying hu, hk, part, hagg, sizeOf, typeInfo, hq, hm]
end
end Go.Proofs.YtandblanpafjoaaGreatDoor

namespace Go.Proofs.YtandblanpafjoaaGreatDoor
open Go.RowKit
theorem grown_set (w : World) (g i : Nat) (v : Value) : w.grownBy (w.setCell ⟨g, i, none⟩ v) (some g) :=
  ⟨rfl, rfl, rfl, by simp, fun k _ hk => heap_setCell_other w _ k v (fun e => hk (by rw [e]))⟩
theorem grown_refl (w : World) (r : Option Nat) : w.grownBy w r := ⟨rfl, rfl, rfl, Nat.le_refl _, fun _ _ _ => rfl⟩
theorem grown_trans {a b c : World} {r : Option Nat} (h : a.grownBy b r) (k : b.grownBy c r) : a.grownBy c r :=
  ⟨k.os.trans h.os, k.tape.trans h.tape, k.output.trans h.output, Nat.le_trans h.size k.size, fun i hi hr => (k.block i (Nat.lt_of_lt_of_le hi h.size) hr).trans (h.block i hi hr)⟩
theorem below_grown {B g : Nat} {w w' : World} (h : w.grownBy w' (some g)) (hB : B ≤ w.heap.size) (hg : B ≤ g) : Below B w w' :=
  ⟨h.os, h.tape, h.output, h.size, fun k hk => h.block k (by omega) (fun e => by injection e with e'; omega)⟩
theorem Blk.grown {w w' : World} {b : Nat} {cs : Array Value} {t : TypeId} {g : Nat} (h : Blk w b cs t) (hg : w.grownBy w' (some g)) (hne : b ≠ g) : Blk w' b cs t := by
  have := h.lt
  unfold Blk at h ⊢
  rw [hg.block b this (fun e => hne (by injection e))]; exact h
section
variable {P : Program}
/-- A number stored into a row of numbers: behind it the world is a letter. -/
theorem wpList_store_num {ops : Array Oper} {rest : List Oper} {op : Oper} {a : Act} {w : World} {Q : Exit → Act → World → Prop} (hgd : op.guard = none) (ty : TypeId) (x y : Operand) (ho : op.op = .store ty x y)
    (g i : Nat) (k : IntKind) (v : Int) (l : List Int) (t : TypeId) (hx : a.eval x = .pointer (some ⟨g, i, none⟩)) (hy : a.eval y = .int k v) (hg : Blk w g (nums k l) t) (hi : i < l.length)
    (hs : (P.info? ty).map (·.size) = some 1)
    (h : ∀ w', Blk w' g (nums k (l.set i v)) t → w.grownBy w' (some g) → w'.heap.size = w.heap.size → (∀ b o, b ≠ g → w'.cell? ⟨b, o, none⟩ = w.cell? ⟨b, o, none⟩) → wpList P ops Q rest (a.put op.dst undef) w') : wpList P ops Q (op :: rest) a w :=
  wpList_plain hgd fun _ hK => by
    cases hq : P.info? ty with
    | none => simp [hq] at hs
    | some inf =>
      have hm : inf.size = 1 := by simpa [hq] using hs
      have hst : (storeVar ty ⟨g, i, none⟩ (.int k v)).run P w = .ok () (w.setCell ⟨g, i, none⟩ (.int k v)) := by
        have hc := hg.num i hi
        have hf := hg.frozen i
        simp [storeVar, sizeOf, typeInfo, hq, hm, Value.cells, storeCells, Addr.add]
        rw [run_store P w _ _ _ (by rfl)]
        simp [hc, hf]
      unfold Oper.wp execOp
      simp only [ho, hx, hy, Instr.storeAt, Instr.sureAddr, Sem.run_bind, Sem.run_pure, Result.andThen_ok, hst]
      exact hK _ _ (h _ (hg.put i v) (grown_set w g i _) (by simp) (fun b o hb => World.cell?_setCell_other _ _ _ _ (by intro e; injection e with e1; exact hb e1.symm)))
/-- A value of one cell stored into a block: behind it the world is a letter. -/
theorem wpList_store_one {ops : Array Oper} {rest : List Oper} {op : Oper} {a : Act} {w : World} {Q : Exit → Act → World → Prop} (hgd : op.guard = none) (ty : TypeId) (x y : Operand) (ho : op.op = .store ty x y)
    (g i : Nat) (v : Value) (cs : Array Value) (t : TypeId) (hx : a.eval x = .pointer (some ⟨g, i, none⟩)) (hy : a.eval y = v) (h1 : v.oneCell' = true) (hg : Blk w g cs t) (hi : i < cs.size)
    (hs : (P.info? ty).map (·.size) = some 1)
    (h : ∀ w', Blk w' g (cs.setIfInBounds i v) t → w.grownBy w' (some g) → w'.heap.size = w.heap.size → (∀ b o, b ≠ g → w'.cell? ⟨b, o, none⟩ = w.cell? ⟨b, o, none⟩) → wpList P ops Q rest (a.put op.dst undef) w') : wpList P ops Q (op :: rest) a w :=
  wpList_plain hgd fun _ hK => by
    cases hq : P.info? ty with
    | none => simp [hq] at hs
    | some inf =>
      have hm : inf.size = 1 := by simpa [hq] using hs
      have hst : (storeVar ty ⟨g, i, none⟩ v).run P w = .ok () (w.setCell ⟨g, i, none⟩ v) := by
        have hc : w.cell? ⟨g, i, none⟩ = some cs[i] := by rw [hg.cell i, Array.getElem?_eq_getElem hi]
        have hf := hg.frozen i
        have hvc : v.cells = #[v] := by cases v <;> first | rfl | (simp [Value.oneCell'] at h1)
        simp [storeVar, sizeOf, typeInfo, hq, hm, hvc, storeCells, Addr.add]
        rw [run_store P w _ _ _ h1]
        simp [hc, hf]
      unfold Oper.wp execOp
      simp only [ho, hx, hy, Instr.storeAt, Instr.sureAddr, Sem.run_bind, Sem.run_pure, Result.andThen_ok, hst]
      exact hK _ _ (h _ (hg.set i v) (grown_set w g i _) (by simp) (fun b o hb => World.cell?_setCell_other _ _ _ _ (by intro e; injection e with e1; exact hb e1.symm)))
end
end Go.Proofs.YtandblanpafjoaaGreatDoor

namespace Go.Proofs.YtandblanpafjoaaGreatDoor
open Go.RowKit Go.Extern.Stop Go.Stop Go.Extern
def lenOf : Value → Nat
  | .slice _ n _ => n
  | _ => 0
theorem owns_len {w : World} {base : Nat} {e : TypeId} {v : Value} {n : Nat} {xs : List Value} (h : w.ownsRow base e 1 v n xs) : lenOf v = n := by
  rcases h.2 with ⟨rfl, h0⟩ | ⟨g, cap, cur, rfl, _⟩
  · exact h0.symm
  · rfl
theorem owns_mono {w : World} {base base' : Nat} {e : TypeId} {v : Value} {n : Nat} {xs : List Value} (h : w.ownsRow base e 1 v n xs) (hb : base' ≤ base) : w.ownsRow base' e 1 v n xs := by
  refine ⟨h.1, ?_⟩
  rcases h.2 with h' | ⟨g, cap, cur, h1, h2, h3⟩
  · exact Or.inl h'
  · exact Or.inr ⟨g, cap, cur, h1, Nat.le_trans hb h2, h3⟩
theorem Tryz.infoU8 : (Tryz.prog.info? 5).map (fun i => (i.zero, i.size, i.bytes)) = some (some (.int .u8 0), 1, 1) := by kernel_rfl
/-- A text's bytes as numbers. -/
def bytesOf (s : ByteArray) : List Int := s.data.toList.map fun b => (b.toNat : Int)
theorem bytesOf_len (s : ByteArray) : (bytesOf s).length = s.size := by simp [bytesOf]
theorem bytesOf_range (s : ByteArray) (j : Nat) : 0 ≤ (bytesOf s).getD j 0 ∧ (bytesOf s).getD j 0 ≤ 255 := by
  by_cases hj : j < s.data.toList.length
  · have : (bytesOf s).getD j 0 = ((s.data.toList[j]).toNat : Int) := by
      rw [List.getD_eq_getElem?_getD, bytesOf, List.getElem?_map, List.getElem?_eq_getElem hj]; rfl
    rw [this]
    have := UInt8.toNat_lt (s.data.toList[j])
    omega
  · have : (bytesOf s).getD j 0 = 0 := by
      rw [List.getD_eq_getElem?_getD, List.getElem?_eq_none (by simpa [bytesOf] using hj)]; rfl
    rw [this]; omega
theorem made_zeros (n : Nat) : madeCells (Value.cells (.int .u8 0)) n = nums .u8 (List.replicate n 0) := by
  apply Array.ext
  · simp [madeCells, nums]
  · intro i h1 h2
    simp [madeCells, nums, Value.cells, Nat.mod_one]
theorem strOf_bytes (s : ByteArray) : strOfNums (bytesOf s) = s := by
  have h : (strOfNums (bytesOf s)).data = s.data := by
    apply Array.ext'
    rw [strOfNums_data]
    simp [bytesOf, Function.comp_def]
  exact ByteArray.ext h
theorem ret_cell_tmp {P : Program} {W : World} {g : Nat} {cs : Array Value} {t ty : TypeId} {d : TypeDesc} {x : Value} (hg : Blk W g cs t)
    (hu : P.underlying ty = some d) (hd : (match d with | .struct _ | .array _ _ => true | _ => false) = true) (hi : (P.info? ty).map (·.size) = some cs.size) :
    ((asAddr (.pointer (some ⟨g, 0, none⟩))).run P W).andThen (fun a w₁ => ((loadVar ty a).run P w₁).andThen fun v w₂ => Result.ok (Value.tuple #[v, x]) w₂) = Result.ok (Value.tuple #[.agg cs, x]) W := by
  simp [asAddr, run_loadVar_row W g t ty cs (0, 0) d hg hu hd hi]
theorem own_some {w : World} {base n : Nat} {e : TypeId} {v : Value} {xs : List Value} (h : w.ownsRow base e 1 v n xs) (hn : 0 < n) : ∃ g cap, v = .slice (some ⟨g, 0, none⟩) n cap ∧ base ≤ g ∧ g < w.heap.size ∧ n ≤ cap := by
  rcases h.2 with ⟨_, h0⟩ | ⟨g, cap, cur, h', hbg, hg, hnc, _⟩
  · omega
  · exact ⟨g, cap, h', hbg, (Array.getElem?_eq_some_iff.1 hg).1, hnc⟩
theorem own_lit {base : Nat} {e : TypeId} (W : World) (cs : Array Value) (n g : Nat) (hg : W.heap.size = g) (hb : base ≤ g) (hm : n ≤ maxLen) (hs : cs.size = n * 1) : (W.alloc (.cells cs e)).ownsRow base e 1 (.slice (some ⟨g, 0, none⟩) n n) n cs.toList := by
  subst hg; exact World.ownsRow_lit W cs n hb hm hs
theorem bytesWorld_below (w : World) (e : TypeId) (s : ByteArray) : Below w.heap.size w (Lib.bytesWorld w e s) :=
  ⟨rfl, rfl, rfl, by rw [Lib.bytesWorld_size]; omega, fun k hk => Lib.bytesWorld_at_old w e s k hk⟩
theorem bytesWorld_get (w : World) (e : TypeId) (s : ByteArray) (j : Nat) (hj : j < s.size) : (Lib.bytesWorld w e s).cell? ⟨w.heap.size, j, none⟩ = some (.int .u8 ((bytesOf s).getD j 0)) := by
  rw [Lib.bytesWorld_cell w e s j hj]
  have hj' : j < s.data.toList.length := by simpa using hj
  rw [List.getD_eq_getElem?_getD, List.getD_eq_getElem?_getD, bytesOf, List.getElem?_map, List.getElem?_eq_getElem hj']; rfl
theorem conv_str (g o n c : Nat) (l : List Int) (w : World) (hl : l.length = n) (hc : ∀ j, j < n → w.cell? ⟨g, o + j, none⟩ = some (.int .u8 (l.getD j 0))) : (convert 46 9 (.slice (some ⟨g, o, none⟩) n c)).run Tryz.prog w = .ok (.string (strOfNums l)) w :=
  run_convert_bytes_arg w 46 5 Tryz.underlying46 Tryz.underlying5 g o n c l hl (fun i hi => hc i hi) 9 Tryz.underlying9
theorem own_row {w : World} {base g n cap : Nat} {e : TypeId} {xs : List Value} (h : w.ownsRow base e 1 (.slice (some ⟨g, 0, none⟩) n cap) n xs) : ∃ cur, cur.size = cap ∧ cap ≤ maxLen ∧ n ≤ cap ∧ Blk w g cur e := by
  rcases h.2 with ⟨h', _⟩ | ⟨g', cap', cur, h', _, hg, hnc, hcm, hcs, _⟩
  · simp at h'
  · simp only [Value.slice.injEq, Option.some.injEq, Addr.mk.injEq, and_true, true_and] at h'
    obtain ⟨rfl, rfl⟩ := h'
    exact ⟨cur, by rw [hcs, Nat.mul_one], hcm, hnc, hg⟩
theorem not_nil (a : Addr) (n c : Nat) (w : World) : (binOp .eql 46 (.slice (some a) n c) (.slice none 0 0)).run Tryz.prog w = .ok (.bool false) w := by kernel_rfl
end Go.Proofs.YtandblanpafjoaaGreatDoor

namespace Go.Proofs.YtandblanpafjoaaGreatDoor
open Go.RowKit
structure Chg (F : Nat → Prop) (w w' : World) : Prop where
  os : w'.os = w.os
  tape : w'.tape = w.tape
  output : w'.output = w.output
  size : w.heap.size ≤ w'.heap.size
  block : ∀ k, k < w.heap.size → ¬ F k → w'.heap[k]? = w.heap[k]?
theorem Chg.refl (F : Nat → Prop) (w : World) : Chg F w w := ⟨rfl, rfl, rfl, Nat.le_refl _, fun _ _ _ => rfl⟩
theorem Chg.trans {F G : Nat → Prop} {a b c : World} (h : Chg F a b) (k : Chg G b c) (hG : ∀ x, x < a.heap.size → G x → F x) : Chg F a c :=
  ⟨k.os.trans h.os, k.tape.trans h.tape, k.output.trans h.output, Nat.le_trans h.size k.size, fun x hx hF => (k.block x (Nat.lt_of_lt_of_le hx h.size) (fun e => hF (hG x hx e))).trans (h.block x hx hF)⟩
theorem Chg.mono {F G : Nat → Prop} {a b : World} (h : Chg G a b) (hG : ∀ x, x < a.heap.size → G x → F x) : Chg F a b :=
  ⟨h.os, h.tape, h.output, h.size, fun x hx hF => h.block x hx (fun e => hF (hG x hx e))⟩
theorem Chg.ofBelow {F : Nat → Prop} {w w' : World} (h : Below w.heap.size w w') : Chg F w w' :=
  ⟨h.os, h.tape, h.output, h.size, fun k hk _ => h.block k hk⟩
theorem Chg.toBelow {F : Nat → Prop} {w w' : World} {B : Nat} (h : Chg F w w') (hB : B ≤ w.heap.size) (hF : ∀ k, F k → B ≤ k) : Below B w w' :=
  ⟨h.os, h.tape, h.output, h.size, fun k hk => h.block k (Nat.lt_of_lt_of_le hk hB) (fun e => absurd (hF k e) (by omega))⟩
theorem Chg.ofGrown {F : Nat → Prop} {w w' : World} {g : Nat} (h : w.grownBy w' (some g)) (hF : F g) : Chg F w w' :=
  ⟨h.os, h.tape, h.output, h.size, fun k hk hk' => h.block k hk (fun e => hk' (by cases e; exact hF))⟩
theorem Chg.alloc (F : Nat → Prop) (w : World) (o : Obj) : Chg F w (w.alloc o) :=
  .ofBelow ((Below.refl _ w).alloc (Nat.le_refl _) o)
theorem Chg.setCell {F : Nat → Prop} (w : World) (g i : Nat) (v : Value) (hF : F g) : Chg F w (w.setCell ⟨g, i, none⟩ v) := .ofGrown (grown_set w g i v) hF
theorem Chg.drew (F : Nat → Prop) (w : World) : Chg F w w.drew := ⟨rfl, rfl, rfl, Nat.le_refl _, fun _ _ _ => rfl⟩
theorem Chg.drewN (F : Nat → Prop) (w : World) (n : Nat) : Chg F w (w.drewN n) := ⟨rfl, rfl, rfl, Nat.le_refl _, fun _ _ _ => rfl⟩
theorem Chg.heap {F : Nat → Prop} {w w' : World} (h : Chg F w w') {k : Nat} (hk : k < w.heap.size) (hF : ¬ F k) : w'.heap[k]? = w.heap[k]? := h.block k hk hF
theorem Blk.chg {F : Nat → Prop} {w w' : World} {g : Nat} {cs : Array Value} {t : TypeId} (h : Blk w g cs t) (hc : Chg F w w') (hF : ¬ F g) : Blk w' g cs t := by
  have := h.lt
  unfold Blk at h ⊢
  rw [hc.block g this hF]; exact h
/-- What stands in the blocks of F reads on where those blocks have stayed. -/
def Same (F : Nat → Prop) (w w' : World) : Prop := ∀ k, F k → w'.heap[k]? = w.heap[k]?
theorem Chg.same {F G : Nat → Prop} {w w' : World} (h : Chg F w w') (hG : ∀ k, G k → k < w.heap.size ∧ ¬ F k) : Same G w w' := fun k hk => h.block k (hG k hk).1 (hG k hk).2
theorem Same.mono {F G : Nat → Prop} {w w' : World} (h : Same F w w') (hG : ∀ k, G k → F k) : Same G w w' := fun k hk => h k (hG k hk)
theorem Same.below {F : Nat → Prop} {w w' : World} (h : Below w.heap.size w w') (hF : ∀ k, F k → k < w.heap.size) : Same F w w' := fun k hk => h.block k (hF k hk)
theorem Blk.same {F : Nat → Prop} {w w' : World} {g : Nat} {cs : Array Value} {t : TypeId} (h : Blk w g cs t) (hc : Same F w w') (hF : F g) : Blk w' g cs t := by
  unfold Blk at h ⊢
  rw [hc g hF]; exact h
/-- A row of one's own, wherever it lies. -/
theorem owns_same {w w' : World} {base : Nat} {e : TypeId} {s : Nat} {v : Value} {n : Nat} {xs : List Value} (h : w.ownsRow base e s v n xs) (hs : ∀ k, v.ownBlock = some k → w'.heap[k]? = w.heap[k]?) : w'.ownsRow base e s v n xs := by
  obtain ⟨h1, h2⟩ := h
  refine ⟨h1, ?_⟩
  rcases h2 with h2 | ⟨g, cap, cur, rfl, hb, hg, hr⟩
  · exact .inl h2
  · exact .inr ⟨g, cap, cur, rfl, hb, (hs g rfl).trans hg, hr⟩
end Go.Proofs.YtandblanpafjoaaGreatDoor

namespace Go.Proofs.YtandblanpafjoaaGreatDoor
open Go.RowKit
def putA : Array Value → Nat → List Value → Array Value
  | cs, _, [] => cs
  | cs, o, v :: r => putA (cs.setIfInBounds o v) (o + 1) r
theorem Blk.setCells {t : TypeId} {g : Nat} : ∀ (vs : List Value) (o : Nat) (w : World) (cs : Array Value), Blk w g cs t → Blk (w.setCells g o vs) g (putA cs o vs) t
  | [], _, _, _, h => h
  | v :: r, o, _, _, h => Blk.setCells r (o + 1) _ _ (h.set o v)
theorem heap_setCells_other {g g' : Nat} (hne : g' ≠ g) : ∀ (vs : List Value) (o : Nat) (w : World), (w.setCells g o vs).heap[g']? = w.heap[g']?
  | [], _, _ => rfl
  | v :: r, o, w => (heap_setCells_other hne r (o + 1) _).trans (heap_setCell_other w _ g' v (fun e => hne e))
theorem grown_setCells (g : Nat) : ∀ (vs : List Value) (o : Nat) (w : World), w.grownBy (w.setCells g o vs) (some g)
  | [], _, w => grown_refl w _
  | v :: r, o, w => grown_trans (grown_set w g o v) (grown_setCells g r (o + 1) _)
theorem Chg.setCells {F : Nat → Prop} (w : World) (g o : Nat) (vs : List Value) (hF : F g) : Chg F w (w.setCells g o vs) := .ofGrown (grown_setCells g vs o w) hF
theorem Chg.thenBelow {F : Nat → Prop} {a b c : World} (h : Chg F a b) (k : Below a.heap.size b c) : Chg F a c :=
  ⟨k.os.trans h.os, k.tape.trans h.tape, k.output.trans h.output, Nat.le_trans h.size k.size, fun x hx hF => (k.block x hx).trans (h.block x hx hF)⟩
theorem Chg.thenCells {F : Nat → Prop} {a b : World} (h : Chg F a b) (g o : Nat) (vs : List Value) (hF : F g) : Chg F a (b.setCells g o vs) := h.trans (Chg.setCells b g o vs hF) (fun _ _ h => h)
theorem Chg.thenCell {F : Nat → Prop} {a b : World} (h : Chg F a b) (g i : Nat) (v : Value) (hF : F g) : Chg F a (b.setCell ⟨g, i, none⟩ v) := h.trans (Chg.setCell b g i v hF) (fun _ _ h => h)
theorem Chg.thenNew {F : Nat → Prop} {a b : World} (h : Chg F a b) (g i : Nat) (v : Value) (hF : a.heap.size ≤ g) : Chg F a (b.setCell ⟨g, i, none⟩ v) := h.trans (Chg.setCell (F := fun k => k = g) b g i v rfl) (fun x hx e => absurd hx (by have : x = g := e; omega))
theorem size_setCells (g : Nat) : ∀ (vs : List Value) (o : Nat) (w : World), (w.setCells g o vs).heap.size = w.heap.size
  | [], _, _ => rfl
  | v :: r, o, w => (size_setCells g r (o + 1) _).trans (by simp)
theorem putA_toList : ∀ (vs : List Value) (o : Nat) (cs : Array Value), (putA cs o vs).size = cs.size
  | [], _, _ => rfl
  | v :: r, o, cs => by rw [putA, putA_toList r]; simp
theorem putA_mid : ∀ (b b' a c : List Value), b'.length = b.length → putA (a ++ (b ++ c)).toArray a.length b' = (a ++ (b' ++ c)).toArray
  | [], [], a, c, _ => rfl
  | x :: b, y :: b', a, c, h => by
    have h' : b'.length = b.length := by simpa using h
    have e : ((a ++ (x :: b ++ c)).toArray).setIfInBounds a.length y = ((a ++ [y]) ++ (b ++ c)).toArray := by
      simp
    have := putA_mid b b' (a ++ [y]) c h'
    rw [putA, e]
    simp only [List.length_append, List.length_singleton] at this
    rw [this]
    simp
/-- A part of a block is stored. -/
theorem Blk.mid {w : World} {g : Nat} {a b c : List Value} {t : TypeId} (h : Blk w g (a ++ (b ++ c)).toArray t) (b' : List Value) (hb : b'.length = b.length) : Blk (w.setCells g a.length b') g (a ++ (b' ++ c)).toArray t := by
  have := Blk.setCells b' a.length w _ h
  rwa [putA_mid b b' a c hb] at this
theorem Blk.rangeAt {w : World} {g : Nat} {a b c : List Value} {t : TypeId} (h : Blk w g (a ++ (b ++ c)).toArray t) : w.rangeAt g a.length b := fun j v hv => by
  have hj := (List.getElem?_eq_some_iff.1 hv).1
  rw [h.cell]
  simp only [List.getElem?_toArray]
  rw [List.getElem?_append_right (by omega), List.getElem?_append_left (by omega)]
  simpa using hv
theorem Blk.there {w : World} {g o n : Nat} {cs : Array Value} {t : TypeId} (h : Blk w g cs t) (hn : o + n ≤ cs.size) : w.there g o n := fun j hj => by
  rw [h.cell, h.frozen]
  simp; omega
end Go.Proofs.YtandblanpafjoaaGreatDoor

namespace Go.Proofs.YtandblanpafjoaaGreatDoor
open Go.RowKit
theorem rangeAt_same {w w' : World} {g o : Nat} {cs : List Value} (h : w.rangeAt g o cs) (hs : w'.heap[g]? = w.heap[g]?) : w'.rangeAt g o cs := fun j v hv =>
  (World.cell?_of_block (a := ⟨g, o + j, none⟩) hs).trans (h j v hv)
structure RingAt (w : World) (g : Nat) (t : TypeId) (W s lo hi : Nat) (el : Nat → List Value) : Prop where
  blk : ∃ cs, Blk w g cs t ∧ cs.size = W * s
  at_ : ∀ f, lo ≤ f → f < hi → w.rangeAt g (f % W * s) (el f)
theorem RingAt.same {w w' : World} {g : Nat} {t : TypeId} {W s lo hi : Nat} {el : Nat → List Value} (h : RingAt w g t W s lo hi el) (hs : w'.heap[g]? = w.heap[g]?) : RingAt w' g t W s lo hi el :=
  ⟨by obtain ⟨cs, h1, h2⟩ := h.blk; exact ⟨cs, hs.trans h1, h2⟩, fun f h1 h2 => rangeAt_same (h.at_ f h1 h2) hs⟩
theorem RingAt.less {w : World} {g : Nat} {t : TypeId} {W s lo hi lo' hi' : Nat} {el : Nat → List Value} (h : RingAt w g t W s lo hi el) (hl : lo ≤ lo') (hh : hi' ≤ hi) : RingAt w g t W s lo' hi' el :=
  ⟨h.blk, fun f h1 h2 => h.at_ f (by omega) (by omega)⟩
theorem RingAt.congr {w : World} {g : Nat} {t : TypeId} {W s lo hi : Nat} {el el' : Nat → List Value} (h : RingAt w g t W s lo hi el) (he : ∀ f, lo ≤ f → f < hi → el' f = el f) : RingAt w g t W s lo hi el' :=
  ⟨h.blk, fun f h1 h2 => by rw [he f h1 h2]; exact h.at_ f h1 h2⟩
theorem mod_apart {f g W : Nat} (h1 : f < g) (h2 : g < f + W) : f % W ≠ g % W := by
  intro e
  have a := Nat.div_add_mod f W
  have b := Nat.div_add_mod g W
  rw [e] at a
  have : W * (g / W) = W * (f / W) + (g - f) := by omega
  have hle : f / W ≤ g / W := Nat.div_le_div_right (by omega)
  obtain ⟨k, hk⟩ := Nat.exists_eq_add_of_le hle
  rw [hk, Nat.mul_add] at this
  have hk' : W * k = g - f := by omega
  rcases Nat.eq_zero_or_pos k with rfl | hp
  · simp at hk'; omega
  · have := Nat.le_mul_of_pos_right W hp; omega
theorem mul_apart {a b s : Nat} (h : a ≠ b) : a * s + s ≤ b * s ∨ b * s + s ≤ a * s := by
  rcases Nat.lt_or_gt_of_ne h with h | h
  · left; have := Nat.mul_le_mul_right s (show a + 1 ≤ b by omega); rw [Nat.add_mul] at this; omega
  · right; have := Nat.mul_le_mul_right s (show b + 1 ≤ a by omega); rw [Nat.add_mul] at this; omega
theorem slot_le {f W s : Nat} (hW : 0 < W) : f % W * s + s ≤ W * s := by
  have := Nat.mul_le_mul_right s (show f % W + 1 ≤ W from Nat.mod_lt f hW)
  rw [Nat.add_mul] at this; omega
theorem RingAt.there {w : World} {g : Nat} {t : TypeId} {W s lo hi : Nat} {el : Nat → List Value} (h : RingAt w g t W s lo hi el) (hW : 0 < W) (f : Nat) : w.there g (f % W * s) s := by
  obtain ⟨cs, h1, h2⟩ := h.blk
  exact h1.there (by rw [h2]; exact slot_le hW)
theorem RingAt.put {w : World} {g : Nat} {t : TypeId} {W s lo hi : Nat} {el : Nat → List Value} (h : RingAt w g t W s lo hi el) (hW : 0 < W) (x : List Value) (hx : x.length = s) (hs : ∀ f, lo ≤ f → f < hi → (el f).length = s) (hlo : hi < lo + W) :
    RingAt (w.setCells g (hi % W * s) x) g t W s lo (hi + 1) (fun f => if f = hi then x else el f) := by
  have ht := h.there hW hi
  obtain ⟨cs, h1, h2⟩ := h.blk
  refine ⟨⟨_, Blk.setCells x _ w cs h1, by rw [putA_toList]; exact h2⟩, fun f f1 f2 => ?_⟩
  by_cases e : f = hi
  · subst e
    rw [if_pos rfl]
    exact World.rangeAt_setCells_same w g _ x (by rw [hx]; exact ht)
  · rw [if_neg e]
    refine World.rangeAt_setCells_apart (h.at_ f f1 (by omega)) g _ x (.inr ?_)
    rw [hs f f1 (by omega), hx]
    exact mul_apart (mod_apart (by omega) (by omega))
end Go.Proofs.YtandblanpafjoaaGreatDoor

