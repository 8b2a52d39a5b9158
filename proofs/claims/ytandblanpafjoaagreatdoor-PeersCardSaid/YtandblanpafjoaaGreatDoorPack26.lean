import Derived.Test.YtandblanpafjoaaGreatDoorPack20
import Derived.Laws.MakeOwn
import Derived.Laws.Tables
namespace Go.Proofs.YtandblanpafjoaaGreatDoor
open Go.RowKit Go.Extern.Stop Go.Stop Go.Extern
theorem Tryz.infoIn3 : (Tryz.prog.info? 199).map (fun i => (i.zero, i.size, i.bytes)) = some (some (.agg (nums .u8 Z4u)), 4, 4) := by kernel_rfl
theorem Tryz.infoMem3 : (Tryz.prog.info? 209).map (fun i => (i.zero, i.size, i.bytes)) = some (some (.agg (nums .u8 Z288)), 288, 288) := by kernel_rfl
theorem Tryz.infoPg3 : (Tryz.prog.info? 259).map (fun i => (i.zero, i.size, i.bytes)) = some (some (.map none), 1, 8) := by kernel_rfl
theorem made_row (t e : TypeId) (z : Value) (s b : Nat) (hu : Tryz.prog.underlying t = some (.slice e)) (hi : (Tryz.prog.info? e).map (fun i => (i.zero, i.size, i.bytes)) = some (some z, s, b)) (hb : b ≤ 1000) (n : Nat) (hn : n ≤ 1000) :
    ∃ C : Array Value, C.size = n * s ∧ ∀ W : World, (Instr.makeSlice t (.int .i64 (n : Int)) (.int .i64 (n : Int))).run Tryz.prog W = .ok (.slice (some ⟨W.heap.size, 0, none⟩) n n) (W.alloc (.cells C e)) := by
  obtain ⟨i8, hi8, hz0, hz1, hz2⟩ := info_parts hi
  refine ⟨madeCells z.cells (n * s), size_madeCells _ _, fun W => ?_⟩
  have hbb : (i8.bytes : Int) * (n : Int) ≤ 281474976710656 := by
    rw [hz2]
    have h1 : b * n ≤ 1000 * 1000 := Nat.mul_le_mul hb hn
    rw [← Int.natCast_mul]
    generalize b * n = q at *
    omega
  rw [run_make W t e i8 z hu hi8 hz0 .i64 .i64 (n : Int) (n : Int) (by omega) (Int.le_refl _) hbb (by omega), hz1]
  simp
theorem Tryz.sizeInR : (Tryz.prog.info? 221).map (·.size) = some 1 := by kernel_rfl
set_option maxHeartbeats 800000 in
theorem ringIn_any (n : Nat) (w : World) (hn : n ≤ 1000) :
    Calls Tryz.prog 125 #[.int .i64 (n : Int)] w fun e w' => ∃ g, e = .returned (.agg #[.slice (some ⟨g, 0, none⟩) n n]) ∧ w.heap.size ≤ g ∧ (∃ C, Blk w' g C 199 ∧ C.size = n * 4) ∧ Below w.heap.size w w' := by
  obtain ⟨C, hC, hmk⟩ := made_row 219 199 _ 4 4 Tryz.underlying219 Tryz.infoIn3 (by omega) n hn
  go_enter Tryz.func125, Tryz.ntmps125
  go_wp2
  have hb := (Blk.new w #[.slice (some ⟨w.heap.size + 1, 0, none⟩) n n] 221).alloc (.cells C 199)
  refine bodyPost_ret (v := .agg #[.slice (some ⟨w.heap.size + 1, 0, none⟩) n n]) ?_ rfl ⟨w.heap.size + 1, rfl, by omega, ⟨C, ?_, hC⟩, ((Below.refl _ w).alloc (Nat.le_refl _) _).alloc (by simp) _⟩
  · exact results_cell_row Tryz.results125 _ _ w.heap.size 221 _ (0, 0) _ rfl hb Tryz.underlying221 rfl Tryz.sizeInR
  · have := Blk.new (w.alloc (.cells #[.slice (some ⟨w.heap.size + 1, 0, none⟩) n n] 221)) C 199
    simpa using this
theorem Tryz.sizeMemR : (Tryz.prog.info? 265).map (·.size) = some 1 := by kernel_rfl
set_option maxHeartbeats 800000 in
theorem ringMem_any (n : Nat) (w : World) (hn : n ≤ 1000) :
    Calls Tryz.prog 140 #[.int .i64 (n : Int)] w fun e w' => ∃ g, e = .returned (.agg #[.slice (some ⟨g, 0, none⟩) n n]) ∧ w.heap.size ≤ g ∧ (∃ C, Blk w' g C 209 ∧ C.size = n * 288) ∧ Below w.heap.size w w' := by
  obtain ⟨C, hC, hmk⟩ := made_row 263 209 _ 288 288 Tryz.underlying263 Tryz.infoMem3 (by omega) n hn
  go_enter Tryz.func140, Tryz.ntmps140
  go_wp2
  have hb := (Blk.new w #[.slice (some ⟨w.heap.size + 1, 0, none⟩) n n] 265).alloc (.cells C 209)
  refine bodyPost_ret (v := .agg #[.slice (some ⟨w.heap.size + 1, 0, none⟩) n n]) ?_ rfl ⟨w.heap.size + 1, rfl, by omega, ⟨C, ?_, hC⟩, ((Below.refl _ w).alloc (Nat.le_refl _) _).alloc (by simp) _⟩
  · exact results_cell_row Tryz.results140 _ _ w.heap.size 265 _ (0, 0) _ rfl hb Tryz.underlying265 rfl Tryz.sizeMemR
  · have := Blk.new (w.alloc (.cells #[.slice (some ⟨w.heap.size + 1, 0, none⟩) n n] 265)) C 209
    simpa using this
theorem Tryz.sizePgR : (Tryz.prog.info? 256).map (·.size) = some 1 := by kernel_rfl
set_option maxHeartbeats 800000 in
theorem ringPg_any (n : Nat) (w : World) (hn : n ≤ 1000) :
    Calls Tryz.prog 138 #[.int .i64 (n : Int)] w fun e w' => ∃ g, e = .returned (.agg #[.slice (some ⟨g, 0, none⟩) n n]) ∧ w.heap.size ≤ g ∧ (∃ C, Blk w' g C 259 ∧ C.size = n * 1) ∧ Below w.heap.size w w' := by
  obtain ⟨C, hC, hmk⟩ := made_row 254 259 _ 1 8 Tryz.underlying254 Tryz.infoPg3 (by omega) n hn
  go_enter Tryz.func138, Tryz.ntmps138
  go_wp2
  have hb := (Blk.new w #[.slice (some ⟨w.heap.size + 1, 0, none⟩) n n] 256).alloc (.cells C 259)
  refine bodyPost_ret (v := .agg #[.slice (some ⟨w.heap.size + 1, 0, none⟩) n n]) ?_ rfl ⟨w.heap.size + 1, rfl, by omega, ⟨C, ?_, hC⟩, ((Below.refl _ w).alloc (Nat.le_refl _) _).alloc (by simp) _⟩
  · exact results_cell_row Tryz.results138 _ _ w.heap.size 256 _ (0, 0) _ rfl hb Tryz.underlying256 rfl Tryz.sizePgR
  · have := Blk.new (w.alloc (.cells #[.slice (some ⟨w.heap.size + 1, 0, none⟩) n n] 256)) C 259
    simpa using this
theorem fold_put : ∀ (l : List Value) (off k : Nat) (z : Array Value), (l.zipIdx k).foldl (fun a (p : Value × Nat) => a.setIfInBounds (off + p.2) p.1) z = putA z (off + k) l
  | [], _, _, _ => rfl
  | v :: l, off, k, z => by
    rw [List.zipIdx_cons, List.foldl_cons, fold_put l off (k + 1) _]
    rfl
theorem fill_cons (place : Nat → Option (Nat × Nat)) (cells : Array Value) (i off size : Nat) (v : Value) (rest : List (Nat × Value)) (hp : place i = some (off, size)) (hs : v.cells.size = size) (hb : off + size ≤ cells.size) : Instr.fill place cells ((i, v) :: rest) = Instr.fill place (putA cells off v.cells.toList) rest := by
  rw [Instr.fill]
  simp only [hp]
  rw [if_neg (by simp [hs]; omega)]
  congr 1
  have := fold_put v.cells.toList off 0 cells
  rw [Nat.add_zero] at this
  rw [← this, ← Array.foldl_toList]
  congr 1
  simp
theorem build_struct (w : World) (t : TypeId) (fields : Array Field) (it : TypeInfo) (z : Value) (places : List (Nat × Nat)) (parts : Array (Nat × Value)) (res : Array Value) (hi : Tryz.prog.info? t = some it) (hz : it.zero = some z) (hu : Tryz.prog.underlying t = some (.struct fields))
    (hp : fields.toList.mapM (fun f => (Tryz.prog.info? f.type).map fun i => (f.offset, i.size)) = some places) (hf : Instr.fill (places.toArray[·]?) z.cells parts.toList = some res) : (Instr.build t parts).run Tryz.prog w = .ok (.agg res) w := by
  refine run_build w t parts res ?_
  unfold Program.built
  simp only [hi, hu, hz, hp]
  exact hf
end Go.Proofs.YtandblanpafjoaaGreatDoor

namespace Go.Proofs.YtandblanpafjoaaGreatDoor
open Go.RowKit Go.Extern.Stop Go.Stop Go.Extern
def zPast : List Value := [.int .i64 0, .int .i64 0] ++ ((Z288.map (Value.int .u8)) ++ [.slice none 0 0])
theorem Tryz.infoPast : (Tryz.prog.info? 224).map (fun i => (i.zero, i.size)) = some (some (.agg zPast.toArray), 291) := by kernel_rfl
theorem Tryz.infoFull : (Tryz.prog.info? 268).map (fun i => (i.zero, i.size)) = some (some (.agg (zPast ++ [Value.slice none 0 0]).toArray), 292) := by kernel_rfl
theorem Tryz.infoDelta : (Tryz.prog.info? 261).map (fun i => (i.zero, i.size)) = some (some (.agg (zPast ++ [Value.slice none 0 0]).toArray), 292) := by kernel_rfl
theorem zPast_len : zPast.length = 291 := by simp [zPast, Z288_len]
/-- What the stores share, as it is made. -/
def paCells (n : Nat) (now : List Int) (pb win : Nat) : List Value := [.int .i64 (n : Int), .int .i64 0] ++ (now.map (Value.int .u8) ++ [.slice (some ⟨pb, 0, none⟩) win win])
theorem paCells_len (n : Nat) (now : List Int) (pb win : Nat) (h : now.length = 288) : (paCells n now pb win).length = 291 := by simp [paCells, h]
theorem build_past (n : Nat) (now : List Int) (pb win : Nat) (h : now.length = 288) (w : World) : (Instr.build 224 #[(0, .int .i64 (n : Int)), (2, .agg (nums .u8 now)), (3, .agg #[.slice (some ⟨pb, 0, none⟩) win win])]).run Tryz.prog w = .ok (.agg (paCells n now pb win).toArray) w := by
  obtain ⟨it, hit, hz⟩ := Option.map_eq_some_iff.1 Tryz.infoPast
  simp only [Prod.mk.injEq] at hz
  refine build_struct w 224 _ it _ [(0, 1), (1, 1), (2, 288), (290, 1)] _ _ hit hz.1 Tryz.underlying224 (by kernel_rfl) ?_
  have hzl := zPast_len
  have e0 : (Value.agg zPast.toArray).cells = zPast.toArray := rfl
  obtain ⟨M, hM, hMl⟩ : ∃ M : List Value, zPast = [Value.int .i64 0, Value.int .i64 0] ++ (M ++ [Value.slice none 0 0]) ∧ M.length = 288 := ⟨Z288.map (Value.int .u8), rfl, by simp [Z288_len]⟩
  obtain ⟨N, hN, hNl⟩ : ∃ N : List Value, now.map (Value.int .u8) = N ∧ N.length = 288 := ⟨_, rfl, by simp [h]⟩
  have e2 : (Value.agg (nums .u8 now)).cells.toList = N := by rw [← hN]; simp [Value.cells, nums]
  have s1 : putA zPast.toArray 0 [Value.int .i64 (n : Int)] = ([Value.int .i64 (n : Int), Value.int .i64 0] ++ (M ++ [Value.slice none 0 0])).toArray := by
    rw [hM]; exact putA_mid [Value.int .i64 0] [Value.int .i64 (n : Int)] [] ([Value.int .i64 0] ++ (M ++ [Value.slice none 0 0])) rfl
  have s2 : putA ([Value.int .i64 (n : Int), Value.int .i64 0] ++ (M ++ [Value.slice none 0 0])).toArray 2 N = ([Value.int .i64 (n : Int), Value.int .i64 0] ++ (N ++ [Value.slice none 0 0])).toArray := putA_mid M N [Value.int .i64 (n : Int), Value.int .i64 0] [Value.slice none 0 0] (by rw [hNl, hMl])
  have s3 : putA ([Value.int .i64 (n : Int), Value.int .i64 0] ++ (N ++ [Value.slice none 0 0])).toArray 290 [Value.slice (some ⟨pb, 0, none⟩) win win] = ([Value.int .i64 (n : Int), Value.int .i64 0] ++ (N ++ [Value.slice (some ⟨pb, 0, none⟩) win win])).toArray := by
    have := putA_mid [Value.slice none 0 0] [Value.slice (some ⟨pb, 0, none⟩) win win] ([Value.int .i64 (n : Int), Value.int .i64 0] ++ N) [] rfl
    have hl : ([Value.int .i64 (n : Int), Value.int .i64 0] ++ N).length = 290 := by simp [hNl]
    rw [hl] at this
    simpa using this
  rw [e0, fill_cons _ _ 0 0 1 _ _ rfl rfl (by simp; omega)]
  have e1 : (Value.int .i64 (n : Int)).cells.toList = [.int .i64 (n : Int)] := rfl
  rw [e1, s1, fill_cons _ _ 2 2 288 _ _ rfl (by show (nums .u8 now).size = 288; rw [nums_size, h]) (by simp [hMl])]
  rw [e2, s2, fill_cons _ _ 3 290 1 _ _ rfl rfl (by simp [hNl])]
  have e3 : (Value.agg #[Value.slice (some ⟨pb, 0, none⟩) win win]).cells.toList = [.slice (some ⟨pb, 0, none⟩) win win] := rfl
  rw [e3, s3, Instr.fill, ← hN]
  rfl
theorem build_st (t : TypeId) (fields : Array Field) (hi : (Tryz.prog.info? t).map (fun i => (i.zero, i.size)) = some (some (.agg (zPast ++ [Value.slice none 0 0]).toArray), 292)) (hu : Tryz.prog.underlying t = some (.struct fields)) (hp : fields.toList.mapM (fun f => (Tryz.prog.info? f.type).map fun i => (f.offset, i.size)) = some [(0, 291), (291, 1)])
    (C : List Value) (hC : C.length = 291) (s : Value) (w : World) : (Instr.build t #[(0, .agg C.toArray), (1, .agg #[s])]).run Tryz.prog w = .ok (.agg (C ++ [s]).toArray) w := by
  obtain ⟨it, hit, hz⟩ := Option.map_eq_some_iff.1 hi
  simp only [Prod.mk.injEq] at hz
  refine build_struct w t _ it _ [(0, 291), (291, 1)] _ _ hit hz.1 hu hp ?_
  have hzl := zPast_len
  have e0 : (Value.agg (zPast ++ [Value.slice none 0 0]).toArray).cells = (zPast ++ [Value.slice none 0 0]).toArray := rfl
  have s1 : putA (zPast ++ [Value.slice none 0 0]).toArray 0 C = (C ++ [Value.slice none 0 0]).toArray := putA_mid zPast C [] [Value.slice none 0 0] (by rw [hC, hzl])
  have s2 : putA (C ++ [Value.slice none 0 0]).toArray 291 [s] = (C ++ [s]).toArray := by
    have := putA_mid [Value.slice none 0 0] [s] C [] rfl
    rw [hC] at this
    simpa using this
  have e1 : (Value.agg C.toArray).cells.toList = C := rfl
  have e2 : (Value.agg #[s]).cells.toList = [s] := rfl
  rw [e0, fill_cons _ _ 0 0 291 _ _ rfl (by show C.toArray.size = 291; simpa using hC) (by simp [hzl]), e1, s1, fill_cons _ _ 1 291 1 _ _ rfl rfl (by simp [hC]), e2, s2]
  rfl
end Go.Proofs.YtandblanpafjoaaGreatDoor

namespace Go.Proofs.YtandblanpafjoaaGreatDoor
open Go.RowKit Go.Extern.Stop Go.Stop Go.Extern
theorem wpList_build {P : Program} {ops : Array Oper} {rest : List Oper} {op : Oper} {a : Act} {w : World} {Q : Exit → Act → World → Prop} (hgd : op.guard = none) (t : TypeId) (ps : Array (Nat × Operand)) (ho : op.op = .build t ps) (parts : Array (Nat × Value)) (hp : (ps.map fun (i, x) => (i, a.eval x)) = parts) (cells : Array Value)
    (hr : (Instr.build t parts).run P w = .ok (.agg cells) w) (h : wpList P ops Q rest (a.put op.dst (.agg cells)) w) : wpList P ops Q (op :: rest) a w := by
  refine wpList_plain hgd fun K hK => ?_
  unfold Oper.wp execOp
  simp only [ho, hp, Sem.run_bind, hr, Result.andThen_ok, Sem.run_pure]
  exact hK _ _ h
set_option maxRecDepth 10000 in
set_option maxHeartbeats 1600000 in
theorem newFull_any (C : List Value) (win : Nat) (w : World) (hC : C.length = 291) (hw : win ≤ 100) :
    Calls Tryz.prog 127 #[.agg C.toArray, .int .i64 (win : Int)] w fun e w' => ∃ sb rb, e = .returned (.pointer (some ⟨sb, 0, none⟩)) ∧ w.heap.size ≤ rb ∧ rb < sb ∧ Blk w' sb (C ++ [Value.slice (some ⟨rb, 0, none⟩) win win]).toArray 268 ∧ (∃ D, Blk w' rb D 209 ∧ D.size = win * 288) ∧ Below w.heap.size w w' := by
  have bB : Below w.heap.size w (w.alloc (.cells C.toArray 224)) := (Below.refl _ w).alloc (Nat.le_refl _) _
  have xB : Blk (w.alloc (.cells C.toArray 224)) w.heap.size C.toArray 224 := Blk.new _ _ _
  have hsz : (Tryz.prog.info? 224).map (·.size) = some C.length := by rw [hC]; exact (zero_of_info Tryz.infoPast).2
  go_enter Tryz.func127, Tryz.ntmps127
  go_wp2_with fail
  generalize w.alloc (.cells C.toArray 224) = W1 at *
  have hr1 : W1.rangeAt w.heap.size 0 C := Blk.rangeAt (a := []) (c := []) (by simpa using xB)
  refine wp_region_noPanic ?_
  refine wp_held_tail 2 3 (fun W' => W'.rangeAt w.heap.size 0 C) (by kernel_rfl) (by decide) (by kernel_rfl) (by kernel_rfl) (by kernel_rfl) (fun _ _ _ _ _ h => h) ((World.rangeAt_drew _ _ _ _).2 hr1) ?_
  simp only [List.take_succ_cons, List.take_zero, List.drop_succ_cons, List.drop_zero]
  refine wpHeld_load_mid rfl 224 _ rfl w.heap.size 0 rfl C _ (fun w' hS => hS) Tryz.underlying224 rfl hsz ?_
  refine wpHeld_op ?y1 rfl ?z1 ?_
  case z1 => intro w' hS; go_simp; rfl
  unfold wpHeld
  refine wpAnyH_all (rs := [2]) (by kernel_rfl) (by simp) ?_
  intro j hj
  obtain rfl : j = 2 := by simpa using hj
  refine wpOp_of_list _ rfl rfl ?_
  go_wp2_with fail
  refine (ringMem_any win W1.drew (by omega)).mono ?_
  rintro e w2 ⟨rb, rfl, hrb, ⟨D, hD, hDs⟩, hb2⟩
  have hB2 : Below W1.heap.size W1 w2 := ⟨hb2.os, hb2.tape, hb2.output, hb2.size, hb2.block⟩
  go_wp2_with fail
  refine ⟨rangeAt_same hr1 (hB2.block _ xB.lt), ⟨by kernel_rfl, ?_⟩⟩
  have hbd := build_st 268 _ Tryz.infoFull Tryz.underlying268 (by kernel_rfl) C hC (.slice (some ⟨rb, 0, none⟩) win win)
  have hdl := hD.lt
  have H2 := hide (And.intro hB2 (And.intro hD (And.intro hDs (And.intro bB hrb))))
  clear hB2 hD hDs hb2 hr1 xB bB hrb
  generalize hE : C ++ [Value.slice (some ⟨rb, 0, none⟩) win win] = E at *
  change wpList _ _ _ _ _ _
  go_simp
  refine wpList_build rfl 268 _ rfl #[(0, .agg C.toArray), (1, .agg #[.slice (some ⟨rb, 0, none⟩) win win])] (by simp [Act.eval]) E.toArray (hbd _) ?_
  clear hbd
  go_wp2_with fail
  refine NoPanic.normal ?_
  go_wp2
  go_ret
  obtain ⟨hB2, hD, hDs, bB, hrb⟩ := unhide H2
  have h1 := bB.size
  have h2 : W1.drew.heap.size = W1.heap.size := rfl
  have hxs := hB2.size
  exact ⟨w2.heap.size, rb, rfl, by omega, hdl, by rw [hE]; exact Blk.new _ _ _, ⟨D, hD.alloc _, hDs⟩, (bB.trans (hB2.mono h1)).alloc (by omega) _⟩
end Go.Proofs.YtandblanpafjoaaGreatDoor

namespace Go.Proofs.YtandblanpafjoaaGreatDoor
open Go.RowKit Go.Extern.Stop Go.Stop Go.Extern Go.Maps
theorem PgMap.new (w : World) : PgMap (w.alloc (.map #[] 0)) w.heap.size 0 (fun _ => none) := ⟨.map [], World.ownsMap_made w _ _ _, PgD.empty⟩
/-- The first k places of the ring have maps. -/
structure MadeTo (w : World) (rb win k : Nat) (B : Nat) (mb : Nat → Nat) : Prop where
  blk : ∃ cs, Blk w rb cs 259 ∧ cs.size = win + 1 ∧ ∀ i, i < k → cs[i]? = some (.map (some (mb i)))
  maps : ∀ i, i < k → PgMap w (mb i) 0 (fun _ => none) ∧ B ≤ mb i
  inj : ∀ i j, i < k → j < k → mb i = mb j → i = j
theorem MadeTo.put {w W1 : World} {rb win k B : Nat} {mb : Nat → Nat} (h : MadeTo w rb win k B mb) (hk : k < win + 1) (hB : rb < B) (hBw : B ≤ w.heap.size) (hb : Below (w.heap.size + 1) (w.alloc (.map #[] 0)) W1) : MadeTo (W1.setCell ⟨rb, k, none⟩ (.map (some w.heap.size))) rb win (k + 1) B (fun i => if i = k then w.heap.size else mb i) := by
  obtain ⟨cs, h1, h2, h3⟩ := h.blk
  have hsame : ∀ j, j < w.heap.size → W1.heap[j]? = w.heap[j]? := fun j hj => (hb.block j (by omega)).trans (((Below.refl _ w).alloc (Nat.le_refl _) _).block j hj)
  have hlt : ∀ i, i < k → mb i < w.heap.size := fun i hi => (h.maps i hi).1.lt
  refine ⟨⟨cs.setIfInBounds k (.map (some w.heap.size)), Blk.set (show Blk W1 rb cs 259 from (hsame rb (by omega)).trans h1) k _, by simpa using h2, fun i hi => ?_⟩, fun i hi => ?_, fun i j hi hj e => ?_⟩
  · by_cases e : i = k
    · subst e; simp [h2, hk]
    · rw [Array.getElem?_setIfInBounds_ne (by omega)]
      simp only [if_neg e]
      exact h3 i (by omega)
  · by_cases e : i = k
    · simp only [if_pos e]
      refine ⟨(PgMap.new w).same ?_, hBw⟩
      rw [heap_setCell_other _ _ _ _ (fun e => by have : w.heap.size = rb := e; omega)]
      exact hb.block _ (by omega)
    · simp only [if_neg e]
      have := h.maps i (by omega)
      refine ⟨this.1.same ?_, this.2⟩
      rw [heap_setCell_other _ _ _ _ (fun e => by have : mb i = rb := e; have := (h.maps i (by omega)).2; omega)]
      exact hsame _ (hlt i (by omega))
  · by_cases e1 : i = k
    · by_cases e2 : j = k
      · omega
      · simp only [if_pos e1, if_neg e2] at e
        have := hlt j (by omega); omega
    · by_cases e2 : j = k
      · simp only [if_neg e1, if_pos e2] at e
        have := hlt i (by omega); omega
      · simp only [if_neg e1, if_neg e2] at e
        exact h.inj i j (by omega) (by omega) e
theorem MadeTo.all {w : World} {rb win B : Nat} {mb : Nat → Nat} (h : MadeTo w rb win (win + 1) B mb) : Blk w rb ((List.range (win + 1)).map fun i => Value.map (some (mb i))).toArray 259 := by
  obtain ⟨cs, h1, h2, h3⟩ := h.blk
  have e : cs = ((List.range (win + 1)).map fun i => Value.map (some (mb i))).toArray := by
    apply Array.ext_getElem?
    intro i
    by_cases hi : i < win + 1
    · rw [h3 i hi]; simp [hi]
    · rw [Array.getElem?_eq_none (by omega), Array.getElem?_eq_none (by simp; omega)]
  rw [← e]; exact h1
set_option maxRecDepth 10000 in
set_option maxHeartbeats 1600000 in
theorem newDelta_any (C : List Value) (win : Nat) (w : World) (hC : C.length = 291) (hw : win ≤ 100) :
    Calls Tryz.prog 126 #[.agg C.toArray, .int .i64 (win : Int)] w fun e w' => ∃ sb rb mb, e = .returned (.pointer (some ⟨sb, 0, none⟩)) ∧ w.heap.size ≤ rb ∧ rb < sb ∧ Blk w' sb (C ++ [Value.slice (some ⟨rb, 0, none⟩) (win + 1) (win + 1)]).toArray 261 ∧ MadeTo w' rb win (win + 1) (sb + 1) mb ∧ Below w.heap.size w w' := by
  have bB : Below w.heap.size w (w.alloc (.cells C.toArray 224)) := (Below.refl _ w).alloc (Nat.le_refl _) _
  have xB : Blk (w.alloc (.cells C.toArray 224)) w.heap.size C.toArray 224 := Blk.new _ _ _
  have hsz : (Tryz.prog.info? 224).map (·.size) = some C.length := by rw [hC]; exact (zero_of_info Tryz.infoPast).2
  have hw1 : IntKind.i64.wrap ((win : Int) + 1) = (win : Int) + 1 := i64_id _ (by omega) (by omega)
  go_enter Tryz.func126, Tryz.ntmps126
  go_wp2_with fail
  generalize w.alloc (.cells C.toArray 224) = W1 at *
  have hr1 : W1.rangeAt w.heap.size 0 C := Blk.rangeAt (a := []) (c := []) (by simpa using xB)
  refine wp_region_noPanic ?_
  refine wp_held_tail 3 4 (fun W' => W'.rangeAt w.heap.size 0 C) (by kernel_rfl) (by decide) (by kernel_rfl) (by kernel_rfl) (by kernel_rfl) (fun _ _ _ _ _ h => h) ((World.rangeAt_drew _ _ _ _).2 hr1) ?_
  simp only [List.take_succ_cons, List.take_zero, List.drop_succ_cons, List.drop_zero]
  refine wpHeld_load_mid rfl 224 _ rfl w.heap.size 0 rfl C _ (fun w' hS => hS) Tryz.underlying224 rfl hsz ?_
  refine wpHeld_op ?y1 rfl ?z1 ?_
  case z1 => intro w' hS; go_simp; rfl
  refine wpHeld_op ?y2 rfl ?z2 ?_
  case z2 => intro w' hS; go_simp; rfl
  unfold wpHeld
  refine wpAnyH_all (rs := [3]) (by kernel_rfl) (by simp) ?_
  intro j hj
  obtain rfl : j = 3 := by simpa using hj
  refine wpOp_of_list _ rfl rfl ?_
  go_wp2_with fail
  have hrp := ringPg_any (win + 1) W1.drew (by omega)
  rw [show ((win + 1 : Nat) : Int) = (win : Int) + 1 by omega] at hrp
  refine hrp.mono ?_
  clear hrp
  rintro e w2 ⟨rb, rfl, hrb, ⟨D, hD, hDs⟩, hb2⟩
  have hB2 : Below W1.heap.size W1 w2 := ⟨hb2.os, hb2.tape, hb2.output, hb2.size, hb2.block⟩
  go_wp2_with fail
  refine ⟨rangeAt_same hr1 (hB2.block _ xB.lt), ⟨by kernel_rfl, ?_⟩⟩
  have hbd := build_st 261 _ Tryz.infoDelta Tryz.underlying261 (by kernel_rfl) C hC (.slice (some ⟨rb, 0, none⟩) (win + 1) (win + 1))
  have hdl := hD.lt
  have H2 := hide (And.intro hB2 (And.intro hD (And.intro hDs (And.intro bB hrb))))
  clear hB2 hD hDs hb2 hr1 xB bB hrb
  obtain ⟨E, hE⟩ : ∃ E, C ++ [Value.slice (some ⟨rb, 0, none⟩) (win + 1) (win + 1)] = E := ⟨_, rfl⟩
  rw [hE] at hbd
  have hE291 : E[291]? = some (.slice (some ⟨rb, 0, none⟩) (win + 1) (win + 1)) := by rw [← hE, List.getElem?_append_right (by omega), hC]; rfl
  have HE := hide hE
  clear hE
  change wpList _ _ _ _ _ _
  go_simp
  refine wpList_build rfl 261 _ rfl #[(0, .agg C.toArray), (1, .agg #[.slice (some ⟨rb, 0, none⟩) (win + 1) (win + 1)])] (by simp [Act.eval]) E.toArray (hbd _) ?_
  clear hbd
  go_wp2_with fail
  refine NoPanic.normal ?_
  have hx3 : Blk (w2.alloc (.cells E.toArray 261)) w2.heap.size E.toArray 261 := Blk.new _ _ _
  have hb3 : Below w2.heap.size w2 (w2.alloc (.cells E.toArray 261)) := (Below.refl _ w2).alloc (Nat.le_refl _) _
  have hz3 : (w2.alloc (.cells E.toArray 261)).heap.size = w2.heap.size + 1 := by simp
  go_wp2_with fail
  generalize w2.alloc (.cells E.toArray 261) = W3 at *
  have H3 := hide (And.intro hx3 (And.intro hb3 hz3))
  clear hx3 hb3 hz3
  go_loopw [15] (fun i wr => ∃ (k : Nat) (mb : Nat → Nat), k ≤ win + 1 ∧ i = .int .i64 (k : Int) ∧ Below w.heap.size w wr ∧ w2.heap.size + 1 ≤ wr.heap.size ∧ Blk wr w2.heap.size E.toArray 261 ∧ MadeTo wr rb win k (w2.heap.size + 1) mb) (fun i _ => win + 1 - (intOf i).toNat)
  case atStart =>
    obtain ⟨hB2, hD, hDs, bB, hrb⟩ := unhide H2
    obtain ⟨hx3, hb3, hz3⟩ := unhide H3
    have h1 := bB.size
    have h2 := hB2.size
    exact ⟨0, fun _ => 0, by omega, rfl, (bB.trans (hB2.mono h1)).trans (hb3.mono (by omega)), by omega, hx3, ⟨⟨D, (hb3.block rb hdl).trans hD, by omega, fun i hi => by omega⟩, fun i hi => by omega, fun i j hi => by omega⟩⟩
  case round =>
    obtain ⟨k, mb, hk, rfl, hb, hsz4, hx, hM⟩ := hrel
    have HM := hide (And.intro hb hM)
    clear hb hM
    by_cases hlt : k < win + 1
    · have hd : decide ((k : Int) < (win : Int) + 1) = true := by simp; omega
      have c291 : wr.cell? ⟨w2.heap.size, 291, none⟩ = some (.slice (some ⟨rb, 0, none⟩) (win + 1) (win + 1)) := by rw [hx.cell]; simpa using hE291
      have hmm := run_makeMap (P := Tryz.prog) 259
      go_wp2_with fail
      obtain ⟨hb, hM⟩ := unhide HM
      obtain ⟨cs, hc1, hc2, _⟩ := hM.blk
      have hkm : k % (win + 1) = k := Nat.mod_eq_of_lt hlt
      have hbA : Below wr.heap.size wr (wr.alloc (.map #[] 0)) := (Below.refl _ wr).alloc (Nat.le_refl _) _
      have hrl : rb < wr.heap.size := hc1.lt
      have hrA : (wr.alloc (.map #[] 0)).cell? ⟨rb, k % (win + 1), none⟩ = some cs[k] := by rw [hbA.cell (p := ⟨rb, k % (win + 1), none⟩) hrl, hkm, hc1.cell, Array.getElem?_eq_getElem (by omega)]
      have hfA : (wr.alloc (.map #[] 0)).frozen? ⟨rb, k % (win + 1), none⟩ = false := (hbA.frozen (p := ⟨rb, k % (win + 1), none⟩) hrl).trans (hc1.frozen _)
      refine (rput_pg rb (win + 1) k wr.heap.size _ (wr.alloc (.map #[] 0)) (by omega) hrA hfA).mono ?_
      rintro e w5 ⟨rfl, W5, hb5, rfl⟩
      rw [hkm]
      have hzA : (wr.alloc (.map #[] 0)).heap.size = wr.heap.size + 1 := by simp
      rw [hzA] at hb5
      have hadd := i64_id ((k : Int) + 1) (by omega) (by omega)
      have hM5 := hM.put hlt (by omega) hsz4 hb5
      have hz5 := hb5.size
      have hrw : w.heap.size ≤ rb := by
        obtain ⟨hB2, hD, hDs, bB, hrb⟩ := unhide H2
        have h1 := bB.size
        have h2 : W1.drew.heap.size = W1.heap.size := rfl
        omega
      have hb6 : Below w.heap.size w (W5.setCell ⟨rb, k, none⟩ (.map (some wr.heap.size))) := (((hb.trans (hbA.mono hb.size)).trans (hb5.mono (by have := hb.size; omega))).setCell (p := ⟨rb, k, none⟩) hrw _)
      have hx6 : Blk (W5.setCell ⟨rb, k, none⟩ (.map (some wr.heap.size))) w2.heap.size E.toArray 261 := Blk.setOther (show Blk W5 w2.heap.size E.toArray 261 from (hb5.block _ (by omega)).trans ((hbA.block _ (by omega)).trans hx)) ⟨rb, k, none⟩ _ (by simp; omega)
      have hz6 : w2.heap.size + 1 ≤ (W5.setCell ⟨rb, k, none⟩ (.map (some wr.heap.size))).heap.size := by simp; omega
      have H6 := hide (And.intro hb6 (And.intro hx6 (And.intro hM5 hz6)))
      clear hb hM hbA hrA hfA hzA hb5 hM5 hz5 hb6 hx6 hx hz6 hc1
      generalize W5.setCell ⟨rb, k, none⟩ (.map (some wr.heap.size)) = W6 at *
      go_wp2
      obtain ⟨hb6, hx6, hM5, hz6⟩ := unhide H6
      exact ⟨⟨k + 1, _, by omega, by go_num, hb6, hz6, hx6, hM5⟩, by simp [intOf]; omega⟩
    · have hd : decide ((k : Int) < (win : Int) + 1) = false := by simp; omega
      have hke : k = win + 1 := by omega
      have HKE := hide hke
      clear hke
      go_wp2
      go_ret
      obtain ⟨hb, hM⟩ := unhide HM
      obtain ⟨hB2, hD, hDs, bB, hrb⟩ := unhide H2
      have h1 := bB.size
      have h2 : W1.drew.heap.size = W1.heap.size := rfl
      rw [unhide HKE] at hM
      exact ⟨w2.heap.size, rb, mb, rfl, by omega, hdl, by rw [unhide HE]; exact hx, hM, hb⟩
end Go.Proofs.YtandblanpafjoaaGreatDoor

namespace Go.Proofs.YtandblanpafjoaaGreatDoor
open Go.RowKit Go.Extern.Stop Go.Stop Go.Extern Go.Maps
theorem st_made (n win pb rb W : Nat) (fs : Nat → List Int) : paCells n (startTo n) pb win ++ [Value.slice (some ⟨rb, 0, none⟩) W W] = stCells n 0 (stF n fs 0) pb win rb W := by
  simp [paCells, stCells, stF]
theorem full_made {w : World} {sb pb rb n win : Nat} (hn : n ≤ 4) (h1 : Blk w sb (paCells n (startTo n) pb win ++ [Value.slice (some ⟨rb, 0, none⟩) win win]).toArray 268) (h2 : ∃ C, Blk w pb C 199 ∧ C.size = win * 4) (h3 : ∃ D, Blk w rb D 209 ∧ D.size = win * 288) (e1 : sb ≠ pb) (e2 : sb ≠ rb) (e3 : pb ≠ rb) (fs : Nat → List Int) :
    FullAt w sb (fun k => k = sb ∨ k = pb ∨ k = rb) n win 0 0 fs pb rb :=
  ⟨⟨stF_len hn fs 0, by rw [st_made n win pb rb win fs] at h1; exact h1⟩, ⟨h2, fun f _ h => by omega⟩, ⟨h3, fun f _ h => by omega⟩, e1, e2, e3, .inl rfl, .inr (.inl rfl), .inr (.inr rfl)⟩
theorem delta_made {w : World} {sb pb rb n win : Nat} {mb : Nat → Nat} (hn : n ≤ 4) (h1 : Blk w sb (paCells n (startTo n) pb win ++ [Value.slice (some ⟨rb, 0, none⟩) (win + 1) (win + 1)]).toArray 261) (h2 : ∃ C, Blk w pb C 199 ∧ C.size = win * 4) (h3 : MadeTo w rb win (win + 1) (sb + 1) mb) (e1 : pb < rb) (e2 : rb < sb) (fs : Nat → List Int) :
    DeltaAt w sb (fun k => k = sb ∨ k = pb ∨ k = rb ∨ ∃ i, i < win + 1 ∧ k = mb i) n win 0 0 fs pb rb mb :=
  ⟨⟨stF_len hn fs 0, by rw [st_made n win pb rb (win + 1) fs] at h1; exact h1⟩, ⟨h2, fun f _ h => by omega⟩, ⟨_, h3.all⟩, fun i hi => ⟨_, (h3.maps i hi).1.mono (by omega)⟩, fun f _ h => by omega, (h3.maps _ (Nat.mod_lt _ (by omega))).1, h3.inj,
   fun i hi => by have := (h3.maps i hi).2; exact ⟨by omega, by omega, by omega, .inr (.inr (.inr ⟨i, hi, rfl⟩))⟩, by omega, by omega, by omega, .inl rfl, .inr (.inl rfl), .inr (.inr (.inl rfl))⟩
theorem paCells_one (n : Nat) (now : List Int) (pb win : Nat) : (paCells n now pb win).toArray.all (·.oneCell') = true := by
  simp [paCells, Value.oneCell']
set_option maxRecDepth 10000 in
set_option maxHeartbeats 1600000 in
theorem stNew_any (kind n win : Nat) (w : World) (hn : n ≤ 4) (hw : win ≤ 100) :
    Calls Tryz.prog 105 #[.int .i64 (kind : Int), .int .i64 (n : Int), .int .i64 (win : Int)] w fun e w' => ∃ st F, e = .returned st ∧ (∀ fs, StoreAt w' st F n win 0 0 fs) ∧ (∀ k, F k → w.heap.size ≤ k ∧ k < w'.heap.size) ∧ Below w.heap.size w w' := by
  have hz : ∀ W : World, (zeroValue 224).run Tryz.prog W = .ok (.agg zPast.toArray) W := fun W => (zero_of_info Tryz.infoPast).1 W
  go_enter Tryz.func105, Tryz.ntmps105
  go_wp2_with fail
  refine (start_any n w hn).mono ?_
  rintro e w1 ⟨rfl, hb1⟩
  go_wp2_with fail
  refine (ringIn_any win w1 (by omega)).mono ?_
  rintro e w2 ⟨pb, rfl, hpb, hring, hb2⟩
  have hlen := startTo_len n
  have hbd := build_past n (startTo n) pb win hlen
  have hcl := paCells_len n (startTo n) pb win hlen
  obtain ⟨C, hC⟩ : ∃ C, paCells n (startTo n) pb win = C := ⟨_, rfl⟩
  rw [hC] at hbd hcl
  have HC := hide hC
  clear hC
  have H2 := hide (And.intro hb1 (And.intro hpb (And.intro hring hb2)))
  clear hb1 hpb hring hb2
  have hone : C.toArray.all (·.oneCell') = true := by rw [← unhide HC]; exact paCells_one _ _ _ _
  have hszC : (Tryz.prog.info? 224).map (·.size) = some C.toArray.size := by rw [List.size_toArray, hcl]; exact (zero_of_info Tryz.infoPast).2
  have hsz2 : C.toArray.size = zPast.toArray.size := by rw [List.size_toArray, List.size_toArray, hcl, zPast_len]
  have hx0 : Blk (w2.alloc (.cells zPast.toArray 224)) w2.heap.size zPast.toArray 224 := Blk.new _ _ _
  by_cases hk1 : kind = 1
  · have hd : ((kind : Int) == 1) = true := by rw [beq_iff_eq]; omega
    clear hk1
    go_wp2_with (first
      | (refine wpList_build rfl 224 _ rfl #[(0, .int .i64 (n : Int)), (2, .agg (nums .u8 (startTo n))), (3, .agg #[.slice (some ⟨pb, 0, none⟩) win win])] (by simp [Act.eval]) C.toArray (hbd _) ?_)
      | (refine wpList_store_blk rfl 224 _ _ rfl w2.heap.size 224 zPast.toArray C.toArray rfl rfl hx0 hszC hsz2.symm hone ?_)
      | (refine wpList_load_blk rfl 224 _ rfl w2.heap.size rfl 224 C.toArray _ (hx0.setRow _) Tryz.underlying224 rfl hszC ?_))
    refine (newDelta_any C win _ hcl hw).mono ?_
    rintro e w5 ⟨sb, rb, mb, rfl, hrb, hsb, hB5, hD5, hb5⟩
    have H5 := hide (And.intro hrb (And.intro hB5 (And.intro hD5 hb5)))
    clear hrb hB5 hD5 hb5 hbd
    go_wp2
    go_ret
    obtain ⟨hb1, hpb, hring, hb2⟩ := unhide H2
    obtain ⟨hrb, hB5, hD5, hb5⟩ := unhide H5
    have z1 := hb1.size
    have z2 := hb2.size
    have hbR : Below w2.heap.size w2 ((w2.alloc (.cells zPast.toArray 224)).setRow w2.heap.size C.toArray) := below_setRow ((Below.refl _ w2).alloc (Nat.le_refl _) _) (Nat.le_refl _) _
    have z3 := hbR.size
    have z4 := hb5.size
    have hb25 : Below w2.heap.size w2 w5 := hbR.trans (hb5.mono z3)
    have hring5 : ∃ C, Blk w5 pb C 199 ∧ C.size = win * 4 := by
      obtain ⟨R, hR, hRs⟩ := hring
      exact ⟨R, (hb25.block pb hR.lt).trans hR, hRs⟩
    have hpl : pb < w2.heap.size := by obtain ⟨R, hR, _⟩ := hring; exact hR.lt
    rw [← unhide HC] at hB5
    have hsl := hB5.lt
    refine ⟨_, fun k => k = sb ∨ k = pb ∨ k = rb ∨ ∃ i, i < win + 1 ∧ k = mb i, rfl, fun fs => .inr ⟨sb, pb, rb, mb, rfl, delta_made hn hB5 hring5 hD5 (by omega) hsb fs⟩, fun k hk => ?_, (hb1.trans (hb2.mono z1)).trans (hb25.mono (by omega))⟩
    rcases hk with rfl | rfl | rfl | ⟨i, hi, rfl⟩
    · omega
    · omega
    · omega
    · have h1 := (hD5.maps i hi).2
      have h2 := (hD5.maps i hi).1.lt
      omega
  · have hd : ((kind : Int) == 1) = false := by rw [beq_eq_false_iff_ne]; omega
    clear hk1
    go_wp2_with (first
      | (refine wpList_build rfl 224 _ rfl #[(0, .int .i64 (n : Int)), (2, .agg (nums .u8 (startTo n))), (3, .agg #[.slice (some ⟨pb, 0, none⟩) win win])] (by simp [Act.eval]) C.toArray (hbd _) ?_)
      | (refine wpList_store_blk rfl 224 _ _ rfl w2.heap.size 224 zPast.toArray C.toArray rfl rfl hx0 hszC hsz2.symm hone ?_)
      | (refine wpList_load_blk rfl 224 _ rfl w2.heap.size rfl 224 C.toArray _ (hx0.setRow _) Tryz.underlying224 rfl hszC ?_))
    refine (newFull_any C win _ hcl hw).mono ?_
    rintro e w5 ⟨sb, rb, rfl, hrb, hsb, hB5, hD5, hb5⟩
    have H5 := hide (And.intro hrb (And.intro hB5 (And.intro hD5 hb5)))
    clear hrb hB5 hD5 hb5 hbd
    go_wp2
    go_ret
    obtain ⟨hb1, hpb, hring, hb2⟩ := unhide H2
    obtain ⟨hrb, hB5, hD5, hb5⟩ := unhide H5
    have z1 := hb1.size
    have z2 := hb2.size
    have hbR : Below w2.heap.size w2 ((w2.alloc (.cells zPast.toArray 224)).setRow w2.heap.size C.toArray) := below_setRow ((Below.refl _ w2).alloc (Nat.le_refl _) _) (Nat.le_refl _) _
    have z3 := hbR.size
    have z4 := hb5.size
    have hb25 : Below w2.heap.size w2 w5 := hbR.trans (hb5.mono z3)
    have hring5 : ∃ C, Blk w5 pb C 199 ∧ C.size = win * 4 := by
      obtain ⟨R, hR, hRs⟩ := hring
      exact ⟨R, (hb25.block pb hR.lt).trans hR, hRs⟩
    have hpl : pb < w2.heap.size := by obtain ⟨R, hR, _⟩ := hring; exact hR.lt
    rw [← unhide HC] at hB5
    have hsl := hB5.lt
    obtain ⟨D5, hD5a, hD5b⟩ := hD5
    refine ⟨_, fun k => k = sb ∨ k = pb ∨ k = rb, rfl, fun fs => .inl ⟨sb, pb, rb, rfl, full_made hn hB5 hring5 ⟨D5, hD5a, hD5b⟩ (by omega) (by omega) (by omega) fs⟩, fun k hk => ?_, (hb1.trans (hb2.mono z1)).trans (hb25.mono (by omega))⟩
    rcases hk with rfl | rfl | rfl <;> omega
end Go.Proofs.YtandblanpafjoaaGreatDoor

