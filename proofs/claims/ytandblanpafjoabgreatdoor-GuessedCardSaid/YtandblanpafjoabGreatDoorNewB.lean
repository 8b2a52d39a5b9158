import Derived.Test.YtandblanpafjoabGreatDoorNewA
namespace Go.Proofs.YtandblanpafjoabGreatDoor
open Go.RowKit Go.Extern.Stop Go.Stop Go.Extern

theorem putA_app (z : List Value) (o : Nat) (vs : List Value) (h : o + vs.length ≤ z.length) : putA z.toArray o vs = (z.take o ++ (vs ++ z.drop (o + vs.length))).toArray := by
  have e : z = z.take o ++ ((z.drop o).take vs.length ++ z.drop (o + vs.length)) := by
    rw [← List.drop_drop, List.take_append_drop, List.take_append_drop]
  have hl : (z.take o).length = o := by simp; omega
  have := putA_mid ((z.drop o).take vs.length) vs (z.take o) (z.drop (o + vs.length)) (by simp; omega)
  rw [hl, ← e] at this
  exact this
def zPast : List Value := [.int .i64 0, .int .i64 0] ++ ((Z288.map (Value.int .u8)) ++ [.slice none 0 0])
theorem Tryz.infoPast : (Tryz.prog.info? 228).map (fun i => (i.zero, i.size)) = some (some (.agg zPast.toArray), 291) := by kernel_rfl
theorem Tryz.infoFull : (Tryz.prog.info? 257).map (fun i => (i.zero, i.size)) = some (some (.agg (zPast ++ [Value.slice none 0 0]).toArray), 292) := by kernel_rfl
theorem Tryz.infoDelta : (Tryz.prog.info? 250).map (fun i => (i.zero, i.size)) = some (some (.agg (zPast ++ [Value.slice none 0 0]).toArray), 292) := by kernel_rfl
theorem zPast_len : zPast.length = 291 := by simp [zPast, Z288_len]
/-- What the stores share, as it is made. -/
def paCells (n : Nat) (now : List Int) (pb win : Nat) : List Value := [.int .i64 (n : Int), .int .i64 0] ++ (now.map (Value.int .u8) ++ [.slice (some ⟨pb, 0, none⟩) win win])
theorem paCells_len (n : Nat) (now : List Int) (pb win : Nat) (h : now.length = 288) : (paCells n now pb win).length = 291 := by simp [paCells, h]
theorem build_past (n : Nat) (now : List Int) (pb win : Nat) (h : now.length = 288) (w : World) : (Instr.build 228 #[(0, .int .i64 (n : Int)), (2, .agg (nums .u8 now)), (3, .agg #[.slice (some ⟨pb, 0, none⟩) win win])]).run Tryz.prog w = .ok (.agg (paCells n now pb win).toArray) w := by
  obtain ⟨it, hit, hz⟩ := Option.map_eq_some_iff.1 Tryz.infoPast
  simp only [Prod.mk.injEq] at hz
  refine build_struct w 228 _ it _ [(0, 1), (1, 1), (2, 288), (290, 1)] _ _ hit hz.1 Tryz.underlying228 (by kernel_rfl) ?_
  have hzl := zPast_len
  have e0 : (Value.agg zPast.toArray).cells = zPast.toArray := rfl
  obtain ⟨M, hM, hMl⟩ : ∃ M : List Value, zPast = [Value.int .i64 0, Value.int .i64 0] ++ (M ++ [Value.slice none 0 0]) ∧ M.length = 288 := ⟨Z288.map (Value.int .u8), rfl, by simp [Z288_len]⟩
  obtain ⟨N, hN, hNl⟩ : ∃ N : List Value, now.map (Value.int .u8) = N ∧ N.length = 288 := ⟨_, rfl, by simp [h]⟩
  have e2 : (Value.agg (nums .u8 now)).cells.toList = N := by rw [← hN]; simp [Value.cells, nums]
  have s1 : putA zPast.toArray 0 [Value.int .i64 (n : Int)] = ([Value.int .i64 (n : Int), Value.int .i64 0] ++ (M ++ [Value.slice none 0 0])).toArray := by
    rw [hM]; exact putA_mid [Value.int .i64 0] [Value.int .i64 (n : Int)] [] ([Value.int .i64 0] ++ (M ++ [Value.slice none 0 0])) rfl
  have s2 : putA ([Value.int .i64 (n : Int), Value.int .i64 0] ++ (M ++ [Value.slice none 0 0])).toArray 2 N = ([Value.int .i64 (n : Int), Value.int .i64 0] ++ (N ++ [Value.slice none 0 0])).toArray := putA_mid M N [Value.int .i64 (n : Int), Value.int .i64 0] [Value.slice none 0 0] (by rw [hNl, hMl])
  have s3 : putA ([Value.int .i64 (n : Int), Value.int .i64 0] ++ (N ++ [Value.slice none 0 0])).toArray 290 [Value.slice (some ⟨pb, 0, none⟩) win win] = ([Value.int .i64 (n : Int), Value.int .i64 0] ++ (N ++ [Value.slice (some ⟨pb, 0, none⟩) win win])).toArray := by
    have := putA_mid [Value.slice none 0 0] [Value.slice (some ⟨pb, 0, none⟩) win win] ([Value.int .i64 (n : Int), Value.int .i64 0] ++ N) [] rfl
    have hl : ([Value.int .i64 (n : Int), Value.int .i64 0] ++ N).length = 290 := by simp [hNl]
    rw [hl] at this
    simpa using this
  rw [e0, fill_cons _ _ 0 0 1 _ _ rfl rfl (by simp; omega)]
  have e1 : (Value.int .i64 (n : Int)).cells.toList = [.int .i64 (n : Int)] := rfl
  rw [e1, s1, fill_cons _ _ 2 2 288 _ _ rfl (by show (nums .u8 now).size = 288; rw [nums_size, h]) (by simp [hMl])]
  rw [e2, s2, fill_cons _ _ 3 290 1 _ _ rfl rfl (by simp [hNl])]
  have e3 : (Value.agg #[Value.slice (some ⟨pb, 0, none⟩) win win]).cells.toList = [.slice (some ⟨pb, 0, none⟩) win win] := rfl
  rw [e3, s3, Instr.fill, ← hN]
  rfl
theorem build_st (t : TypeId) (fields : Array Field) (hi : (Tryz.prog.info? t).map (fun i => (i.zero, i.size)) = some (some (.agg (zPast ++ [Value.slice none 0 0]).toArray), 292)) (hu : Tryz.prog.underlying t = some (.struct fields)) (hp : fields.toList.mapM (fun f => (Tryz.prog.info? f.type).map fun i => (f.offset, i.size)) = some [(0, 291), (291, 1)])
    (C : List Value) (hC : C.length = 291) (s : Value) (w : World) : (Instr.build t #[(0, .agg C.toArray), (1, .agg #[s])]).run Tryz.prog w = .ok (.agg (C ++ [s]).toArray) w := by
  obtain ⟨it, hit, hz⟩ := Option.map_eq_some_iff.1 hi
  simp only [Prod.mk.injEq] at hz
  refine build_struct w t _ it _ [(0, 291), (291, 1)] _ _ hit hz.1 hu hp ?_
  have hzl := zPast_len
  have e0 : (Value.agg (zPast ++ [Value.slice none 0 0]).toArray).cells = (zPast ++ [Value.slice none 0 0]).toArray := rfl
  have s1 : putA (zPast ++ [Value.slice none 0 0]).toArray 0 C = (C ++ [Value.slice none 0 0]).toArray := putA_mid zPast C [] [Value.slice none 0 0] (by rw [hC, hzl])
  have s2 : putA (C ++ [Value.slice none 0 0]).toArray 291 [s] = (C ++ [s]).toArray := by
    have := putA_mid [Value.slice none 0 0] [s] C [] rfl
    rw [hC] at this
    simpa using this
  have e1 : (Value.agg C.toArray).cells.toList = C := rfl
  have e2 : (Value.agg #[s]).cells.toList = [s] := rfl
  rw [e0, fill_cons _ _ 0 0 291 _ _ rfl (by show C.toArray.size = 291; simpa using hC) (by simp [hzl]), e1, s1, fill_cons _ _ 1 291 1 _ _ rfl rfl (by simp [hC]), e2, s2]
  rfl
end Go.Proofs.YtandblanpafjoabGreatDoor
