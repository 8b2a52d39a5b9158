import Derived.Test.YtandblanpafjoabGreatDoorNewB
namespace Go.Proofs.YtandblanpafjoabGreatDoor
open Go.RowKit Go.Extern.Stop Go.Stop Go.Extern

/-! Making a store that keeps each state whole. -/
theorem wpList_build {P : Program} {ops : Array Oper} {rest : List Oper} {op : Oper} {a : Act} {w : World} {Q : Exit → Act → World → Prop} (hgd : op.guard = none) (t : TypeId) (ps : Array (Nat × Operand)) (ho : op.op = .build t ps) (parts : Array (Nat × Value)) (hp : (ps.map fun (i, x) => (i, a.eval x)) = parts) (cells : Array Value)
    (hr : (Instr.build t parts).run P w = .ok (.agg cells) w) (h : wpList P ops Q rest (a.put op.dst (.agg cells)) w) : wpList P ops Q (op :: rest) a w := by
  refine wpList_plain hgd fun K hK => ?_
  unfold Oper.wp execOp
  simp only [ho, hp, Sem.run_bind, hr, Result.andThen_ok, Sem.run_pure]
  exact hK _ _ h
set_option maxRecDepth 10000 in
set_option maxHeartbeats 1600000 in
theorem newFull_any (C : List Value) (win : Nat) (w : World) (hC : C.length = 291) (hw : win ≤ 100) :
    Calls Tryz.prog 113 #[.agg C.toArray, .int .i64 (win : Int)] w fun e w' => ∃ sb rb, e = .returned (.pointer (some ⟨sb, 0, none⟩)) ∧ w.heap.size ≤ rb ∧ rb < sb ∧ Blk w' sb (C ++ [Value.slice (some ⟨rb, 0, none⟩) win win]).toArray 257 ∧ (∃ D, Blk w' rb D 106 ∧ D.size = win * 288) ∧ Below w.heap.size w w' := by
  have bB : Below w.heap.size w (w.alloc (.cells C.toArray 228)) := (Below.refl _ w).alloc (Nat.le_refl _) _
  have xB : Blk (w.alloc (.cells C.toArray 228)) w.heap.size C.toArray 228 := Blk.new _ _ _
  have hsz : (Tryz.prog.info? 228).map (·.size) = some C.length := by rw [hC]; exact (zero_of_info Tryz.infoPast).2
  go_enter Tryz.func113, Tryz.ntmps113
  go_wp2_with fail
  generalize w.alloc (.cells C.toArray 228) = W1 at *
  have hr1 : W1.rangeAt w.heap.size 0 C := Blk.rangeAt (a := []) (c := []) (by simpa using xB)
  refine wp_region_noPanic ?_
  refine wp_held_tail 2 3 (fun W' => W'.rangeAt w.heap.size 0 C) (by kernel_rfl) (by decide) (by kernel_rfl) (by kernel_rfl) (by kernel_rfl) (fun _ _ _ _ _ h => h) ((World.rangeAt_drew _ _ _ _).2 hr1) ?_
  simp only [List.take_succ_cons, List.take_zero, List.drop_succ_cons, List.drop_zero]
  refine wpHeld_load_mid rfl 228 _ rfl w.heap.size 0 rfl C _ (fun w' hS => hS) Tryz.underlying228 rfl hsz ?_
  refine wpHeld_op ?y1 rfl ?z1 ?_
  case z1 => intro w' hS; go_simp; rfl
  unfold wpHeld
  refine wpAnyH_all (rs := [2]) (by kernel_rfl) (by simp) ?_
  intro j hj
  obtain rfl : j = 2 := by simpa using hj
  refine wpOp_of_list _ rfl rfl ?_
  go_wp2_with fail
  refine (ringMem_any win W1.drew (by omega)).mono ?_
  rintro e w2 ⟨rb, rfl, hrb, ⟨D, hD, hDs⟩, hb2⟩
  have hB2 : Below W1.heap.size W1 w2 := ⟨hb2.os, hb2.tape, hb2.output, hb2.size, hb2.block⟩
  go_wp2_with fail
  refine ⟨rangeAt_same hr1 (hB2.block _ xB.lt), ⟨by kernel_rfl, ?_⟩⟩
  have hbd := build_st 257 _ Tryz.infoFull Tryz.underlying257 (by kernel_rfl) C hC (.slice (some ⟨rb, 0, none⟩) win win)
  have hdl := hD.lt
  have H2 := hide (And.intro hB2 (And.intro hD (And.intro hDs (And.intro bB hrb))))
  clear hB2 hD hDs hb2 hr1 xB bB hrb
  generalize hE : C ++ [Value.slice (some ⟨rb, 0, none⟩) win win] = E at *
  change wpList _ _ _ _ _ _
  go_simp
  refine wpList_build rfl 257 _ rfl #[(0, .agg C.toArray), (1, .agg #[.slice (some ⟨rb, 0, none⟩) win win])] (by simp [Act.eval]) E.toArray (hbd _) ?_
  clear hbd
  go_wp2_with fail
  refine NoPanic.normal ?_
  go_wp2
  go_ret
  obtain ⟨hB2, hD, hDs, bB, hrb⟩ := unhide H2
  have h1 := bB.size
  have h2 : W1.drew.heap.size = W1.heap.size := rfl
  have hxs := hB2.size
  exact ⟨w2.heap.size, rb, rfl, by omega, hdl, by rw [hE]; exact Blk.new _ _ _, ⟨D, hD.alloc _, hDs⟩, (bB.trans (hB2.mono h1)).alloc (by omega) _⟩
end Go.Proofs.YtandblanpafjoabGreatDoor
