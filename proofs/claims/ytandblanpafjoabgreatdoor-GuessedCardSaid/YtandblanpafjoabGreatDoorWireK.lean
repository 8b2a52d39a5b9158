import Derived.Test.YtandblanpafjoabGreatDoorWireJ
import Derived.Test.YtandblanpafjoabGreatDoorPkZ
import Derived.Deep.QuietTactic
import Derived.BigQuiet
namespace Go.Proofs.YtandblanpafjoabGreatDoor
open Go.RowKit Go.Extern.Stop Go.Stop Go.Extern

/-! Coming. -/
def Z3f : Array Value := #[.int .i64 0, .int .i64 0, .slice none 0 0]
theorem Tryz.sizeFl : (Tryz.prog.info? 66).map (·.size) = some 3 := by kernel_rfl
theorem Tryz.zeroFl (w : World) : (zeroValue 66).run Tryz.prog w = .ok (.agg #[.int .i64 0, .int .i64 0, .slice none 0 0]) w := by kernel_rfl
theorem Tryz.fieldP (a b c d : Value) (w : World) : (Instr.field 127 (.agg #[a, b, c, d]) 0).run Tryz.prog w = .ok (.agg #[a, b, c]) w := by kernel_rfl
def flV (bl : Nat → Nat) (f : FlyM) : Array Value := #[.int .i64 (f.to : Int), .int .i64 (f.due : Int), .slice (some ⟨bl f.num, 0, none⟩) f.bytes.length f.bytes.length]

theorem flV_one (bl : Nat → Nat) (f : FlyM) : (flV bl f).all (·.oneCell') = true := by simp [flV, Value.oneCell']
set_option maxRecDepth 10000 in
set_option maxHeartbeats 1600000 in
theorem come_nil (nb : Nat) (pv : Value) (lags : List Int) (now sent : Nat) (lv wv : Value) (bl : Nat → Nat) (w : World) (h : WireAt w nb pv lags now sent lv wv bl []) :
    Calls Tryz.prog 51 #[.pointer (some ⟨nb, 1, none⟩)] w fun e w' => e = .returned (.tuple #[.agg Z3f, .bool false]) ∧ Below w.heap.size w w' := by
  have hz := Tryz.zeroFl
  have hnl := h.blk.lt
  obtain ⟨ao, c, rfl⟩ := own_nil h.own
  have bB : Below w.heap.size w (w.alloc (.cells Z3f 66)) := (Below.refl _ w).alloc (Nat.le_refl _) _
  have xB : Blk (w.alloc (.cells Z3f 66)) w.heap.size Z3f 66 := Blk.new _ _ _
  have c4 : (w.alloc (.cells Z3f 66)).cell? ⟨nb, 4, none⟩ = some (.slice ao 0 c) := (bB.cell (p := ⟨nb, 4, none⟩) hnl).trans (h.blk.cell 4)
  clear h
  go_enter Tryz.func51, Tryz.ntmps51
  go_wp2_with fail
  rw [show #[Value.int .i64 0, Value.int .i64 0, Value.slice none 0 0] = Z3f from rfl]
  generalize w.alloc (.cells Z3f 66) = W1 at *
  have HX := hide (And.intro bB xB)
  clear bB xB hz
  go_quiet (fail)
  go_wp2_with (refine wpList_store_blk rfl 66 _ _ rfl w.heap.size 66 Z3f Z3f rfl rfl ((unhide HX).2.drewN _) Tryz.sizeFl rfl (by kernel_rfl) ?_)
  refine bodyPost_ret (v := .tuple #[.agg Z3f, .bool false]) ?_ rfl ⟨rfl, ?_⟩
  · rw [results_cell_tmp Tryz.results51]
    exact ret_cell_tmp (((unhide HX).2.drewN _).setRow _) Tryz.underlying66 rfl Tryz.sizeFl
  · exact below_setRow (Go.below_drewN (unhide HX).1 _) (Nat.le_refl _) _
theorem WireAt.qp {w : World} {nb : Nat} {pv : Value} {lags : List Int} {now sent : Nat} {lv wv : Value} {bl : Nat → Nat} {l : List FlyM} (h : WireAt w nb pv lags now sent lv wv bl l) (hl : 0 < l.length) : ∃ g cap, wv = .slice (some ⟨g, 0, none⟩) l.length cap ∧ QP w nb 4 g cap bl l := by
  obtain ⟨g, cap, e, hq⟩ := QAt.ofOwn h.own rfl hl
  refine ⟨g, cap, e, ⟨by rw [h.blk.cell, ← e]; rfl, hq, fun e2 => h.ne (by rw [e, e2]; rfl), h.blk.frozen 4⟩⟩
set_option maxRecDepth 10000 in
set_option maxHeartbeats 1600000 in
theorem come_later (nb n : Nat) (pv : Value) (lags : List Int) (now sent : Nat) (lv wv : Value) (bl : Nat → Nat) (l : List FlyM) (w : World) (h : WireAt w nb pv lags now sent lv wv bl l) (hn : l.length = n + 1) (hd : now < (fl l 0).due) :
    Calls Tryz.prog 51 #[.pointer (some ⟨nb, 1, none⟩)] w fun e w' => e = .returned (.tuple #[.agg Z3f, .bool false]) ∧ Below w.heap.size w w' := by
  have hz := Tryz.zeroFl
  have hnl := h.blk.lt
  obtain ⟨g, cap, rfl, hq⟩ := h.qp (by omega)
  have bB : Below w.heap.size w (w.alloc (.cells Z3f 66)) := (Below.refl _ w).alloc (Nat.le_refl _) _
  have xB : Blk (w.alloc (.cells Z3f 66)) w.heap.size Z3f 66 := Blk.new _ _ _
  have c4 : (w.alloc (.cells Z3f 66)).cell? ⟨nb, 4, none⟩ = some (.slice (some ⟨g, 0, none⟩) (n + 1) cap) := by rw [← hn]; exact (bB.cell (p := ⟨nb, 4, none⟩) hnl).trans (h.blk.cell 4)
  have c2 : (w.alloc (.cells Z3f 66)).cell? ⟨nb, 2, none⟩ = some (.int .i64 (now : Int)) := (bB.cell (p := ⟨nb, 2, none⟩) hnl).trans (h.blk.cell 2)
  have a1 : (w.alloc (.cells Z3f 66)).cell? ⟨g, 1, none⟩ = some (.int .i64 ((fl l 0).due : Int)) := (bB.cell (p := ⟨g, 1, none⟩) hq.q.lt).trans (by have := hq.q.cell 0 1 (by omega) (by omega); simp only [Nat.zero_mul, Nat.zero_add] at this; exact this)
  have d0 : ((n : Int) + 1 == 0) = false := by rw [beq_eq_false_iff_ne]; omega
  have i0 : (0 : Int) < (n : Int) + 1 := by omega
  have d1 : decide (now < (fl l 0).due) = true := by simp [hd]
  generalize (fl l 0).due = due at *
  clear h hq hd
  go_enter Tryz.func51, Tryz.ntmps51
  go_wp2_with fail
  rw [show #[Value.int .i64 0, Value.int .i64 0, Value.slice none 0 0] = Z3f from rfl]
  generalize w.alloc (.cells Z3f 66) = W1 at *
  have HX := hide (And.intro bB xB)
  clear bB xB hz
  go_quiet (fail)
  go_wp2_with (refine wpList_store_blk rfl 66 _ _ rfl w.heap.size 66 Z3f Z3f rfl rfl ((unhide HX).2.drewN _) Tryz.sizeFl rfl (by kernel_rfl) ?_)
  refine bodyPost_ret (v := .tuple #[.agg Z3f, .bool false]) ?_ rfl ⟨rfl, ?_⟩
  · rw [results_cell_tmp Tryz.results51]
    exact ret_cell_tmp (((unhide HX).2.drewN _).setRow _) Tryz.underlying66 rfl Tryz.sizeFl
  · exact below_setRow (Go.below_drewN (unhide HX).1 _) (Nat.le_refl _) _

set_option maxRecDepth 10000 in
set_option maxHeartbeats 1600000 in
theorem come_some (nb n : Nat) (pv : Value) (lags : List Int) (now sent : Nat) (lv wv : Value) (bl : Nat → Nat) (l : List FlyM) (w : World) (h : WireAt w nb pv lags now sent lv wv bl l) (hn : l.length = n + 1) (hlen : n + 1 ≤ 1000000) (hd : (fl l 0).due ≤ now) :
    Calls Tryz.prog 51 #[.pointer (some ⟨nb, 1, none⟩)] w fun e w' => e = .returned (.tuple #[.agg (flV bl (fl l 0)), .bool true]) ∧ ∃ wv', WireAt w' nb pv lags now sent lv wv' bl (popL l) ∧ Chg (fun k => k = nb ∨ wv.ownBlock = some k) w w' ∧ wv'.ownBlock = wv.ownBlock := by
  have hz := Tryz.zeroFl
  have hnl := h.blk.lt
  have HW := hide h
  obtain ⟨g, cap, rfl, hq⟩ := h.qp (by omega)
  have bB : Below w.heap.size w (w.alloc (.cells Z3f 66)) := (Below.refl _ w).alloc (Nat.le_refl _) _
  have xB : Blk (w.alloc (.cells Z3f 66)) w.heap.size Z3f 66 := Blk.new _ _ _
  have c4 : (w.alloc (.cells Z3f 66)).cell? ⟨nb, 4, none⟩ = some (.slice (some ⟨g, 0, none⟩) (n + 1) cap) := by rw [← hn]; exact (bB.cell (p := ⟨nb, 4, none⟩) hnl).trans (h.blk.cell 4)
  have c2 : (w.alloc (.cells Z3f 66)).cell? ⟨nb, 2, none⟩ = some (.int .i64 (now : Int)) := (bB.cell (p := ⟨nb, 2, none⟩) hnl).trans (h.blk.cell 2)
  have a1 : (w.alloc (.cells Z3f 66)).cell? ⟨g, 1, none⟩ = some (.int .i64 ((fl l 0).due : Int)) := (bB.cell (p := ⟨g, 1, none⟩) hq.q.lt).trans (by have := hq.q.cell 0 1 (by omega) (by omega); simp only [Nat.zero_mul, Nat.zero_add] at this; exact this)
  have d0 : ((n : Int) + 1 == 0) = false := by rw [beq_eq_false_iff_ne]; omega
  have i0 : (0 : Int) < (n : Int) + 1 := by omega
  have d1 : decide (now < (fl l 0).due) = false := by simp; omega
  have HQ := hide hq
  clear h hq hd
  go_enter Tryz.func51, Tryz.ntmps51
  go_wp2_with fail
  rw [show #[Value.int .i64 0, Value.int .i64 0, Value.slice none 0 0] = Z3f from rfl]
  generalize w.alloc (.cells Z3f 66) = W1 at *
  have HX := hide (And.intro bB xB)
  clear bB xB hz
  go_quiet (fail)
  clear c4 c2 a1 d1
  go_wp2_with fail
  have Q1 : QP (W1.drewN nq) nb 4 g cap bl l := (unhide HQ).below (Go.below_drewN (unhide HX).1 nq)
  have B1 : Blk (W1.drewN nq) nb #[pv, lv, .int .i64 (now : Int), .int .i64 (sent : Int), .slice (some ⟨g, 0, none⟩) l.length cap] 83 := ((unhide HX).1.block nb hnl).trans (unhide HW).blk
  refine (hpop_any nb 4 g cap n bl l _ _ (W1.drewN nq) B1 Q1 hn hlen).mono ?_
  clear Q1 B1
  rintro e w3 ⟨rfl, hq3, hC3, hB3⟩
  have hta := Tryz.assertP (.agg (pcl bl (fl l 0)).toArray)
  have hgl := (unhide HQ).q.lt
  have x3 : Blk w3 w.heap.size Z3f 66 := ((unhide HX).2.drewN nq).chg hC3 (fun e => by
    rcases e with e | e
    · omega
    · omega)
  have H3 := hide (And.intro hq3 (And.intro hC3 (And.intro hB3 x3)))
  clear hq3 hC3 hB3 x3
  unfold pcl at hta ⊢
  have hfd := Tryz.fieldP (.int .i64 ((fl l 0).to : Int)) (.int .i64 ((fl l 0).due : Int)) (.slice (some ⟨bl (fl l 0).num, 0, none⟩) (fl l 0).bytes.length (fl l 0).bytes.length) (.int .i64 ((fl l 0).num : Int))
  go_wp2_with (refine wpList_store_blk rfl 66 _ _ rfl w.heap.size 66 Z3f (flV bl (fl l 0)) rfl rfl (unhide H3).2.2.2 Tryz.sizeFl rfl (flV_one _ _) ?_)
  obtain ⟨hq3, hC3, hB3, x3⟩ := unhide H3
  have hne := (unhide HQ).ne
  have hW := unhide HW
  have hpl : (popL l).length = n := by
    have := (popL_perm l (by omega)).length_eq
    simp only [List.length_cons] at this
    omega
  have hz3 := (unhide HX).1.size
  have hlv : ∀ k, lv.ownBlock = some k → k ≠ w.heap.size := fun k hk e => by have := (hW.lag.lt k hk).2; omega
  refine bodyPost_ret (v := .tuple #[.agg (flV bl (fl l 0)), .bool true]) ?_ rfl ⟨rfl, .slice (some ⟨g, 0, none⟩) n cap, ⟨?_, ?_, ?_, ?_, hW.lne, ?_⟩, ?_, rfl⟩
  · rw [results_cell_tmp Tryz.results51]
    exact ret_cell_tmp (x3.setRow _) Tryz.underlying66 rfl Tryz.sizeFl
  · exact hB3.setRowOther w.heap.size _ (by omega)
  · have := hq3.own
    rw [hpl] at this ⊢
    refine owns_same this (fun k hk => ?_)
    injection hk with hk
    exact setRow_other _ _ _ _ (by have : g = k := hk; have := (unhide HQ).q.lt; omega)
  · intro e; injection e with e; exact hne e.symm
  · refine owns_same hW.lag (fun k hk => ?_)
    have hkl := (hW.lag.lt k hk).2
    rw [setRow_other _ _ _ _ (by omega)]
    refine (hC3.block k (by show k < W1.heap.size; omega) ?_).trans ((unhide HX).1.block k hkl)
    rintro (e | e)
    · exact hW.lne (by rw [hk, e])
    · exact hW.apart k hk (by rw [e]; rfl)
  · intro k hk e; exact hW.apart k hk e
  · have hC1 : Chg (fun k => k = nb ∨ (Value.slice (some ⟨g, 0, none⟩) l.length cap).ownBlock = some k) w w3 := (Chg.ofBelow (Go.below_drewN (unhide HX).1 nq)).trans hC3 (fun k _ e => e.imp id (fun e => by rw [e]; rfl))
    exact hC1.trans (Chg.ofGrown (F := fun k => k = w.heap.size) (grown_setRow _ _ _) rfl) (fun k hk e => absurd hk (by have : k = w.heap.size := e; omega))
end Go.Proofs.YtandblanpafjoabGreatDoor
