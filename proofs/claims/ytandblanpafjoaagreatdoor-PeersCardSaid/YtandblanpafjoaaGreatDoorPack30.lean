import Derived.Test.YtandblanpafjoaaGreatDoorPack28
import Derived.Test.YtandblanpafjoaaGreatDoorPack29
namespace Go.Proofs.YtandblanpafjoaaGreatDoor
open Go.RowKit Go.Extern.Stop Go.Stop Go.Extern
theorem results_cell_tmp2 {fn : Func} {p u v : Tmp} {ty : TypeId} (h : fn.results = #[.cell p ty, .tmp u, .tmp v]) (tmps : Array Value) (P : Program) (w : World) :
    (results fn tmps).run P w =
      ((asAddr (tmps.getD p undef)).run P w).andThen fun a w₁ => ((loadVar ty a).run P w₁).andThen fun x w₂ => .ok (.tuple #[x, tmps.getD u undef, tmps.getD v undef]) w₂ := by
  simp only [results, h]
  simp [Sem.run_bind, Result.andThen]
theorem ret_cell_tmp2 {P : Program} {W : World} {g : Nat} {cs : Array Value} {t ty : TypeId} {d : TypeDesc} {x y : Value} (hg : Blk W g cs t)
    (hu : P.underlying ty = some d) (hd : (match d with | .struct _ | .array _ _ => true | _ => false) = true) (hi : (P.info? ty).map (·.size) = some cs.size) :
    ((asAddr (.pointer (some ⟨g, 0, none⟩))).run P W).andThen (fun a w₁ => ((loadVar ty a).run P w₁).andThen fun v w₂ => Result.ok (Value.tuple #[v, x, y]) w₂) = Result.ok (Value.tuple #[.agg cs, x, y]) W := by
  simp [asAddr, run_loadVar_row W g t ty cs (0, 0) d hg hu hd hi]
set_option maxRecDepth 10000 in
set_option maxHeartbeats 1600000 in
theorem npeer_any (g p : Nat) (pv : Value) (pb : Nat → Nat) (F : Nat → Prop) (m : NetM) (w : World) (h : NetQ w g pv pb F m) (hp : p < m.players) :
    Calls Tryz.prog 72 #[.pointer (some ⟨g, 0, none⟩), .int .i64 (p : Int)] w fun e w' => e = .returned (.tuple #[.agg (stands (m.peers p) m.players m.players), .nilIface]) ∧ Below w.heap.size w w' := by
  have hz := Tryz.zeroPs
  have bB : Below w.heap.size w (w.alloc (.cells zPs 98)) := (Below.refl _ w).alloc (Nat.le_refl _) _
  have xB : Blk (w.alloc (.cells zPs 98)) w.heap.size zPs 98 := Blk.new _ _ _
  have HN := hide (h.below bB)
  have hzB : (w.alloc (.cells zPs 98)).heap.size = w.heap.size + 1 := by simp
  clear h
  go_enter Tryz.func72, Tryz.ntmps72
  go_wp2_with fail
  generalize w.alloc (.cells zPs 98) = W1 at *
  have HX := hide (And.intro bB (And.intro xB hzB))
  clear bB xB hz hzB
  refine (npeer_yes g p pv pb F m W1 (unhide HN) hp).mono ?_
  rintro e w1 ⟨rfl, rfl⟩
  go_wp2_with fail
  obtain ⟨Fp, FS, v, st, hP, hlt⟩ := (unhide HN).atLt hp
  refine (stands_any (pb p) p m.players m.window m.delay Fp FS (m.peers p) v st w1 hP hlt).mono ?_
  clear hP hlt
  rintro e w2 ⟨rfl, hb2⟩
  have x2 : Blk w2 w.heap.size zPs 98 := (hb2.block _ (by have := (unhide HX).2.2; omega)).trans (unhide HX).2.1
  have H2 := hide hb2
  have hsz : (Tryz.prog.info? 98).map (·.size) = some (stands (m.peers p) m.players m.players).size := Tryz.sizePs
  clear hb2
  generalize hst : stands (m.peers p) m.players m.players = sv at *
  have hone : sv.all (·.oneCell') = true := by rw [← hst]; exact stands_one _ _ _
  have hss : zPs.size = sv.size := by rw [← hst]; rfl
  have HST := hide hst
  clear hst
  go_wp2_with (refine wpList_store_blk rfl 98 _ _ rfl w.heap.size 98 zPs sv rfl rfl x2 hsz hss hone ?_)
  refine bodyPost_ret (v := .tuple #[.agg sv, .nilIface]) ?_ rfl ⟨by rw [unhide HST], ?_⟩
  · rw [results_cell_tmp Tryz.results72]
    exact ret_cell_tmp (x2.setRow _) Tryz.underlying98 rfl hsz
  · exact below_setRow ((unhide HX).1.trans ((unhide H2).mono (unhide HX).1.size)) (Nat.le_refl _) _
set_option maxRecDepth 10000 in
set_option maxHeartbeats 1600000 in
theorem pppeer_any (g p : Nat) (pv : Value) (pb : Nat → Nat) (F : Nat → Prop) (m : NetM) (w : World) (h : NetQ w g pv pb F m) (hp : p < m.players) :
    Calls Tryz.prog 48 #[.pointer (some ⟨g, 0, none⟩), .int .i64 (p : Int)] w fun e w' => e = .returned (.tuple #[.agg (stands (m.peers p) m.players m.players), .int .i64 0, .int .i64 (-1)]) ∧ Below w.heap.size w w' := by
  have hz := Tryz.zeroPs
  have bB : Below w.heap.size w (w.alloc (.cells zPs 98)) := (Below.refl _ w).alloc (Nat.le_refl _) _
  have xB : Blk (w.alloc (.cells zPs 98)) w.heap.size zPs 98 := Blk.new _ _ _
  have HN := hide (h.below bB)
  have hzB : (w.alloc (.cells zPs 98)).heap.size = w.heap.size + 1 := by simp
  clear h
  go_enter Tryz.func48, Tryz.ntmps48
  go_wp2_with fail
  generalize w.alloc (.cells zPs 98) = W1 at *
  have HX := hide (And.intro bB (And.intro xB hzB))
  clear bB xB hzB
  refine (npeer_any g p pv pb F m W1 (unhide HN) hp).mono ?_
  rintro e w1 ⟨rfl, hb1⟩
  have x1 : Blk w1 w.heap.size zPs 98 := (hb1.block _ (by have := (unhide HX).2.2; omega)).trans (unhide HX).2.1
  have z1 : w.heap.size < w1.heap.size := x1.lt
  have hsz : (Tryz.prog.info? 98).map (·.size) = some (stands (m.peers p) m.players m.players).size := Tryz.sizePs
  generalize hst : stands (m.peers p) m.players m.players = sv at *
  have hone : sv.all (·.oneCell') = true := by rw [← hst]; exact stands_one _ _ _
  have hss : zPs.size = sv.size := by rw [← hst]; rfl
  have HST := hide hst
  clear hst
  have x2 : Blk (w1.alloc (.cells zPs 98)) w1.heap.size zPs 98 := Blk.new _ _ _
  have x3 : Blk ((w1.alloc (.cells zPs 98)).setRow w1.heap.size sv) w1.heap.size sv 98 := x2.setRow _
  have b3 : Below w1.heap.size w1 ((w1.alloc (.cells zPs 98)).setRow w1.heap.size sv) := below_setRow ((Below.refl _ w1).alloc (Nat.le_refl _) _) (Nat.le_refl _) _
  have y3 : Blk ((w1.alloc (.cells zPs 98)).setRow w1.heap.size sv) w.heap.size zPs 98 := (b3.block _ z1).trans x1
  have HY := hide (And.intro x3 (And.intro b3 (And.intro y3 hb1)))
  clear x3 b3 y3 hb1 x1
  go_wp2_with (refine wpList_store_blk rfl 98 _ _ rfl w1.heap.size 98 zPs sv rfl rfl x2 hsz hss hone ?_)
  generalize (w1.alloc (.cells zPs 98)).setRow w1.heap.size sv = W3 at *
  clear x2
  refine (told_nil W3).mono ?_
  rintro e w4 ⟨rfl, hb4⟩
  obtain ⟨x3, b3, y3, hb1⟩ := unhide HY
  have x4 : Blk w4 w1.heap.size sv 98 := (hb4.block _ x3.lt).trans x3
  have y4 : Blk w4 w.heap.size zPs 98 := (hb4.block _ y3.lt).trans y3
  have H4 := hide (And.intro hb4 (And.intro b3 hb1))
  clear hb4 b3 hb1 x3 y3
  go_wp2_with (first | (refine wpList_load_blk rfl 98 _ rfl w1.heap.size rfl 98 sv _ x4 Tryz.underlying98 rfl hsz ?_) | (refine wpList_store_blk rfl 98 _ _ rfl w.heap.size 98 zPs sv rfl rfl y4 hsz hss hone ?_))
  refine bodyPost_ret (v := .tuple #[.agg sv, .int .i64 0, .int .i64 (-1)]) ?_ rfl ⟨by rw [unhide HST], ?_⟩
  · rw [results_cell_tmp2 Tryz.results48]
    exact ret_cell_tmp2 (y4.setRow _) Tryz.underlying98 rfl hsz
  · obtain ⟨hb4, b3, hb1⟩ := unhide H4
    have q1 := (unhide HX).1
    have q2 := q1.trans (hb1.mono q1.size)
    have q3 := q2.trans (b3.mono q2.size)
    exact below_setRow (q3.trans (hb4.mono q3.size)) (Nat.le_refl _) _
set_option maxHeartbeats 800000 in
theorem nsum_yes (g p f : Nat) (pv : Value) (pb : Nat → Nat) (F : Nat → Prop) (m : NetM) (w : World) (h : NetQ w g pv pb F m) (hp : p < m.players) (h1 : (m.peers p).frame - m.window ≤ f) (h2 : f ≤ (m.peers p).frame) :
    Calls Tryz.prog 73 #[.pointer (some ⟨g, 0, none⟩), .int .i64 (p : Int), .int .i64 (f : Int)] w fun e w' => e = .returned (.tuple #[.int .u32 (digL (stF m.players (insM (m.peers p) m.players) f)), .nilIface]) ∧ Below w.heap.size w w' := by
  obtain ⟨Fp, FS, v, st, hP⟩ := h.at hp
  have HP := hide hP
  clear hP
  go_enter Tryz.func73, Tryz.ntmps73
  go_wp2_with fail
  refine (npeer_yes g p pv pb F m w h hp).mono ?_
  clear h
  rintro e w1 ⟨rfl, rfl⟩
  go_wp2_with fail
  refine (sum_yes (pb p) p m.players m.window m.delay f Fp FS (m.peers p) v st w1 (unhide HP) h1 h2).mono ?_
  rintro e w2 ⟨rfl, hb2⟩
  go_wp2
  go_ret2
  exact ⟨rfl, hb2⟩
set_option maxHeartbeats 800000 in
theorem ppsum_yes (g p f : Nat) (pv : Value) (pb : Nat → Nat) (F : Nat → Prop) (m : NetM) (w : World) (h : NetQ w g pv pb F m) (hp : p < m.players) (h1 : (m.peers p).frame - m.window ≤ f) (h2 : f ≤ (m.peers p).frame) :
    Calls Tryz.prog 50 #[.pointer (some ⟨g, 0, none⟩), .int .i64 (p : Int), .int .i64 (f : Int)] w fun e w' => e = .returned (.tuple #[.int .u32 (digL (stF m.players (insM (m.peers p) m.players) f)), .int .i64 0, .int .i64 (-1)]) ∧ Below w.heap.size w w' := by
  have HN := hide h
  clear h
  go_enter Tryz.func50, Tryz.ntmps50
  go_wp2_with fail
  refine (nsum_yes g p f pv pb F m w (unhide HN) hp h1 h2).mono ?_
  rintro e w2 ⟨rfl, hb2⟩
  go_wp2_with fail
  refine (told_nil w2).mono ?_
  rintro e w3 ⟨rfl, hb3⟩
  go_wp2
  go_ret3
  exact ⟨rfl, hb2.trans (hb3.mono hb2.size)⟩
set_option maxHeartbeats 800000 in
theorem nsum_no (g p : Nat) (f : Int) (pv : Value) (pb : Nat → Nat) (F : Nat → Prop) (m : NetM) (w : World) (h : NetQ w g pv pb F m) (hp : p < m.players) (hf : f < 0 ∨ ((m.peers p).frame : Int) < f ∨ f < ((m.peers p).frame : Int) - (m.window : Int)) :
    Calls Tryz.prog 73 #[.pointer (some ⟨g, 0, none⟩), .int .i64 (p : Int), .int .i64 f] w fun e w' => ∃ g, e = .returned (.tuple #[.int .u32 0, .iface 149 (.pointer (some ⟨g, 0, none⟩))]) ∧ w.heap.size ≤ g ∧ w'.cell? ⟨g, 0, none⟩ = some (.int .i64 (p : Int)) ∧ w'.cell? ⟨g, 1, none⟩ = some (.int .i64 6) ∧ Below w.heap.size w w' := by
  obtain ⟨Fp, FS, v, st, hP⟩ := h.at hp
  have HP := hide hP
  clear hP
  go_enter Tryz.func73, Tryz.ntmps73
  go_wp2_with fail
  refine (npeer_yes g p pv pb F m w h hp).mono ?_
  clear h
  rintro e w1 ⟨rfl, rfl⟩
  go_wp2_with fail
  refine (sum_no (pb p) p m.players m.window m.delay f Fp FS (m.peers p) v st w1 (unhide HP) hf).mono ?_
  rintro e w2 ⟨g2, rfl, hg1, hg2, hg3, hb2⟩
  go_wp2
  go_ret2
  exact ⟨g2, rfl, hg1, hg2, hg3, hb2⟩
set_option maxHeartbeats 800000 in
theorem ppsum_no (g p : Nat) (f : Int) (pv : Value) (pb : Nat → Nat) (F : Nat → Prop) (m : NetM) (w : World) (hgL : Laid w) (h : NetQ w g pv pb F m) (hp : p < m.players) (hf : f < 0 ∨ ((m.peers p).frame : Int) < f ∨ f < ((m.peers p).frame : Int) - (m.window : Int)) :
    Calls Tryz.prog 50 #[.pointer (some ⟨g, 0, none⟩), .int .i64 (p : Int), .int .i64 f] w fun e w' => e = .returned (.tuple #[.int .u32 0, .int .i64 6, .int .i64 (p : Int)]) ∧ Below w.heap.size w w' := by
  have HN := hide h
  clear h
  go_enter Tryz.func50, Tryz.ntmps50
  go_wp2_with fail
  refine (nsum_no g p f pv pb F m w (unhide HN) hp hf).mono ?_
  rintro e w2 ⟨g2, rfl, hg1, hg2, hg3, hb2⟩
  go_wp2_with fail
  refine (told_peer g2 (p : Int) 6 w2 (hgL.below hgL.lt hb2) hg2 hg3).mono ?_
  rintro e w3 ⟨rfl, hb3⟩
  go_wp2
  go_ret3
  exact ⟨rfl, hb2.trans (hb3.mono hb2.size)⟩
def tookV (m : NetM) (p : Nat) (l : List Int) : Value := if (m.take p l).1 = true then .tuple #[.int .i64 0, .int .i64 (-1)] else .tuple #[.int .i64 5, .int .i64 (p : Int)]
set_option maxHeartbeats 800000 in
theorem nhand_any (g : Nat) (pv : Value) (pb : Nat → Nat) (F : Nat → Prop) (m : NetM) (w : World) (h : NetQ w g pv pb F m) (p bb o L c : Nat) (l : List Int) (hp : p < m.players) (hl : l.length = L) (hn : L ≤ 70000) (hcap : L ≤ c) (hr : ∀ j : Nat, 0 ≤ l.getD j 0 ∧ l.getD j 0 ≤ 255) (hcells : ∀ j, j < L → w.cell? ⟨bb, o + j, none⟩ = some (.int .u8 (l.getD j 0))) (hbb : bb < w.heap.size) (hdrop : (m.peers p).dropped + 1 ≤ 1000000000) :
    Calls Tryz.prog 66 #[.pointer (some ⟨g, 0, none⟩), .int .i64 (p : Int), .slice (some ⟨bb, o, none⟩) L c] w fun e w' => Chg F w w' ∧ ∃ F', NetQ w' g pv pb F' (m.take p l).2 ∧ (∀ k, F' k → F k ∨ w.heap.size ≤ k) ∧ (((m.take p l).1 = true ∧ e = .returned .nilIface) ∨ ((m.take p l).1 = false ∧ FaultAt w' e w.heap.size p 5)) := by
  have HH := hide (And.intro hr hcells)
  have HN := hide h
  clear hr hcells h
  go_enter Tryz.func66, Tryz.ntmps66
  go_wp2_with fail
  refine (npeer_yes g p pv pb F m w (unhide HN) hp).mono ?_
  rintro e w1 ⟨rfl, rfl⟩
  go_wp2_with fail
  refine (ntake_any g pv pb F m w1 (unhide HN) p bb o L c l hp hl hn hcap (unhide HH).1 (unhide HH).2 hbb hdrop).mono ?_
  rintro e w2 ⟨hC, F2, hQ, hF2, hcase⟩
  have H2 := hide (And.intro hC (And.intro hQ hF2))
  clear hC hQ hF2
  rcases hcase with ⟨ht, rfl⟩ | ⟨ht, g2, rfl, hg2, c0, c1⟩
  · have HT := hide ht
    clear ht
    go_wp2
    go_ret
    obtain ⟨hC, hQ, hF2⟩ := unhide H2
    exact ⟨hC, F2, hQ, hF2, .inl ⟨unhide HT, rfl⟩⟩
  · have HT := hide ht
    clear ht
    go_wp2
    go_ret
    obtain ⟨hC, hQ, hF2⟩ := unhide H2
    exact ⟨hC, F2, hQ, hF2, .inr ⟨unhide HT, g2, rfl, hg2, c0, c1⟩⟩
set_option maxHeartbeats 800000 in
theorem pphand_any (g : Nat) (pv : Value) (pb : Nat → Nat) (F : Nat → Prop) (m : NetM) (w : World) (hgL : Laid w) (h : NetQ w g pv pb F m) (hFg : ∀ k, F k → 1 ≤ k) (p bb o L c : Nat) (l : List Int) (hp : p < m.players) (hl : l.length = L) (hn : L ≤ 70000) (hcap : L ≤ c) (hr : ∀ j : Nat, 0 ≤ l.getD j 0 ∧ l.getD j 0 ≤ 255) (hcells : ∀ j, j < L → w.cell? ⟨bb, o + j, none⟩ = some (.int .u8 (l.getD j 0))) (hbb : bb < w.heap.size) (hdrop : (m.peers p).dropped + 1 ≤ 1000000000) :
    Calls Tryz.prog 40 #[.pointer (some ⟨g, 0, none⟩), .int .i64 (p : Int), .slice (some ⟨bb, o, none⟩) L c] w fun e w' => e = .returned (tookV m p l) ∧ Chg F w w' ∧ ∃ F', NetQ w' g pv pb F' (m.take p l).2 ∧ (∀ k, F' k → F k ∨ w.heap.size ≤ k) := by
  have HH := hide (And.intro hr hcells)
  have HN := hide h
  clear hr hcells h
  go_enter Tryz.func40, Tryz.ntmps40
  go_wp2_with fail
  refine (nhand_any g pv pb F m w (unhide HN) p bb o L c l hp hl hn hcap (unhide HH).1 (unhide HH).2 hbb hdrop).mono ?_
  rintro e w2 ⟨hC, F2, hQ, hF2, hcase⟩
  have H2 := hide (And.intro hC (And.intro hQ hF2))
  have hL2 := hgL
  clear hC hQ hF2
  rcases hcase with ⟨ht, rfl⟩ | ⟨ht, g2, rfl, hg2, c0, c1⟩
  · have HT := hide ht
    clear ht
    go_wp2_with fail
    refine (told_nil w2).mono ?_
    rintro e w3 ⟨rfl, hb3⟩
    go_wp2
    go_ret2
    obtain ⟨hC, hQ, hF2⟩ := unhide H2
    exact ⟨by rw [tookV, if_pos (unhide HT)]; rfl, hC.thenBelow (hb3.mono hC.size), F2, hQ.below hb3, hF2⟩
  · have HT := hide ht
    clear ht
    go_wp2_with fail
    refine (told_peer g2 (p : Int) 5 w2 (hgL.below (B := 1) (by omega) ((unhide H2).1.toBelow hgL.lt hFg)) c0 c1).mono ?_
    rintro e w3 ⟨rfl, hb3⟩
    go_wp2
    go_ret2
    obtain ⟨hC, hQ, hF2⟩ := unhide H2
    exact ⟨by rw [tookV, if_neg (by rw [unhide HT]; simp)]; rfl, hC.thenBelow (hb3.mono hC.size), F2, hQ.below hb3, hF2⟩
end Go.Proofs.YtandblanpafjoaaGreatDoor

namespace Go.Proofs.YtandblanpafjoaaGreatDoor
open Go.RowKit Go.Extern.Stop Go.Stop Go.Extern
def NoP (m : NetM) (p : Int) : Prop := p < 0 ∨ (m.players : Int) ≤ p
theorem npeer_no (g : Nat) (p : Int) (pv : Value) (pb : Nat → Nat) (F : Nat → Prop) (m : NetM) (w : World) (h : NetQ w g pv pb F m) (hp : NoP m p) :
    Calls Tryz.prog 82 #[.pointer (some ⟨g, 0, none⟩), .int .i64 p] w fun e w' => e = .returned (.tuple #[.pointer none, .iface 51 (.int .i64 2)]) ∧ w' = w := by
  obtain ⟨rb, cap, rfl, c0, hc, _, hn4⟩ := h.parts
  unfold NoP at hp
  generalize m.players = n at *
  clear h hc
  go_enter Tryz.func82, Tryz.ntmps82
  by_cases h0 : p < 0
  · have d1 : decide (p < 0) = true := by simp; omega
    go_wp2
    go_ret2
    exact ⟨rfl, rfl⟩
  · have d1 : decide (p < 0) = false := by simp; omega
    have d2 : decide ((n : Int) ≤ p) = true := by simp; omega
    go_wp2
    go_ret2
    exact ⟨rfl, rfl⟩
theorem nadvance_bad (g : Nat) (p i : Int) (pv : Value) (pb : Nat → Nat) (F : Nat → Prop) (m : NetM) (w : World) (h : NetQ w g pv pb F m) (hp : NoP m p) :
    Calls Tryz.prog 57 #[.pointer (some ⟨g, 0, none⟩), .int .i64 p, .int .u8 i] w fun e w' => e = .returned (.iface 51 (.int .i64 2)) ∧ w' = w := by
  have hcall := npeer_no g p pv pb F m w h hp
  clear h hp
  go_enter Tryz.func57, Tryz.ntmps57
  go_wp2_with fail
  refine hcall.mono ?_
  clear hcall
  rintro e w1 ⟨rfl, rfl⟩
  go_wp2
  go_ret
  exact ⟨rfl, rfl⟩
theorem ppadv_bad (g : Nat) (p i : Int) (pv : Value) (pb : Nat → Nat) (F : Nat → Prop) (m : NetM) (w : World) (hgL : Laid w) (h : NetQ w g pv pb F m) (hp : NoP m p) :
    Calls Tryz.prog 27 #[.pointer (some ⟨g, 0, none⟩), .int .i64 p, .int .u8 i] w fun e w' => e = .returned (.tuple #[.int .i64 2, .int .i64 (-1)]) ∧ Below w.heap.size w w' := by
  have hcall := nadvance_bad g p i pv pb F m w h hp
  clear h hp
  go_enter Tryz.func27, Tryz.ntmps27
  go_wp2_with fail
  refine hcall.mono ?_
  clear hcall
  rintro e w1 ⟨rfl, rfl⟩
  go_wp2_with fail
  refine (told_kind 2 w1 hgL).mono ?_
  rintro e w3 ⟨rfl, hb3⟩
  go_wp2
  go_ret2
  exact ⟨rfl, hb3⟩
theorem nhand_bad (g : Nat) (p : Int) (sv : Value) (pv : Value) (pb : Nat → Nat) (F : Nat → Prop) (m : NetM) (w : World) (h : NetQ w g pv pb F m) (hp : NoP m p) :
    Calls Tryz.prog 66 #[.pointer (some ⟨g, 0, none⟩), .int .i64 p, sv] w fun e w' => e = .returned (.iface 51 (.int .i64 2)) ∧ w' = w := by
  have hcall := npeer_no g p pv pb F m w h hp
  clear h hp
  go_enter Tryz.func66, Tryz.ntmps66
  go_wp2_with fail
  refine hcall.mono ?_
  clear hcall
  rintro e w1 ⟨rfl, rfl⟩
  go_wp2
  go_ret
  exact ⟨rfl, rfl⟩
theorem pphand_bad (g : Nat) (p : Int) (sv : Value) (pv : Value) (pb : Nat → Nat) (F : Nat → Prop) (m : NetM) (w : World) (hgL : Laid w) (h : NetQ w g pv pb F m) (hp : NoP m p) :
    Calls Tryz.prog 40 #[.pointer (some ⟨g, 0, none⟩), .int .i64 p, sv] w fun e w' => e = .returned (.tuple #[.int .i64 2, .int .i64 (-1)]) ∧ Below w.heap.size w w' := by
  have hcall := nhand_bad g p sv pv pb F m w h hp
  clear h hp
  go_enter Tryz.func40, Tryz.ntmps40
  go_wp2_with fail
  refine hcall.mono ?_
  clear hcall
  rintro e w1 ⟨rfl, rfl⟩
  go_wp2_with fail
  refine (told_kind 2 w1 hgL).mono ?_
  rintro e w3 ⟨rfl, hb3⟩
  go_wp2
  go_ret2
  exact ⟨rfl, hb3⟩
theorem nmemory_bad (g : Nat) (p : Int) (pv : Value) (pb : Nat → Nat) (F : Nat → Prop) (m : NetM) (w : World) (h : NetQ w g pv pb F m) (hp : NoP m p) :
    Calls Tryz.prog 67 #[.pointer (some ⟨g, 0, none⟩), .int .i64 p] w fun e w' => e = .returned (.tuple #[.slice none 0 0, .iface 51 (.int .i64 2)]) ∧ w' = w := by
  have hcall := npeer_no g p pv pb F m w h hp
  clear h hp
  go_enter Tryz.func67, Tryz.ntmps67
  go_wp2_with fail
  refine hcall.mono ?_
  clear hcall
  rintro e w1 ⟨rfl, rfl⟩
  go_wp2
  go_ret2
  exact ⟨rfl, rfl⟩
theorem ppmem_bad (g : Nat) (p : Int) (pv : Value) (pb : Nat → Nat) (F : Nat → Prop) (m : NetM) (w : World) (hgL : Laid w) (h : NetQ w g pv pb F m) (hp : NoP m p) :
    Calls Tryz.prog 44 #[.pointer (some ⟨g, 0, none⟩), .int .i64 p] w fun e w' => e = .returned (.tuple #[.slice none 0 0, .int .i64 2, .int .i64 (-1)]) ∧ Below w.heap.size w w' := by
  have hcall := nmemory_bad g p pv pb F m w h hp
  clear h hp
  go_enter Tryz.func44, Tryz.ntmps44
  go_wp2_with fail
  refine hcall.mono ?_
  clear hcall
  rintro e w1 ⟨rfl, rfl⟩
  go_wp2_with fail
  refine (told_kind 2 w1 hgL).mono ?_
  rintro e w3 ⟨rfl, hb3⟩
  go_wp2
  go_ret3
  exact ⟨rfl, hb3⟩
theorem nsum_bad (g : Nat) (p f : Int) (pv : Value) (pb : Nat → Nat) (F : Nat → Prop) (m : NetM) (w : World) (h : NetQ w g pv pb F m) (hp : NoP m p) :
    Calls Tryz.prog 73 #[.pointer (some ⟨g, 0, none⟩), .int .i64 p, .int .i64 f] w fun e w' => e = .returned (.tuple #[.int .u32 0, .iface 51 (.int .i64 2)]) ∧ w' = w := by
  have hcall := npeer_no g p pv pb F m w h hp
  clear h hp
  go_enter Tryz.func73, Tryz.ntmps73
  go_wp2_with fail
  refine hcall.mono ?_
  clear hcall
  rintro e w1 ⟨rfl, rfl⟩
  go_wp2
  go_ret2
  exact ⟨rfl, rfl⟩
theorem ppsum_bad (g : Nat) (p f : Int) (pv : Value) (pb : Nat → Nat) (F : Nat → Prop) (m : NetM) (w : World) (hgL : Laid w) (h : NetQ w g pv pb F m) (hp : NoP m p) :
    Calls Tryz.prog 50 #[.pointer (some ⟨g, 0, none⟩), .int .i64 p, .int .i64 f] w fun e w' => e = .returned (.tuple #[.int .u32 0, .int .i64 2, .int .i64 (-1)]) ∧ Below w.heap.size w w' := by
  have hcall := nsum_bad g p f pv pb F m w h hp
  clear h hp
  go_enter Tryz.func50, Tryz.ntmps50
  go_wp2_with fail
  refine hcall.mono ?_
  clear hcall
  rintro e w1 ⟨rfl, rfl⟩
  go_wp2_with fail
  refine (told_kind 2 w1 hgL).mono ?_
  rintro e w3 ⟨rfl, hb3⟩
  go_wp2
  go_ret3
  exact ⟨rfl, hb3⟩
end Go.Proofs.YtandblanpafjoaaGreatDoor

namespace Go.Proofs.YtandblanpafjoaaGreatDoor
open Go.RowKit Go.Extern.Stop Go.Stop Go.Extern
set_option maxRecDepth 10000 in
set_option maxHeartbeats 1600000 in
theorem npeer_bad (g : Nat) (p : Int) (pv : Value) (pb : Nat → Nat) (F : Nat → Prop) (m : NetM) (w : World) (h : NetQ w g pv pb F m) (hp : NoP m p) :
    Calls Tryz.prog 72 #[.pointer (some ⟨g, 0, none⟩), .int .i64 p] w fun e w' => e = .returned (.tuple #[.agg zPs, .iface 51 (.int .i64 2)]) ∧ Below w.heap.size w w' := by
  have hz := Tryz.zeroPs
  have bB : Below w.heap.size w (w.alloc (.cells zPs 98)) := (Below.refl _ w).alloc (Nat.le_refl _) _
  have xB : Blk (w.alloc (.cells zPs 98)) w.heap.size zPs 98 := Blk.new _ _ _
  have HN := hide (h.below bB)
  have hsz : (Tryz.prog.info? 98).map (·.size) = some zPs.size := Tryz.sizePs
  clear h
  go_enter Tryz.func72, Tryz.ntmps72
  go_wp2_with fail
  generalize w.alloc (.cells zPs 98) = W1 at *
  have HX := hide (And.intro bB xB)
  clear bB
  refine (npeer_no g p pv pb F m W1 (unhide HN) hp).mono ?_
  rintro e w1 ⟨rfl, rfl⟩
  go_wp2_with (refine wpList_store_blk rfl 98 _ _ rfl w.heap.size 98 zPs zPs rfl rfl xB hsz rfl (by kernel_rfl) ?_)
  refine bodyPost_ret (v := .tuple #[.agg zPs, .iface 51 (.int .i64 2)]) ?_ rfl ⟨rfl, ?_⟩
  · rw [results_cell_tmp Tryz.results72]
    exact ret_cell_tmp (xB.setRow _) Tryz.underlying98 rfl hsz
  · exact below_setRow (unhide HX).1 (Nat.le_refl _) _
set_option maxRecDepth 10000 in
set_option maxHeartbeats 1600000 in
theorem pppeer_bad (g : Nat) (p : Int) (pv : Value) (pb : Nat → Nat) (F : Nat → Prop) (m : NetM) (w : World) (hgL : Laid w) (h : NetQ w g pv pb F m) (hp : NoP m p) :
    Calls Tryz.prog 48 #[.pointer (some ⟨g, 0, none⟩), .int .i64 p] w fun e w' => e = .returned (.tuple #[.agg zPs, .int .i64 2, .int .i64 (-1)]) ∧ Below w.heap.size w w' := by
  have hz := Tryz.zeroPs
  have bB : Below w.heap.size w (w.alloc (.cells zPs 98)) := (Below.refl _ w).alloc (Nat.le_refl _) _
  have xB : Blk (w.alloc (.cells zPs 98)) w.heap.size zPs 98 := Blk.new _ _ _
  have HN := hide (h.below bB)
  have hzB : (w.alloc (.cells zPs 98)).heap.size = w.heap.size + 1 := by simp
  have HL := hide (hgL.below hgL.lt bB)
  clear h
  go_enter Tryz.func48, Tryz.ntmps48
  go_wp2_with fail
  generalize w.alloc (.cells zPs 98) = W1 at *
  have HX := hide (And.intro bB (And.intro xB hzB))
  clear bB xB hzB
  refine (npeer_bad g p pv pb F m W1 (unhide HN) hp).mono ?_
  rintro e w1 ⟨rfl, hb1⟩
  have x1 : Blk w1 w.heap.size zPs 98 := (hb1.block _ (by have := (unhide HX).2.2; omega)).trans (unhide HX).2.1
  have z1 : w.heap.size < w1.heap.size := x1.lt
  have hsz : (Tryz.prog.info? 98).map (·.size) = some zPs.size := Tryz.sizePs
  have x2 : Blk (w1.alloc (.cells zPs 98)) w1.heap.size zPs 98 := Blk.new _ _ _
  have x3 : Blk ((w1.alloc (.cells zPs 98)).setRow w1.heap.size zPs) w1.heap.size zPs 98 := x2.setRow _
  have b3 : Below w1.heap.size w1 ((w1.alloc (.cells zPs 98)).setRow w1.heap.size zPs) := below_setRow ((Below.refl _ w1).alloc (Nat.le_refl _) _) (Nat.le_refl _) _
  have y3 : Blk ((w1.alloc (.cells zPs 98)).setRow w1.heap.size zPs) w.heap.size zPs 98 := (b3.block _ z1).trans x1
  have hL1 : Laid w1 := (unhide HL).below (unhide HL).lt hb1
  have HY := hide (And.intro x3 (And.intro b3 (And.intro y3 (And.intro hb1 (hL1.below hL1.lt b3)))))
  clear x3 b3 y3 hb1 x1 hL1
  go_wp2_with (refine wpList_store_blk rfl 98 _ _ rfl w1.heap.size 98 zPs zPs rfl rfl x2 hsz rfl (by kernel_rfl) ?_)
  generalize (w1.alloc (.cells zPs 98)).setRow w1.heap.size zPs = W3 at *
  clear x2
  refine (told_kind 2 W3 (unhide HY).2.2.2.2).mono ?_
  rintro e w4 ⟨rfl, hb4⟩
  obtain ⟨x3, b3, y3, hb1, _⟩ := unhide HY
  have x4 : Blk w4 w1.heap.size zPs 98 := (hb4.block _ x3.lt).trans x3
  have y4 : Blk w4 w.heap.size zPs 98 := (hb4.block _ y3.lt).trans y3
  have H4 := hide (And.intro hb4 (And.intro b3 hb1))
  clear hb4 b3 hb1 x3 y3
  go_wp2_with (first | (refine wpList_load_blk rfl 98 _ rfl w1.heap.size rfl 98 zPs _ x4 Tryz.underlying98 rfl hsz ?_) | (refine wpList_store_blk rfl 98 _ _ rfl w.heap.size 98 zPs zPs rfl rfl y4 hsz rfl (by kernel_rfl) ?_))
  refine bodyPost_ret (v := .tuple #[.agg zPs, .int .i64 2, .int .i64 (-1)]) ?_ rfl ⟨rfl, ?_⟩
  · rw [results_cell_tmp2 Tryz.results48]
    exact ret_cell_tmp2 (y4.setRow _) Tryz.underlying98 rfl hsz
  · obtain ⟨hb4, b3, hb1⟩ := unhide H4
    have q1 := (unhide HX).1
    have q2 := q1.trans (hb1.mono q1.size)
    have q3 := q2.trans (b3.mono q2.size)
    exact below_setRow (q3.trans (hb4.mono q3.size)) (Nat.le_refl _) _
end Go.Proofs.YtandblanpafjoaaGreatDoor

