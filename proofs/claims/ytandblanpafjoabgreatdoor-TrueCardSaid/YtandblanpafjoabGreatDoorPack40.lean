import Derived.Test.YtandblanpafjoabGreatDoorPack38
import Derived.Test.YtandblanpafjoabGreatDoorPack39
import Derived.Test.YtandblanpafjoabGreatDoorPack34
namespace Go.Proofs.YtandblanpafjoabGreatDoor
open Go.RowKit Go.Extern.Stop Go.Stop Go.Extern

/-! How a peer stands, a sum, a packet from outside: the net's, and as they are asked from outside. -/
theorem results_cell_tmp2 {fn : Func} {p u v : Tmp} {ty : TypeId} (h : fn.results = #[.cell p ty, .tmp u, .tmp v]) (tmps : Array Value) (P : Program) (w : World) :
    (results fn tmps).run P w =
      ((asAddr (tmps.getD p undef)).run P w).andThen fun a w₁ => ((loadVar ty a).run P w₁).andThen fun x w₂ => .ok (.tuple #[x, tmps.getD u undef, tmps.getD v undef]) w₂ := by
  simp only [results, h]
  simp [Sem.run_bind, Result.andThen]
theorem ret_cell_tmp2 {P : Program} {W : World} {g : Nat} {cs : Array Value} {t ty : TypeId} {d : TypeDesc} {x y : Value} (hg : Blk W g cs t)
    (hu : P.underlying ty = some d) (hd : (match d with | .struct _ | .array _ _ => true | _ => false) = true) (hi : (P.info? ty).map (·.size) = some cs.size) :
    ((asAddr (.pointer (some ⟨g, 0, none⟩))).run P W).andThen (fun a w₁ => ((loadVar ty a).run P w₁).andThen fun v w₂ => Result.ok (Value.tuple #[v, x, y]) w₂) = Result.ok (Value.tuple #[.agg cs, x, y]) W := by
  simp [asAddr, run_loadVar_row W g t ty cs (0, 0) d hg hu hd hi]

set_option maxRecDepth 10000 in
set_option maxHeartbeats 1600000 in
theorem npeer_any (g p : Nat) (pv : Value) (pb : Nat → Nat) (F : Nat → Prop) (m : NetM) (w : World) (h : NetQ w g pv pb F m) (hp : p < m.players) :
    Calls Tryz.prog 25 #[.pointer (some ⟨g, 0, none⟩), .int .i64 (p : Int)] w fun e w' => e = .returned (.tuple #[.agg (stands (m.peers p) m.players m.players), .nilIface]) ∧ Below w.heap.size w w' := by
  have hz := Tryz.zeroPs
  have bB : Below w.heap.size w (w.alloc (.cells zPs 38)) := (Below.refl _ w).alloc (Nat.le_refl _) _
  have xB : Blk (w.alloc (.cells zPs 38)) w.heap.size zPs 38 := Blk.new _ _ _
  have HN := hide (h.below bB)
  have hzB : (w.alloc (.cells zPs 38)).heap.size = w.heap.size + 1 := by simp
  clear h
  go_enter Tryz.func25, Tryz.ntmps25
  go_wp2_with fail
  generalize w.alloc (.cells zPs 38) = W1 at *
  have HX := hide (And.intro bB (And.intro xB hzB))
  clear bB xB hz hzB
  refine (npeer_yes g p pv pb F m W1 (unhide HN) hp).mono ?_
  rintro e w1 ⟨rfl, rfl⟩
  go_wp2_with fail
  obtain ⟨Fp, FS, v, st, hP, hlt⟩ := (unhide HN).atLt hp
  refine (stands_any (pb p) p m.players m.window m.delay Fp FS (m.peers p) v st w1 hP hlt).mono ?_
  clear hP hlt
  rintro e w2 ⟨rfl, hb2⟩
  have x2 : Blk w2 w.heap.size zPs 38 := (hb2.block _ (by have := (unhide HX).2.2; omega)).trans (unhide HX).2.1
  have H2 := hide hb2
  have hsz : (Tryz.prog.info? 38).map (·.size) = some (stands (m.peers p) m.players m.players).size := Tryz.sizePs
  clear hb2
  generalize hst : stands (m.peers p) m.players m.players = sv at *
  have hone : sv.all (·.oneCell') = true := by rw [← hst]; exact stands_one _ _ _
  have hss : zPs.size = sv.size := by rw [← hst]; rfl
  have HST := hide hst
  clear hst
  go_wp2_with (refine wpList_store_blk rfl 38 _ _ rfl w.heap.size 38 zPs sv rfl rfl x2 hsz hss hone ?_)
  refine bodyPost_ret (v := .tuple #[.agg sv, .nilIface]) ?_ rfl ⟨by rw [unhide HST], ?_⟩
  · rw [results_cell_tmp Tryz.results25]
    exact ret_cell_tmp (x2.setRow _) Tryz.underlying38 rfl hsz
  · exact below_setRow ((unhide HX).1.trans ((unhide H2).mono (unhide HX).1.size)) (Nat.le_refl _) _

set_option maxRecDepth 10000 in
set_option maxHeartbeats 1600000 in
theorem pppeer_any (g p : Nat) (pv : Value) (pb : Nat → Nat) (F : Nat → Prop) (m : NetM) (w : World) (h : NetQ w g pv pb F m) (hp : p < m.players) :
    Calls Tryz.prog 13 #[.pointer (some ⟨g, 0, none⟩), .int .i64 (p : Int)] w fun e w' => e = .returned (.tuple #[.agg (stands (m.peers p) m.players m.players), .int .i64 0, .int .i64 (-1)]) ∧ Below w.heap.size w w' := by
  have hz := Tryz.zeroPs
  have bB : Below w.heap.size w (w.alloc (.cells zPs 38)) := (Below.refl _ w).alloc (Nat.le_refl _) _
  have xB : Blk (w.alloc (.cells zPs 38)) w.heap.size zPs 38 := Blk.new _ _ _
  have HN := hide (h.below bB)
  have hzB : (w.alloc (.cells zPs 38)).heap.size = w.heap.size + 1 := by simp
  clear h
  go_enter Tryz.func13, Tryz.ntmps13
  go_wp2_with fail
  generalize w.alloc (.cells zPs 38) = W1 at *
  have HX := hide (And.intro bB (And.intro xB hzB))
  clear bB xB hzB
  refine (npeer_any g p pv pb F m W1 (unhide HN) hp).mono ?_
  rintro e w1 ⟨rfl, hb1⟩
  have x1 : Blk w1 w.heap.size zPs 38 := (hb1.block _ (by have := (unhide HX).2.2; omega)).trans (unhide HX).2.1
  have z1 : w.heap.size < w1.heap.size := x1.lt
  have hsz : (Tryz.prog.info? 38).map (·.size) = some (stands (m.peers p) m.players m.players).size := Tryz.sizePs
  generalize hst : stands (m.peers p) m.players m.players = sv at *
  have hone : sv.all (·.oneCell') = true := by rw [← hst]; exact stands_one _ _ _
  have hss : zPs.size = sv.size := by rw [← hst]; rfl
  have HST := hide hst
  clear hst
  have x2 : Blk (w1.alloc (.cells zPs 38)) w1.heap.size zPs 38 := Blk.new _ _ _
  have x3 : Blk ((w1.alloc (.cells zPs 38)).setRow w1.heap.size sv) w1.heap.size sv 38 := x2.setRow _
  have b3 : Below w1.heap.size w1 ((w1.alloc (.cells zPs 38)).setRow w1.heap.size sv) := below_setRow ((Below.refl _ w1).alloc (Nat.le_refl _) _) (Nat.le_refl _) _
  have y3 : Blk ((w1.alloc (.cells zPs 38)).setRow w1.heap.size sv) w.heap.size zPs 38 := (b3.block _ z1).trans x1
  have HY := hide (And.intro x3 (And.intro b3 (And.intro y3 hb1)))
  clear x3 b3 y3 hb1 x1
  go_wp2_with (refine wpList_store_blk rfl 38 _ _ rfl w1.heap.size 38 zPs sv rfl rfl x2 hsz hss hone ?_)
  generalize (w1.alloc (.cells zPs 38)).setRow w1.heap.size sv = W3 at *
  clear x2
  refine (told_nil W3).mono ?_
  rintro e w4 ⟨rfl, hb4⟩
  obtain ⟨x3, b3, y3, hb1⟩ := unhide HY
  have x4 : Blk w4 w1.heap.size sv 38 := (hb4.block _ x3.lt).trans x3
  have y4 : Blk w4 w.heap.size zPs 38 := (hb4.block _ y3.lt).trans y3
  have H4 := hide (And.intro hb4 (And.intro b3 hb1))
  clear hb4 b3 hb1 x3 y3
  go_wp2_with (first | (refine wpList_load_blk rfl 38 _ rfl w1.heap.size rfl 38 sv _ x4 Tryz.underlying38 rfl hsz ?_) | (refine wpList_store_blk rfl 38 _ _ rfl w.heap.size 38 zPs sv rfl rfl y4 hsz hss hone ?_))
  refine bodyPost_ret (v := .tuple #[.agg sv, .int .i64 0, .int .i64 (-1)]) ?_ rfl ⟨by rw [unhide HST], ?_⟩
  · rw [results_cell_tmp2 Tryz.results13]
    exact ret_cell_tmp2 (y4.setRow _) Tryz.underlying38 rfl hsz
  · obtain ⟨hb4, b3, hb1⟩ := unhide H4
    have q1 := (unhide HX).1
    have q2 := q1.trans (hb1.mono q1.size)
    have q3 := q2.trans (b3.mono q2.size)
    exact below_setRow (q3.trans (hb4.mono q3.size)) (Nat.le_refl _) _

set_option maxHeartbeats 800000 in
theorem nsum_yes (g p f : Nat) (pv : Value) (pb : Nat → Nat) (F : Nat → Prop) (m : NetM) (w : World) (h : NetQ w g pv pb F m) (hp : p < m.players) (h1 : (m.peers p).frame - m.window ≤ f) (h2 : f ≤ (m.peers p).frame) :
    Calls Tryz.prog 29 #[.pointer (some ⟨g, 0, none⟩), .int .i64 (p : Int), .int .i64 (f : Int)] w fun e w' => e = .returned (.tuple #[.int .u32 (digL (stF m.players (insM (m.peers p) m.players) f)), .nilIface]) ∧ Below w.heap.size w w' := by
  obtain ⟨Fp, FS, v, st, hP⟩ := h.at hp
  have HP := hide hP
  clear hP
  go_enter Tryz.func29, Tryz.ntmps29
  go_wp2_with fail
  refine (npeer_yes g p pv pb F m w h hp).mono ?_
  clear h
  rintro e w1 ⟨rfl, rfl⟩
  go_wp2_with fail
  refine (sum_yes (pb p) p m.players m.window m.delay f Fp FS (m.peers p) v st w1 (unhide HP) h1 h2).mono ?_
  rintro e w2 ⟨rfl, hb2⟩
  go_wp2
  go_ret2
  exact ⟨rfl, hb2⟩
set_option maxHeartbeats 800000 in
theorem ppsum_yes (g p f : Nat) (pv : Value) (pb : Nat → Nat) (F : Nat → Prop) (m : NetM) (w : World) (h : NetQ w g pv pb F m) (hp : p < m.players) (h1 : (m.peers p).frame - m.window ≤ f) (h2 : f ≤ (m.peers p).frame) :
    Calls Tryz.prog 17 #[.pointer (some ⟨g, 0, none⟩), .int .i64 (p : Int), .int .i64 (f : Int)] w fun e w' => e = .returned (.tuple #[.int .u32 (digL (stF m.players (insM (m.peers p) m.players) f)), .int .i64 0, .int .i64 (-1)]) ∧ Below w.heap.size w w' := by
  have HN := hide h
  clear h
  go_enter Tryz.func17, Tryz.ntmps17
  go_wp2_with fail
  refine (nsum_yes g p f pv pb F m w (unhide HN) hp h1 h2).mono ?_
  rintro e w2 ⟨rfl, hb2⟩
  go_wp2_with fail
  refine (told_nil w2).mono ?_
  rintro e w3 ⟨rfl, hb3⟩
  go_wp2
  go_ret3
  exact ⟨rfl, hb2.trans (hb3.mono hb2.size)⟩
set_option maxHeartbeats 800000 in
theorem nsum_no (g p : Nat) (f : Int) (pv : Value) (pb : Nat → Nat) (F : Nat → Prop) (m : NetM) (w : World) (h : NetQ w g pv pb F m) (hp : p < m.players) (hf : f < 0 ∨ ((m.peers p).frame : Int) < f ∨ f < ((m.peers p).frame : Int) - (m.window : Int)) :
    Calls Tryz.prog 29 #[.pointer (some ⟨g, 0, none⟩), .int .i64 (p : Int), .int .i64 f] w fun e w' => ∃ g, e = .returned (.tuple #[.int .u32 0, .iface 96 (.pointer (some ⟨g, 0, none⟩))]) ∧ w.heap.size ≤ g ∧ w'.cell? ⟨g, 0, none⟩ = some (.int .i64 (p : Int)) ∧ w'.cell? ⟨g, 1, none⟩ = some (.int .i64 6) ∧ Below w.heap.size w w' := by
  obtain ⟨Fp, FS, v, st, hP⟩ := h.at hp
  have HP := hide hP
  clear hP
  go_enter Tryz.func29, Tryz.ntmps29
  go_wp2_with fail
  refine (npeer_yes g p pv pb F m w h hp).mono ?_
  clear h
  rintro e w1 ⟨rfl, rfl⟩
  go_wp2_with fail
  refine (sum_no (pb p) p m.players m.window m.delay f Fp FS (m.peers p) v st w1 (unhide HP) hf).mono ?_
  rintro e w2 ⟨g2, rfl, hg1, hg2, hg3, hb2⟩
  go_wp2
  go_ret2
  exact ⟨g2, rfl, hg1, hg2, hg3, hb2⟩
set_option maxHeartbeats 800000 in
theorem ppsum_no (g p : Nat) (f : Int) (pv : Value) (pb : Nat → Nat) (F : Nat → Prop) (m : NetM) (w : World) (hgL : Laid w) (h : NetQ w g pv pb F m) (hp : p < m.players) (hf : f < 0 ∨ ((m.peers p).frame : Int) < f ∨ f < ((m.peers p).frame : Int) - (m.window : Int)) :
    Calls Tryz.prog 17 #[.pointer (some ⟨g, 0, none⟩), .int .i64 (p : Int), .int .i64 f] w fun e w' => e = .returned (.tuple #[.int .u32 0, .int .i64 6, .int .i64 (p : Int)]) ∧ Below w.heap.size w w' := by
  have HN := hide h
  clear h
  go_enter Tryz.func17, Tryz.ntmps17
  go_wp2_with fail
  refine (nsum_no g p f pv pb F m w (unhide HN) hp hf).mono ?_
  rintro e w2 ⟨g2, rfl, hg1, hg2, hg3, hb2⟩
  go_wp2_with fail
  refine (told_peer g2 (p : Int) 6 w2 (hgL.below hgL.lt hb2) hg2 hg3).mono ?_
  rintro e w3 ⟨rfl, hb3⟩
  go_wp2
  go_ret3
  exact ⟨rfl, hb2.trans (hb3.mono hb2.size)⟩
def tookV (m : NetM) (p : Nat) (l : List Int) : Value := if (m.take p l).1 = true then .tuple #[.int .i64 0, .int .i64 (-1)] else .tuple #[.int .i64 5, .int .i64 (p : Int)]
set_option maxHeartbeats 800000 in
theorem nhand_any (g : Nat) (pv : Value) (pb : Nat → Nat) (F : Nat → Prop) (m : NetM) (w : World) (h : NetQ w g pv pb F m) (p bb o L c : Nat) (l : List Int) (hp : p < m.players) (hl : l.length = L) (hn : L ≤ 70000) (hcap : L ≤ c) (hr : ∀ j : Nat, 0 ≤ l.getD j 0 ∧ l.getD j 0 ≤ 255) (hcells : ∀ j, j < L → w.cell? ⟨bb, o + j, none⟩ = some (.int .u8 (l.getD j 0))) (hbb : bb < w.heap.size) (hdrop : (m.peers p).dropped + 1 ≤ 1000000000) :
    Calls Tryz.prog 37 #[.pointer (some ⟨g, 0, none⟩), .int .i64 (p : Int), .slice (some ⟨bb, o, none⟩) L c] w fun e w' => Chg F w w' ∧ ∃ F', NetQ w' g pv pb F' (m.take p l).2 ∧ (∀ k, F' k → F k ∨ w.heap.size ≤ k) ∧ (((m.take p l).1 = true ∧ e = .returned .nilIface) ∨ ((m.take p l).1 = false ∧ FaultAt w' e w.heap.size p 5)) := by
  have HH := hide (And.intro hr hcells)
  have HN := hide h
  clear hr hcells h
  go_enter Tryz.func37, Tryz.ntmps37
  go_wp2_with fail
  refine (npeer_yes g p pv pb F m w (unhide HN) hp).mono ?_
  rintro e w1 ⟨rfl, rfl⟩
  go_wp2_with fail
  refine (ntake_any g pv pb F m w1 (unhide HN) p bb o L c l hp hl hn hcap (unhide HH).1 (unhide HH).2 hbb hdrop).mono ?_
  rintro e w2 ⟨hC, F2, hQ, hF2, hcase⟩
  have H2 := hide (And.intro hC (And.intro hQ hF2))
  clear hC hQ hF2
  rcases hcase with ⟨ht, rfl⟩ | ⟨ht, g2, rfl, hg2, c0, c1⟩
  · have HT := hide ht
    clear ht
    go_wp2
    go_ret
    obtain ⟨hC, hQ, hF2⟩ := unhide H2
    exact ⟨hC, F2, hQ, hF2, .inl ⟨unhide HT, rfl⟩⟩
  · have HT := hide ht
    clear ht
    go_wp2
    go_ret
    obtain ⟨hC, hQ, hF2⟩ := unhide H2
    exact ⟨hC, F2, hQ, hF2, .inr ⟨unhide HT, g2, rfl, hg2, c0, c1⟩⟩
set_option maxHeartbeats 800000 in
theorem pphand_any (g : Nat) (pv : Value) (pb : Nat → Nat) (F : Nat → Prop) (m : NetM) (w : World) (hgL : Laid w) (h : NetQ w g pv pb F m) (hFg : ∀ k, F k → 1 ≤ k) (p bb o L c : Nat) (l : List Int) (hp : p < m.players) (hl : l.length = L) (hn : L ≤ 70000) (hcap : L ≤ c) (hr : ∀ j : Nat, 0 ≤ l.getD j 0 ∧ l.getD j 0 ≤ 255) (hcells : ∀ j, j < L → w.cell? ⟨bb, o + j, none⟩ = some (.int .u8 (l.getD j 0))) (hbb : bb < w.heap.size) (hdrop : (m.peers p).dropped + 1 ≤ 1000000000) :
    Calls Tryz.prog 22 #[.pointer (some ⟨g, 0, none⟩), .int .i64 (p : Int), .slice (some ⟨bb, o, none⟩) L c] w fun e w' => e = .returned (tookV m p l) ∧ Chg F w w' ∧ ∃ F', NetQ w' g pv pb F' (m.take p l).2 ∧ (∀ k, F' k → F k ∨ w.heap.size ≤ k) := by
  have HH := hide (And.intro hr hcells)
  have HN := hide h
  clear hr hcells h
  go_enter Tryz.func22, Tryz.ntmps22
  go_wp2_with fail
  refine (nhand_any g pv pb F m w (unhide HN) p bb o L c l hp hl hn hcap (unhide HH).1 (unhide HH).2 hbb hdrop).mono ?_
  rintro e w2 ⟨hC, F2, hQ, hF2, hcase⟩
  have H2 := hide (And.intro hC (And.intro hQ hF2))
  have hL2 := hgL
  clear hC hQ hF2
  rcases hcase with ⟨ht, rfl⟩ | ⟨ht, g2, rfl, hg2, c0, c1⟩
  · have HT := hide ht
    clear ht
    go_wp2_with fail
    refine (told_nil w2).mono ?_
    rintro e w3 ⟨rfl, hb3⟩
    go_wp2
    go_ret2
    obtain ⟨hC, hQ, hF2⟩ := unhide H2
    exact ⟨by rw [tookV, if_pos (unhide HT)]; rfl, hC.thenBelow (hb3.mono hC.size), F2, hQ.below hb3, hF2⟩
  · have HT := hide ht
    clear ht
    go_wp2_with fail
    refine (told_peer g2 (p : Int) 5 w2 (hgL.below (B := 1) (by omega) ((unhide H2).1.toBelow hgL.lt hFg)) c0 c1).mono ?_
    rintro e w3 ⟨rfl, hb3⟩
    go_wp2
    go_ret2
    obtain ⟨hC, hQ, hF2⟩ := unhide H2
    exact ⟨by rw [tookV, if_neg (by rw [unhide HT]; simp)]; rfl, hC.thenBelow (hb3.mono hC.size), F2, hQ.below hb3, hF2⟩
end Go.Proofs.YtandblanpafjoabGreatDoor

namespace Go.Proofs.YtandblanpafjoabGreatDoor
open Go.RowKit Go.Extern.Stop Go.Stop Go.Extern

/-! act: what a byte of a script does. -/
def actP (n b : Nat) : Nat := b / 5 % n
def actI (b : Nat) : Int := xstep ((b / 4 : Nat) : Int) (b : Int)
def actM (m : NetM) (b : Nat) : NetM := if b % 5 = 0 then m.tick else (m.advance (actP m.players b) (actI b)).2
def actR (m : NetM) (b : Nat) : Int × Int := if b % 5 = 0 then (-1, 0) else if (m.advance (actP m.players b) (actI b)).1 = 0 then ((actP m.players b : Int), actI b) else (-1, 0)
theorem actI_rng (b : Nat) : 0 ≤ actI b ∧ actI b ≤ 255 := xstep_range _ _
set_option maxRecDepth 10000 in
set_option maxHeartbeats 1600000 in
theorem act_any (g : Nat) (pv : Value) (pb : Nat → Nat) (F : Nat → Prop) (m : NetM) (b n s t h : Nat) (w : World) (hgL : Laid w) (hQ : NetQ w g pv pb F m) (hB : Bd m n s t h) (hb : b < 256) (hs : s + 20 ≤ 900000) (ht : t + 1 ≤ 900000) (hh : h ≤ 1000000) :
    Calls Tryz.prog 10 #[.pointer (some ⟨g, 0, none⟩), .int .i64 (n : Int), .int .u8 (b : Int)] w fun e w' => e = .returned (.tuple #[.int .i64 (actR m b).1, .int .u8 (actR m b).2]) ∧ Chg F w w' ∧ ∃ F', NetQ w' g pv pb F' (actM m b) ∧ ∀ k, F' k → F k ∨ w.heap.size ≤ k := by
  have hn24 : 2 ≤ n ∧ n ≤ 4 := by obtain ⟨_, _, _, _, _, h1, h2⟩ := hQ.parts; rw [← hB.players]; exact ⟨h1, h2⟩
  have HN := hide (And.intro hQ hB)
  have hpl := hB.players
  clear hQ hB
  by_cases h5 : b % 5 = 0
  · have e1 : actM m b = m.tick := if_pos h5
    have e2 : actR m b = (-1, 0) := if_pos h5
    rw [e1, e2]
    have d5 : ((b : Int) % 5 == 0) = true := by rw [beq_iff_eq]; omega
    have d5' : ((b : Int) % 5 = 0) := by omega
    go_enter Tryz.func10, Tryz.ntmps10
    go_wp2_with fail
    obtain ⟨hQ, hB⟩ := unhide HN
    refine (ntick_any g pv pb F m w hQ (by have := hB.sent; omega) (by have := hB.now; omega) (fun p _ => by have := hB.drop p; have := hB.sent; omega)).mono ?_
    clear hQ hB
    rintro e w2 ⟨rfl, hC, F2, hQ2, hF2⟩
    have H2 := hide (And.intro hC (And.intro hQ2 hF2))
    clear hC hQ2 hF2
    go_wp2
    go_ret2
    obtain ⟨hC, hQ2, hF2⟩ := unhide H2
    exact ⟨rfl, hC, F2, hQ2, hF2⟩
  · have e1 : actM m b = (m.advance (actP m.players b) (actI b)).2 := if_neg h5
    have d5 : ((b : Int) % 5 == 0) = false := by rw [beq_eq_false_iff_ne]; omega
    have d5' : ¬ ((b : Int) % 5 = 0) := by omega
    have hp : actP n b < n := Nat.mod_lt _ (by omega)
    have hnz : ((n : Int) == 0) = false := by rw [beq_eq_false_iff_ne]; omega
    have hI := actI_rng b
    have hx : IntKind.i64.wrap ((b : Int) / 5) = (b : Int) / 5 := i64_id _ (by omega) (by omega)
    have q5 : (b : Int) / 5 = ((b / 5 : Nat) : Int) := by omega
    have q4 : (b : Int) / 4 = ((b / 4 : Nat) : Int) := by omega
    have hpI : ((actP n b : Nat) : Int) = ((b / 5 : Nat) : Int) % (n : Int) := by unfold actP; simp
    have HQ := hide (And.intro q5 (And.intro q4 hpI))
    clear q5 q4 hpI
    have e2 : actR m b = if (m.advance (actP m.players b) (actI b)).1 = 0 then ((actP m.players b : Int), actI b) else (-1, 0) := if_neg h5
    rw [hpl] at e1 e2
    obtain ⟨R, hR⟩ : ∃ R, actR m b = R := ⟨_, rfl⟩
    obtain ⟨M, hM⟩ : ∃ M, actM m b = M := ⟨_, rfl⟩
    rw [hR, hM]
    rw [hR] at e2
    rw [hM] at e1
    have HE := hide (And.intro e1 e2)
    clear e1 e2 hR hM
    go_enter Tryz.func10, Tryz.ntmps10
    go_wp2_with fail
    have eP : (b : Int) / 5 % (n : Int) = ((actP n b : Nat) : Int) := by rw [(unhide HQ).1, (unhide HQ).2.2]
    have eI : bits BinOp.xor IntKind.u8 ((b : Int) / 4) (b : Int) = actI b := by rw [(unhide HQ).2.1]; rfl
    rw [eP, eI]
    clear eP eI hx
    obtain ⟨P, hP⟩ : ∃ P, actP n b = P := ⟨_, rfl⟩
    obtain ⟨I, hII⟩ : ∃ I, actI b = I := ⟨_, rfl⟩
    rw [hP] at hp
    rw [hII] at hI
    rw [hP, hII]
    obtain ⟨hQ, hB⟩ := unhide HN
    by_cases hk : (m.advance P I).1 = 0
    · refine (ppadv_yes g P I pv pb F m w hQ (by rw [hpl]; exact hp) hI (by have := hB.sent; omega) (by have := hB.now; omega) hk).mono ?_
      clear hQ hB
      rintro e w2 ⟨rfl, hC, F2, hQ2, hF2⟩
      have H2 := hide (And.intro hC (And.intro hQ2 (And.intro hF2 hk)))
      clear hC hQ2 hF2 hk
      go_wp2
      go_ret2
      obtain ⟨hC, hQ2, hF2, hk⟩ := unhide H2
      have e2 := (unhide HE).2
      rw [hP, hII, if_pos hk] at e2
      refine ⟨?_, hC, F2, by rw [(unhide HE).1, hP, hII]; exact hQ2, hF2⟩
      rw [e2]
      rfl
    · obtain ⟨kk, hkk⟩ : ∃ kk, (m.advance P I).1 = kk := ⟨_, rfl⟩
      rw [hkk] at hk
      have hm : (m.advance P I).2 = m := by
        revert hkk
        unfold NetM.advance
        split
        · intro _; rfl
        · split
          · intro _; rfl
          · intro h; exact absurd h.symm hk
      refine (ppadv_no g P I kk pv pb F m w hgL hQ (by rw [hpl]; exact hp) hkk hk).mono ?_
      rintro e w2 ⟨rfl, hb2⟩
      have dk : ((kk : Int) != 0) = true := by rw [bne_iff_ne]; omega
      have dk' : ¬ (kk : Int) = 0 := by omega
      have H2 := hide (And.intro hQ (And.intro hb2 (And.intro hkk hm)))
      clear hQ hB hb2 hkk hm
      go_wp2
      go_ret2
      obtain ⟨hQ, hb2, hkk, hm⟩ := unhide H2
      have e2 := (unhide HE).2
      rw [hP, hII, if_neg (by rw [hkk]; exact hk)] at e2
      refine ⟨?_, Chg.ofBelow hb2, F, by rw [(unhide HE).1, hP, hII, hm]; exact hQ.below hb2, fun k hk => .inl hk⟩
      rw [e2]
      rfl
end Go.Proofs.YtandblanpafjoabGreatDoor

