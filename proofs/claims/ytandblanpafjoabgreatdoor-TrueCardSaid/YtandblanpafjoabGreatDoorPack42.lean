import Derived.Test.YtandblanpafjoabGreatDoorPack40
import Derived.Test.YtandblanpafjoabGreatDoorPack21
namespace Go.Proofs.YtandblanpafjoabGreatDoor
open Go.RowKit Go.Extern.Stop Go.Stop Go.Extern

/-! opened: a net of raw numbers. -/
def lagOf (st : Bool) (v : Int) : Int := if st = true ∧ v % 7 - 1 < 0 then 6 else v % 7 - 1
def lagsOf (S : ByteArray) (st : Bool) : List Int := ((bytesOf S).take 8).map (lagOf st)
def cfgV (n win dl kd : Nat) (lv : Value) : Array Value := #[.int .i64 (n : Int), .int .i64 (win : Int), .int .i64 (dl : Int), .int .i64 (kd : Int), lv]
def zCfg : Array Value := #[.int .i64 0, .int .i64 0, .int .i64 0, .int .i64 0, .slice none 0 0]
theorem Tryz.zeroCfg (w : World) : (zeroValue 26).run Tryz.prog w = .ok (.agg #[.int .i64 0, .int .i64 0, .int .i64 0, .int .i64 0, .slice none 0 0]) w := by kernel_rfl
theorem Tryz.sizeCfg : (Tryz.prog.info? 26).map (·.size) = some 5 := by kernel_rfl
theorem lagsOf_len (S : ByteArray) (st : Bool) : (lagsOf S st).length = min 8 S.size := by simp [lagsOf, bytesOf_len]
theorem lagOf_rng (st : Bool) (v : Int) : -1 ≤ lagOf st v ∧ lagOf st v ≤ 6 := by unfold lagOf; split <;> omega
theorem one_cell (W : World) (x : Value) (t : TypeId) (g : Nat) (hg : W.heap.size = g) : ∀ j u, [x][j]? = some u → (W.alloc (.cells #[x] t)).cell? ((⟨g, 0, none⟩ : Addr).add j) = some u := by
  subst hg
  intro j u h
  have hj : j = 0 := by have := (List.getElem?_eq_some_iff.1 h).1; simpa using this
  subst hj
  simp only [List.getElem?_cons_zero, Option.some.injEq] at h
  subst h
  exact (Blk.new W #[x] t).cell 0
theorem cfgV_set (n win dl kd : Nat) (lv lv' : Value) : (cfgV n win dl kd lv).setIfInBounds 4 lv' = cfgV n win dl kd lv' := by simp [cfgV]
theorem cfg_mid {W wr w5 : World} {c n win dl kd k : Nat} {lv : Value} {xs : List Value} {o : Obj} (hcW : c < W.heap.size) (hblk : Blk wr c (cfgV n win dl kd lv) 26) (hown : wr.ownsRow W.heap.size 3 1 lv k xs) (hg : (wr.alloc o).grownBy w5 lv.ownBlock) : Blk w5 c (cfgV n win dl kd lv) 26 := by
  have hW : Below wr.heap.size wr (wr.alloc o) := (Below.refl _ wr).alloc (Nat.le_refl _) _
  have hcl := hblk.lt
  exact ((hg.block c (by simp; omega) (fun e => by have := (hown.lt c e.symm).1; omega)).trans (hW.block c hcl)).trans hblk
/-- The list of lags has grown by one, and lies in the configuration. -/
theorem cfg_push {w4 W wr w5 : World} {c n win dl kd k : Nat} {lv v5 : Value} {l : List Int} {x : Int} (hcW : c < W.heap.size) (hblk : Blk wr c (cfgV n win dl kd lv) 26) (hown : wr.ownsRow W.heap.size 3 1 lv k (l.map (Value.int .i64))) (hbel : Below c w4 wr) (hzr : W.heap.size ≤ wr.heap.size)
    (hown5 : w5.ownsRow W.heap.size 3 1 v5 (k + 1) (l.map (Value.int .i64) ++ [.int .i64 x])) (hg : (wr.alloc (.cells #[.int .i64 x] 3)).grownBy w5 lv.ownBlock) :
    Blk (w5.setCell ⟨c, 4, none⟩ v5) c (cfgV n win dl kd v5) 26 ∧ (w5.setCell ⟨c, 4, none⟩ v5).ownsRow W.heap.size 3 1 v5 (k + 1) ((l ++ [x]).map (Value.int .i64)) ∧ Below c w4 (w5.setCell ⟨c, 4, none⟩ v5) ∧ W.heap.size ≤ (w5.setCell ⟨c, 4, none⟩ v5).heap.size := by
  have hW : Below wr.heap.size wr (wr.alloc (.cells #[.int .i64 x] 3)) := (Below.refl _ wr).alloc (Nat.le_refl _) _
  have hzA : (wr.alloc (.cells #[.int .i64 x] 3)).heap.size = wr.heap.size + 1 := by simp
  have hcl := hblk.lt
  have hne : ∀ q, lv.ownBlock = some q → q ≠ c := fun q hq e => by have := (hown.lt q hq).1; omega
  have hb5 : Blk w5 c (cfgV n win dl kd lv) 26 := ((hg.block c (by omega) (fun e => hne c e.symm rfl)).trans (hW.block c hcl)).trans hblk
  have hs5 := hb5.set 4 v5
  rw [cfgV_set] at hs5
  have hz5 := hg.size
  have hbw : Below c w4 w5 := ⟨(hg.os.trans hW.os).trans hbel.os, (hg.tape.trans hW.tape).trans hbel.tape, (hg.output.trans hW.output).trans hbel.output, by have := hbel.size; omega, fun q hq => ((hg.block q (by omega) (fun e => by have := (hown.lt q e.symm).1; omega)).trans (hW.block q (by omega))).trans (hbel.block q hq)⟩
  refine ⟨hs5, ?_, hbw.setCell (p := ⟨c, 4, none⟩) (Nat.le_refl _) _, by rw [World.size_setCell]; omega⟩
  rw [List.map_append]
  refine owns_same hown5 (fun q hq => heap_setCell_other _ _ _ _ (fun e => ?_))
  have := (hown5.lt q hq).1
  have e' : q = c := e
  omega
theorem lagSrc_of_owns {w : World} {base : Nat} {v : Value} {l : List Int} (h : w.ownsRow base 3 1 v l.length (l.map (Value.int .i64))) (hn : l.length = 0 → v = .slice none 0 0) : LagSrc w v l := by
  rcases h.2 with ⟨h1, h2⟩ | ⟨g, cap, cur, h1, _⟩
  · exact .inl ⟨h1, List.length_eq_zero_iff.1 h2⟩
  · rcases Nat.eq_zero_or_pos l.length with h0 | h0
    · exact .inl ⟨hn h0, List.length_eq_zero_iff.1 h0⟩
    · refine .inr ⟨g, cap, h1, h0, ((h.lt g (by rw [h1]; rfl))).2, fun j hj => ?_⟩
      have := h.cells (g := g) (by rw [h1]; rfl) j (.int .i64 (l.getD j 0)) (by rw [List.getElem?_map, List.getElem?_eq_getElem hj, List.getD_eq_getElem?_getD, List.getElem?_eq_getElem hj]; rfl)
      rw [Addr.add_mid, Nat.zero_add] at this
      exact this
theorem results_tmp_cell_tmp {fn : Func} {u p v : Tmp} {ty : TypeId} (h : fn.results = #[.tmp u, .cell p ty, .tmp v]) (tmps : Array Value) (P : Program) (w : World) :
    (results fn tmps).run P w =
      ((asAddr (tmps.getD p undef)).run P w).andThen fun a w₁ => ((loadVar ty a).run P w₁).andThen fun x w₂ => .ok (.tuple #[tmps.getD u undef, x, tmps.getD v undef]) w₂ := by
  simp only [results, h]
  simp [Sem.run_bind, Result.andThen]
theorem ret_tmp_cell_tmp {P : Program} {W : World} {g : Nat} {cs : Array Value} {t ty : TypeId} {d : TypeDesc} {x y : Value} (hg : Blk W g cs t)
    (hu : P.underlying ty = some d) (hd : (match d with | .struct _ | .array _ _ => true | _ => false) = true) (hi : (P.info? ty).map (·.size) = some cs.size) :
    ((asAddr (.pointer (some ⟨g, 0, none⟩))).run P W).andThen (fun a w₁ => ((loadVar ty a).run P w₁).andThen fun v w₂ => Result.ok (Value.tuple #[x, v, y]) w₂) = Result.ok (Value.tuple #[x, .agg cs, y]) W := by
  simp [asAddr, run_loadVar_row W g t ty cs (0, 0) d hg hu hd hi]
set_option maxRecDepth 10000 in
set_option maxHeartbeats 4000000 in
theorem opened_any (pl wn dl sr : Int) (S : ByteArray) (st : Bool) (w : World) (_hmax : S.size ≤ maxLen) (hpl : -9223372036854775808 ≤ pl ∧ pl ≤ 9223372036854775807) (hwn : -9223372036854775808 ≤ wn ∧ wn ≤ 9223372036854775807) (hdl : -9223372036854775808 ≤ dl ∧ dl ≤ 9223372036854775807) (hsr : -9223372036854775808 ≤ sr ∧ sr ≤ 9223372036854775807) :
    Calls Tryz.prog 9 #[.int .i64 pl, .int .i64 wn, .int .i64 dl, .int .i64 sr, .string S, .bool st] w fun e w' => ∃ g pv pb F lv, e = .returned (.tuple #[.pointer (some ⟨g, 0, none⟩), .agg (cfgV (2 + pickN pl 3) (1 + pickN wn 8) (pickN dl 4) (pickN sr 2) lv), .bool true]) ∧ (∃ ao m c, lv = .slice ao m c) ∧ NetQ w' g pv pb F (newM (2 + pickN pl 3) (1 + pickN wn 8) (pickN dl 4) (lagsOf S st)) ∧ (∀ k, F k → w.heap.size ≤ k) ∧ Below w.heap.size w w' := by
  have HP := hide (And.intro hpl (And.intro hwn (And.intro hdl hsr)))
  have p1 := pickN_lt pl 3 (by omega)
  have p2 := pickN_lt wn 8 (by omega)
  have p3 := pickN_lt dl 4 (by omega)
  have p4 := pickN_lt sr 2 (by omega)
  have hz := Tryz.zeroCfg
  clear hpl hwn hdl hsr
  go_enter Tryz.func9, Tryz.ntmps9
  go_wp2_with fail
  have b0 : Below w.heap.size w (w.alloc (.cells zCfg 26)) := (Below.refl _ w).alloc (Nat.le_refl _) _
  have x0 : Blk (w.alloc (.cells zCfg 26)) w.heap.size zCfg 26 := Blk.new _ _ _
  have z0 : (w.alloc (.cells zCfg 26)).heap.size = w.heap.size + 1 := by simp
  rw [show #[Value.int .i64 0, Value.int .i64 0, Value.int .i64 0, Value.int .i64 0, Value.slice none 0 0] = zCfg from rfl]
  generalize w.alloc (.cells zCfg 26) = W0 at *
  have HX := hide (And.intro b0 (And.intro x0 z0))
  clear b0 x0 z0
  refine (pick_at pl 3 3 rfl W0 (unhide HP).1 (by omega) (by omega)).mono ?_
  rintro e w1 ⟨rfl, rfl⟩
  have HZ := hide hz
  clear hz
  obtain ⟨n, hn⟩ : ∃ n : Nat, n = 2 + pickN pl 3 := ⟨_, rfl⟩
  obtain ⟨win, hwin⟩ : ∃ n : Nat, n = 1 + pickN wn 8 := ⟨_, rfl⟩
  have eN : (2 : Int) + (pickN pl 3 : Int) = (n : Int) := by omega
  have eW : (1 : Int) + (pickN wn 8 : Int) = (win : Int) := by omega
  have hn24 : 2 ≤ n ∧ n ≤ 4 := by omega
  have hw18 : 1 ≤ win ∧ win ≤ 8 := by omega
  have HNW := hide (And.intro hn hwin)
  clear hn hwin
  go_wp2_with fail
  refine (pick_at wn 8 8 rfl w1 (unhide HP).2.1 (by omega) (by omega)).mono ?_
  rintro e w2 ⟨rfl, rfl⟩
  go_wp2_with fail
  refine (pick_at dl 4 4 rfl w2 (unhide HP).2.2.1 (by omega) (by omega)).mono ?_
  rintro e w3 ⟨rfl, rfl⟩
  go_wp2_with fail
  refine (pick_at sr 2 2 rfl w3 (unhide HP).2.2.2 (by omega) (by omega)).mono ?_
  rintro e w4 ⟨rfl, rfl⟩
  go_wp2_with fail
  rw [show #[Value.int .i64 (n : Int), Value.int .i64 (win : Int), Value.int .i64 (pickN dl 4 : Int), Value.int .i64 (pickN sr 2 : Int), Value.slice none 0 0] = cfgV n win (pickN dl 4) (pickN sr 2) (.slice none 0 0) from rfl]
  have b5 : Below w4.heap.size w4 (w4.alloc (.cells (cfgV n win (pickN dl 4) (pickN sr 2) (.slice none 0 0)) 26)) := (Below.refl _ w4).alloc (Nat.le_refl _) _
  have x5 : Blk (w4.alloc (.cells (cfgV n win (pickN dl 4) (pickN sr 2) (.slice none 0 0)) 26)) w4.heap.size (cfgV n win (pickN dl 4) (pickN sr 2) (.slice none 0 0)) 26 := Blk.new _ _ _
  clear eN eW p1 p2
  generalize hdN : pickN dl 4 = dN at *
  generalize hkN : pickN sr 2 = kN at *
  have HDK := hide (And.intro hdN hkN)
  clear hdN hkN
  generalize w4.alloc (.cells (cfgV n win dN kN (.slice none 0 0)) 26) = W5 at *
  obtain ⟨c, hc⟩ : ∃ c, c = w4.heap.size := ⟨_, rfl⟩
  rw [← hc] at x5
  rw [← hc]
  have HW5 := hide (And.intro b5 (And.intro x5 hc))
  clear b5 x5 hc
  have hcW : c < W5.heap.size := (unhide HW5).2.1.lt
  have hKl := lagsOf_len S st
  obtain ⟨K, hK⟩ : ∃ K, (lagsOf S st).length = K := ⟨_, rfl⟩
  rw [hK] at hKl
  have hK8 : K ≤ 8 ∧ K ≤ S.size ∧ (K = 8 ∨ K = S.size) := by omega
  have HK := hide hK
  clear hK hKl
  obtain ⟨W, hW⟩ : ∃ x, x = W5 := ⟨_, rfl⟩
  subst hW
  go_loopw [16] (fun i wr => ∃ (k : Nat) (lv : Value), k ≤ K ∧ i = .int .i64 (k : Int) ∧ Blk wr c (cfgV n win dN kN lv) 26 ∧ wr.ownsRow W.heap.size 3 1 lv k (((lagsOf S st).take k).map (Value.int .i64)) ∧ Below c w4 wr ∧ W.heap.size ≤ wr.heap.size ∧ (k = 0 → lv = .slice none 0 0)) (fun i _ => K - (intOf i).toNat)
  case atStart =>
    obtain ⟨b5, x5, hc⟩ := unhide HW5
    exact ⟨0, _, by omega, rfl, x5, World.ownsRow_nil _ _ _ _, hc ▸ b5, Nat.le_refl _, fun _ => rfl⟩
  case round =>
    obtain ⟨k, lv, hk, rfl, hblk, hown, hbel, hzr, hnl⟩ := hrel
    by_cases hlt : k < K
    · have d1 : decide (k < S.size) = true := by simp; omega
      have d2 : decide ((k : Int) < 8) = true := by simp; omega
      obtain ⟨vp, vc, rfl⟩ : ∃ vp vc, lv = .slice vp k vc := by
        rcases hown.2 with ⟨h1, h2⟩ | ⟨g, cap, cur, h1, _⟩
        · exact ⟨none, 0, by rw [h1, h2]⟩
        · exact ⟨_, _, h1⟩
      have HH := hide (And.intro hblk (And.intro hown hbel))
      have c4 : wr.cell? ⟨c, 4, none⟩ = some (.slice vp k vc) := hblk.cell 4
      have hkS : k < S.size := by omega
      obtain ⟨v, hv⟩ : ∃ v : Nat, S[k].toNat = v := ⟨_, rfl⟩
      have hv2 : v < 256 := by rw [← hv]; exact S[k].toNat_lt
      obtain ⟨q, hq⟩ : ∃ q : Nat, v % 7 = q := ⟨_, rfl⟩
      have hq7 : q < 7 := by omega
      have ht : (v : Int).tmod 7 = (q : Int) := by rw [Int.tmod_eq_emod_of_nonneg (by omega)]; omega
      have he : (v : Int) % 7 = (q : Int) := by omega
      have HL : Hid ((lagsOf S st).take (k + 1) = (lagsOf S st).take k ++ [lagOf st (v : Int)]) := hide (by
        have hkl : k < (lagsOf S st).length := by rw [unhide HK]; exact hlt
        rw [List.take_add_one, List.getElem?_eq_getElem hkl]
        have : (lagsOf S st)[k] = lagOf st (v : Int) := by
          simp only [lagsOf, List.getElem_map, List.getElem_take]
          congr 1
          rw [← hv]
          simp [bytesOf]
          rfl
        rw [this]; rfl)
      have HV := hide (And.intro hq hq7)
      obtain ⟨i8, hi8, hz0, hz1, hz2⟩ := info_parts Tryz.infoI64
      clear hblk hown hbel hq hnl
      rcases Bool.eq_false_or_eq_true st with hst | hst
      · subst hst
        by_cases h0 : q = 0
        · have hd0 : decide ((q : Int) - 1 < 0) = true := by simp; omega

          go_wp2_with (at_builtin; (refine wpList_append_own _ rfl (.tmp 53) (.tmp 55) 24 rfl W.heap.size 3 i8 (.int .i64 0) 1 8 Tryz.underlying24 hi8 hz0 hz1 hz2 rfl (by decide) (.slice vp k vc) k _ rfl ((unhide HH).2.1.alloc _) ⟨wr.heap.size, 0, none⟩ 1 1 [.int .i64 (6)] rfl rfl (one_cell _ _ _ _ rfl) (fun x hx => by simp at hx; subst hx; rfl) (by unfold maxLen; omega) (by omega) (by simp; omega) ?_); intro v5 w5 hown5 hgr5 hnil5; obtain ⟨g5, cap5, rfl, _, _, _⟩ := own_some hown5 (by omega); have hb5 := cfg_mid hcW (unhide HH).1 (unhide HH).2.1 hgr5; have c5 : w5.cell? ⟨c, 4, none⟩ = some (.slice vp k vc) := hb5.cell 4; have f5 : w5.frozen? ⟨c, 4, none⟩ = false := hb5.frozen 4; have H5 := hide (And.intro hown5 hgr5); clear hown5 hgr5 hnil5 hb5)
          go_roundw
          case rel =>
            obtain ⟨hblk, hown, hbel⟩ := unhide HH
            obtain ⟨hown5, hgr5⟩ := unhide H5
            have hx : lagOf true (v : Int) = 6 := by unfold lagOf; rw [he]; rw [if_pos ⟨rfl, by omega⟩]
            obtain ⟨q1, q2, q3, q4⟩ := cfg_push hcW hblk hown hbel hzr hown5 hgr5
            refine ⟨k + 1, _, by omega, by go_num, q1, ?_, q3, q4, fun h => absurd h (by omega)⟩
            rw [unhide HL, hx]; exact q2
          case measure => simp [intOf]; omega
        · have hd0 : decide ((q : Int) - 1 < 0) = false := by simp; omega

          go_wp2_with (at_builtin; (refine wpList_append_own _ rfl (.tmp 53) (.tmp 55) 24 rfl W.heap.size 3 i8 (.int .i64 0) 1 8 Tryz.underlying24 hi8 hz0 hz1 hz2 rfl (by decide) (.slice vp k vc) k _ rfl ((unhide HH).2.1.alloc _) ⟨wr.heap.size, 0, none⟩ 1 1 [.int .i64 ((q : Int) - 1)] rfl rfl (one_cell _ _ _ _ rfl) (fun x hx => by simp at hx; subst hx; rfl) (by unfold maxLen; omega) (by omega) (by simp; omega) ?_); intro v5 w5 hown5 hgr5 hnil5; obtain ⟨g5, cap5, rfl, _, _, _⟩ := own_some hown5 (by omega); have hb5 := cfg_mid hcW (unhide HH).1 (unhide HH).2.1 hgr5; have c5 : w5.cell? ⟨c, 4, none⟩ = some (.slice vp k vc) := hb5.cell 4; have f5 : w5.frozen? ⟨c, 4, none⟩ = false := hb5.frozen 4; have H5 := hide (And.intro hown5 hgr5); clear hown5 hgr5 hnil5 hb5)
          go_roundw
          case rel =>
            obtain ⟨hblk, hown, hbel⟩ := unhide HH
            obtain ⟨hown5, hgr5⟩ := unhide H5
            have hx : lagOf true (v : Int) = (q : Int) - 1 := by unfold lagOf; rw [he]; rw [if_neg (fun h => by omega)]
            obtain ⟨q1, q2, q3, q4⟩ := cfg_push hcW hblk hown hbel hzr hown5 hgr5
            refine ⟨k + 1, _, by omega, by go_num, q1, ?_, q3, q4, fun h => absurd h (by omega)⟩
            rw [unhide HL, hx]; exact q2
          case measure => simp [intOf]; omega
      · subst hst
        go_wp2_with (at_builtin; (refine wpList_append_own _ rfl (.tmp 53) (.tmp 55) 24 rfl W.heap.size 3 i8 (.int .i64 0) 1 8 Tryz.underlying24 hi8 hz0 hz1 hz2 rfl (by decide) (.slice vp k vc) k _ rfl ((unhide HH).2.1.alloc _) ⟨wr.heap.size, 0, none⟩ 1 1 [.int .i64 ((q : Int) - 1)] rfl rfl (one_cell _ _ _ _ rfl) (fun x hx => by simp at hx; subst hx; rfl) (by unfold maxLen; omega) (by omega) (by simp; omega) ?_); intro v5 w5 hown5 hgr5 hnil5; obtain ⟨g5, cap5, rfl, _, _, _⟩ := own_some hown5 (by omega); have hb5 := cfg_mid hcW (unhide HH).1 (unhide HH).2.1 hgr5; have c5 : w5.cell? ⟨c, 4, none⟩ = some (.slice vp k vc) := hb5.cell 4; have f5 : w5.frozen? ⟨c, 4, none⟩ = false := hb5.frozen 4; have H5 := hide (And.intro hown5 hgr5); clear hown5 hgr5 hnil5 hb5)
        go_roundw
        case rel =>
          obtain ⟨hblk, hown, hbel⟩ := unhide HH
          obtain ⟨hown5, hgr5⟩ := unhide H5
          have hx : lagOf false (v : Int) = (q : Int) - 1 := by unfold lagOf; rw [he]; rw [if_neg (fun h => by simp at h)]
          obtain ⟨q1, q2, q3, q4⟩ := cfg_push hcW hblk hown hbel hzr hown5 hgr5
          refine ⟨k + 1, _, by omega, by go_num, q1, ?_, q3, q4, fun h => absurd h (by omega)⟩
          rw [unhide HL, hx]; exact q2
        case measure => simp [intOf]; omega
    · have hkK : k = K := by omega
      have hS2 : (lagsOf S st).take k = lagsOf S st := by rw [hkK, ← unhide HK]; exact List.take_length
      rw [hS2] at hown
      have hlag : LagSrc wr lv (lagsOf S st) := lagSrc_of_owns (by rw [hkK, ← unhide HK] at hown; exact hown) (fun h0 => hnl (by rw [hkK, ← unhide HK]; exact h0))
      obtain ⟨lp, lm, lc, rfl⟩ : ∃ lp lm lc, lv = .slice lp lm lc := by
        rcases hown.2 with ⟨h1, h2⟩ | ⟨g, cap, cur, h1, _⟩
        · exact ⟨none, 0, 0, h1⟩
        · exact ⟨_, _, _, h1⟩
      have HQ := hide (And.intro hlag hbel)
      have hcl := hblk.lt
      have hsc : (Tryz.prog.info? 26).map (·.size) = some (cfgV n win dN kN (.slice lp lm lc)).size := Tryz.sizeCfg
      clear hown hbel hS2 hlag hnl
      by_cases hkS : k < S.size
      · have d1 : decide (k < S.size) = true := by simp; omega
        have d2 : decide ((k : Int) < 8) = false := by simp; omega
        clear hK8 hkK hlt hkS
        go_wp2_with (refine wpList_load_blk rfl 26 _ rfl c rfl 26 (cfgV n win dN kN (.slice lp lm lc)) _ hblk Tryz.underlying26 rfl hsc ?_)
        obtain ⟨hlag, hbel⟩ := unhide HQ
        have hl8 : (lagsOf S st).length ≤ 8 := by rw [lagsOf_len]; omega
        have hlr : ∀ x ∈ lagsOf S st, -1 ≤ x ∧ x ≤ 20 := fun x hx => by
          simp only [lagsOf, List.mem_map] at hx
          obtain ⟨y, _, rfl⟩ := hx
          have := lagOf_rng st y
          omega
        refine (ppnew_any n win dN kN _ (lagsOf S st) wr hlag hl8 hlr hn24.1 hn24.2 hw18.1 hw18.2 (by omega) (by omega) ⟨_, _, _, rfl⟩).mono ?_
        rintro e w6 ⟨g, pv, pb, F, rfl, hQ6, hF6, hb6⟩
        have hblk6 : Blk w6 c (cfgV n win dN kN (.slice lp lm lc)) 26 := (hb6.block c hcl).trans hblk
        have h0c : w.heap.size < c := by
          have := (unhide HX).2.1.lt
          have := (unhide HW5).2.2
          omega
        have hz06 : Blk w6 w.heap.size zCfg 26 := ((hb6.block _ (by omega)).trans (hbel.block _ h0c)).trans (unhide HX).2.1
        have k0 : w6.cell? ⟨c, 0, none⟩ = some (.int .i64 (n : Int)) := hblk6.cell 0
        have k1 : w6.cell? ⟨c, 1, none⟩ = some (.int .i64 (win : Int)) := hblk6.cell 1
        have k2 : w6.cell? ⟨c, 2, none⟩ = some (.int .i64 (dN : Int)) := hblk6.cell 2
        have k3 : w6.cell? ⟨c, 3, none⟩ = some (.int .i64 (kN : Int)) := hblk6.cell 3
        have k4 : w6.cell? ⟨c, 4, none⟩ = some (.slice lp lm lc) := hblk6.cell 4
        have q0 : w6.cell? ⟨w.heap.size, 0, none⟩ = some (.int .i64 0) := hz06.cell 0
        have q1 : w6.cell? ⟨w.heap.size, 1, none⟩ = some (.int .i64 0) := hz06.cell 1
        have q2 : w6.cell? ⟨w.heap.size, 2, none⟩ = some (.int .i64 0) := hz06.cell 2
        have q3 : w6.cell? ⟨w.heap.size, 3, none⟩ = some (.int .i64 0) := hz06.cell 3
        have q4 : w6.cell? ⟨w.heap.size, 4, none⟩ = some (.slice none 0 0) := hz06.cell 4
        have r0 : w6.frozen? ⟨w.heap.size, 0, none⟩ = false := hz06.frozen 0
        have r1 : w6.frozen? ⟨w.heap.size, 1, none⟩ = false := hz06.frozen 1
        have r2 : w6.frozen? ⟨w.heap.size, 2, none⟩ = false := hz06.frozen 2
        have r3 : w6.frozen? ⟨w.heap.size, 3, none⟩ = false := hz06.frozen 3
        have r4 : w6.frozen? ⟨w.heap.size, 4, none⟩ = false := hz06.frozen 4
        have HH := hide (And.intro hQ6 (And.intro hF6 (And.intro hb6 (And.intro hbel hz06))))
        clear hQ6 hF6 hb6 hbel hz06 hblk6 hblk hlag hl8 hlr
        go_upto_region 10 with fail
        go_region
        go_wp2_with fail
        obtain ⟨hQ6, hF6, hb6, hbel, hz06⟩ := unhide HH
        have hzF : Blk ((((((w6.setCell ⟨w.heap.size, 0, none⟩ (.int .i64 (n : Int))).setCell ⟨w.heap.size, 1, none⟩ (.int .i64 (win : Int))).setCell ⟨w.heap.size, 2, none⟩ (.int .i64 (dN : Int))).setCell ⟨w.heap.size, 3, none⟩ (.int .i64 (kN : Int))).setCell ⟨w.heap.size, 4, none⟩ (.slice lp lm lc)).drew) w.heap.size (cfgV n win dN kN (.slice lp lm lc)) 26 :=
          ((((hz06.set 0 _).set 1 _).set 2 _).set 3 _).set 4 _
        refine bodyPost_ret (v := .tuple #[.pointer (some ⟨g, 0, none⟩), .agg (cfgV n win dN kN (.slice lp lm lc)), .bool true]) ?_ rfl ⟨g, pv, pb, F, .slice lp lm lc, ?_, ⟨_, _, _, rfl⟩, ?_, ?_, ?_⟩
        · rw [results_tmp_cell_tmp Tryz.results9]
          exact ret_tmp_cell_tmp hzF Tryz.underlying26 rfl hsc
        · rw [← (unhide HNW).1, ← (unhide HNW).2, (unhide HDK).1, (unhide HDK).2]
        · rw [← (unhide HNW).1, ← (unhide HNW).2, (unhide HDK).1]
          refine hQ6.same (fun q hq => ?_)
          have hne : q ≠ w.heap.size := by have := hF6 q hq; omega
          show ((((((w6.setCell ⟨w.heap.size, 0, none⟩ (.int .i64 (n : Int))).setCell ⟨w.heap.size, 1, none⟩ (.int .i64 (win : Int))).setCell ⟨w.heap.size, 2, none⟩ (.int .i64 (dN : Int))).setCell ⟨w.heap.size, 3, none⟩ (.int .i64 (kN : Int))).setCell ⟨w.heap.size, 4, none⟩ (.slice lp lm lc))).heap[q]? = _
          rw [heap_setCell_other _ _ _ _ hne, heap_setCell_other _ _ _ _ hne, heap_setCell_other _ _ _ _ hne, heap_setCell_other _ _ _ _ hne, heap_setCell_other _ _ _ _ hne]
        · intro q hq
          have := hF6 q hq
          omega
        · have z0 := (unhide HX).1.size
          have hB6 : Below w.heap.size w w6 := ((unhide HX).1.trans (hbel.mono (by omega))).trans (hb6.mono (by omega))
          exact (((((hB6.setCell (p := ⟨w.heap.size, 0, none⟩) (Nat.le_refl _) _).setCell (p := ⟨w.heap.size, 1, none⟩) (Nat.le_refl _) _).setCell (p := ⟨w.heap.size, 2, none⟩) (Nat.le_refl _) _).setCell (p := ⟨w.heap.size, 3, none⟩) (Nat.le_refl _) _).setCell (p := ⟨w.heap.size, 4, none⟩) (Nat.le_refl _) _).drew
      · have d1 : decide (k < S.size) = false := by simp; omega
        clear hK8 hkK hlt hkS
        go_wp2_with (refine wpList_load_blk rfl 26 _ rfl c rfl 26 (cfgV n win dN kN (.slice lp lm lc)) _ hblk Tryz.underlying26 rfl hsc ?_)
        obtain ⟨hlag, hbel⟩ := unhide HQ
        have hl8 : (lagsOf S st).length ≤ 8 := by rw [lagsOf_len]; omega
        have hlr : ∀ x ∈ lagsOf S st, -1 ≤ x ∧ x ≤ 20 := fun x hx => by
          simp only [lagsOf, List.mem_map] at hx
          obtain ⟨y, _, rfl⟩ := hx
          have := lagOf_rng st y
          omega
        refine (ppnew_any n win dN kN _ (lagsOf S st) wr hlag hl8 hlr hn24.1 hn24.2 hw18.1 hw18.2 (by omega) (by omega) ⟨_, _, _, rfl⟩).mono ?_
        rintro e w6 ⟨g, pv, pb, F, rfl, hQ6, hF6, hb6⟩
        have hblk6 : Blk w6 c (cfgV n win dN kN (.slice lp lm lc)) 26 := (hb6.block c hcl).trans hblk
        have h0c : w.heap.size < c := by
          have := (unhide HX).2.1.lt
          have := (unhide HW5).2.2
          omega
        have hz06 : Blk w6 w.heap.size zCfg 26 := ((hb6.block _ (by omega)).trans (hbel.block _ h0c)).trans (unhide HX).2.1
        have k0 : w6.cell? ⟨c, 0, none⟩ = some (.int .i64 (n : Int)) := hblk6.cell 0
        have k1 : w6.cell? ⟨c, 1, none⟩ = some (.int .i64 (win : Int)) := hblk6.cell 1
        have k2 : w6.cell? ⟨c, 2, none⟩ = some (.int .i64 (dN : Int)) := hblk6.cell 2
        have k3 : w6.cell? ⟨c, 3, none⟩ = some (.int .i64 (kN : Int)) := hblk6.cell 3
        have k4 : w6.cell? ⟨c, 4, none⟩ = some (.slice lp lm lc) := hblk6.cell 4
        have q0 : w6.cell? ⟨w.heap.size, 0, none⟩ = some (.int .i64 0) := hz06.cell 0
        have q1 : w6.cell? ⟨w.heap.size, 1, none⟩ = some (.int .i64 0) := hz06.cell 1
        have q2 : w6.cell? ⟨w.heap.size, 2, none⟩ = some (.int .i64 0) := hz06.cell 2
        have q3 : w6.cell? ⟨w.heap.size, 3, none⟩ = some (.int .i64 0) := hz06.cell 3
        have q4 : w6.cell? ⟨w.heap.size, 4, none⟩ = some (.slice none 0 0) := hz06.cell 4
        have r0 : w6.frozen? ⟨w.heap.size, 0, none⟩ = false := hz06.frozen 0
        have r1 : w6.frozen? ⟨w.heap.size, 1, none⟩ = false := hz06.frozen 1
        have r2 : w6.frozen? ⟨w.heap.size, 2, none⟩ = false := hz06.frozen 2
        have r3 : w6.frozen? ⟨w.heap.size, 3, none⟩ = false := hz06.frozen 3
        have r4 : w6.frozen? ⟨w.heap.size, 4, none⟩ = false := hz06.frozen 4
        have HH := hide (And.intro hQ6 (And.intro hF6 (And.intro hb6 (And.intro hbel hz06))))
        clear hQ6 hF6 hb6 hbel hz06 hblk6 hblk hlag hl8 hlr
        go_upto_region 10 with fail
        go_region
        go_wp2_with fail
        obtain ⟨hQ6, hF6, hb6, hbel, hz06⟩ := unhide HH
        have hzF : Blk ((((((w6.setCell ⟨w.heap.size, 0, none⟩ (.int .i64 (n : Int))).setCell ⟨w.heap.size, 1, none⟩ (.int .i64 (win : Int))).setCell ⟨w.heap.size, 2, none⟩ (.int .i64 (dN : Int))).setCell ⟨w.heap.size, 3, none⟩ (.int .i64 (kN : Int))).setCell ⟨w.heap.size, 4, none⟩ (.slice lp lm lc)).drew) w.heap.size (cfgV n win dN kN (.slice lp lm lc)) 26 :=
          ((((hz06.set 0 _).set 1 _).set 2 _).set 3 _).set 4 _
        refine bodyPost_ret (v := .tuple #[.pointer (some ⟨g, 0, none⟩), .agg (cfgV n win dN kN (.slice lp lm lc)), .bool true]) ?_ rfl ⟨g, pv, pb, F, .slice lp lm lc, ?_, ⟨_, _, _, rfl⟩, ?_, ?_, ?_⟩
        · rw [results_tmp_cell_tmp Tryz.results9]
          exact ret_tmp_cell_tmp hzF Tryz.underlying26 rfl hsc
        · rw [← (unhide HNW).1, ← (unhide HNW).2, (unhide HDK).1, (unhide HDK).2]
        · rw [← (unhide HNW).1, ← (unhide HNW).2, (unhide HDK).1]
          refine hQ6.same (fun q hq => ?_)
          have hne : q ≠ w.heap.size := by have := hF6 q hq; omega
          show ((((((w6.setCell ⟨w.heap.size, 0, none⟩ (.int .i64 (n : Int))).setCell ⟨w.heap.size, 1, none⟩ (.int .i64 (win : Int))).setCell ⟨w.heap.size, 2, none⟩ (.int .i64 (dN : Int))).setCell ⟨w.heap.size, 3, none⟩ (.int .i64 (kN : Int))).setCell ⟨w.heap.size, 4, none⟩ (.slice lp lm lc))).heap[q]? = _
          rw [heap_setCell_other _ _ _ _ hne, heap_setCell_other _ _ _ _ hne, heap_setCell_other _ _ _ _ hne, heap_setCell_other _ _ _ _ hne, heap_setCell_other _ _ _ _ hne]
        · intro q hq
          have := hF6 q hq
          omega
        · have z0 := (unhide HX).1.size
          have hB6 : Below w.heap.size w w6 := ((unhide HX).1.trans (hbel.mono (by omega))).trans (hb6.mono (by omega))
          exact (((((hB6.setCell (p := ⟨w.heap.size, 0, none⟩) (Nat.le_refl _) _).setCell (p := ⟨w.heap.size, 1, none⟩) (Nat.le_refl _) _).setCell (p := ⟨w.heap.size, 2, none⟩) (Nat.le_refl _) _).setCell (p := ⟨w.heap.size, 3, none⟩) (Nat.le_refl _) _).setCell (p := ⟨w.heap.size, 4, none⟩) (Nat.le_refl _) _).drew
end Go.Proofs.YtandblanpafjoabGreatDoor

