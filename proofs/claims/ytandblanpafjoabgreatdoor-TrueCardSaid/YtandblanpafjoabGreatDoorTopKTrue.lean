import Derived.Test.YtandblanpafjoabGreatDoorPack43
import Derived.Test.YtandblanpafjoabGreatDoorPack24
import Derived.Deep.CutRange
import Derived.Deep.QuietTactic
import Derived.BigQuiet
namespace Go.Proofs.YtandblanpafjoabGreatDoor
open Go.RowKit Go.Extern.Stop Go.Stop Go.Extern

/-! True. -/
theorem RecAt.mono {w : World} {base base' rb n : Nat} {lb lc : Nat → Nat} {real : Nat → List Int} (h : RecAt w base rb n lb lc real) (hb : base' ≤ base) : RecAt w base' rb n lb lc real :=
  ⟨h.row, fun p hp => owns_mono (h.own p hp) hb, h.apart, h.off, Nat.le_trans hb h.bs⟩
theorem actR_cases {m : NetM} {real : Nat → List Int} (h : Inv m real) (b : Nat) : ((actR m b).1 = -1 ∧ actReal m real b = real) ∨ ∃ p : Nat, p < m.players ∧ (actR m b).1 = (p : Int) ∧ (0 ≤ (actR m b).2 ∧ (actR m b).2 ≤ 255) ∧ actReal m real b = grown real p (actR m b).2 := by
  unfold actR actReal
  by_cases h5 : b % 5 = 0
  · rw [if_pos h5, if_pos h5]; exact .inl ⟨rfl, rfl⟩
  · rw [if_neg h5, if_neg h5]
    by_cases h0 : (m.advance (actP m.players b) (actI b)).1 = 0
    · rw [if_pos h0, if_pos h0]
      exact .inr ⟨_, actP_lt h b, rfl, actI_rng b, rfl⟩
    · rw [if_neg h0, if_neg h0]; exact .inl ⟨rfl, rfl⟩
theorem knTo_at (x : PeerM) (n p : Nat) (hp : p < n) : knTo x n p = (x.known p).length := by unfold knTo; rw [if_pos hp]
theorem stands_known (x : PeerM) (n p : Nat) (hp : p < n) (hn : n ≤ 4) : (stands x n n)[3 + p]? = some (.int .i64 ((x.known p).length : Int)) := by
  have h1 : p = 0 ∨ p = 1 ∨ p = 2 ∨ p = 3 := by omega
  rcases h1 with rfl | rfl | rfl | rfl <;> simp [stands, knTo_at _ _ _ hp]
theorem play_rows {m : NetM} {real : Nat → List Int} (h : Inv m real) {p : Nat} (hp : p < m.players) : stF m.players (insM (m.peers p) m.players) (m.conf p) = playL m.players (rowsM real m.players (m.conf p)) := by
  unfold playL
  rw [stF_play, rowsM_len]
  apply stF_congr
  intro k hk
  rw [← h.frames hp, framesM_get _ _ _ _ hk]
set_option maxRecDepth 10000 in
set_option maxHeartbeats 8000000 in
theorem true_any (pl wn dl sr : Int) (S T : ByteArray) (w : World) (hgL : Laid w) (hS : S.size ≤ maxLen) (hpl : -9223372036854775808 ≤ pl ∧ pl ≤ 9223372036854775807) (hwn : -9223372036854775808 ≤ wn ∧ wn ≤ 9223372036854775807) (hdl : -9223372036854775808 ≤ dl ∧ dl ≤ 9223372036854775807) (hsr : -9223372036854775808 ≤ sr ∧ sr ≤ 9223372036854775807) :
    Calls Tryz.prog 4 #[.int .i64 pl, .int .i64 wn, .int .i64 dl, .int .i64 sr, .string S, .string T] w fun e w' => e = .returned (.bool true) ∧ Below w.heap.size w w' := by
  by_cases hbig : 65536 < T.size
  · have hd : decide ((65536 : Int) < (T.size : Int)) = true := by simp; omega
    go_enter Tryz.func4, Tryz.ntmps4
    go_wp2
    go_ret
    exact ⟨rfl, Below.refl _ _⟩
  · have hd : decide ((65536 : Int) < (T.size : Int)) = false := by simp; omega
    have hop := opened_any pl wn dl sr S false w hS hpl hwn hdl hsr
    have p1 := pickN_lt pl 3 (by omega)
    have p2 := pickN_lt wn 8 (by omega)
    have p3 := pickN_lt dl 4 (by omega)
    obtain ⟨n, hn⟩ : ∃ n : Nat, 2 + pickN pl 3 = n := ⟨_, rfl⟩
    obtain ⟨win, hwin⟩ : ∃ n : Nat, 1 + pickN wn 8 = n := ⟨_, rfl⟩
    obtain ⟨dN, hdN⟩ : ∃ n : Nat, pickN dl 4 = n := ⟨_, rfl⟩
    obtain ⟨kN, hkN⟩ : ∃ n : Nat, pickN sr 2 = n := ⟨_, rfl⟩
    rw [hn, hwin, hdN, hkN] at hop
    have hn24 : 2 ≤ n ∧ n ≤ 4 := by omega
    have hw8 : 1 ≤ win ∧ win ≤ 8 := by omega
    have hd3 : dN ≤ 3 := by omega
    have hlim : T.size ≤ 65536 := by omega
    clear p1 p2 p3 hn hwin hdN hkN hpl hwn hdl hsr hbig
    have HL := hide hgL
    clear hgL
    go_enter Tryz.func4, Tryz.ntmps4
    go_wp2_with fail
    refine hop.mono ?_
    clear hop
    rintro e w1 ⟨g, pv, pb, F, lv, rfl, ⟨lp, lm, lcc, rfl⟩, hQ, hF, hb1⟩
    have H1 := hide (And.intro hQ (And.intro hF hb1))
    clear hQ hF hb1
    unfold cfgV
    go_wp2_with fail
    have b2 : Below w1.heap.size w1 (w1.alloc (.cells (cfgV n win dN kN (.slice lp lm lcc)) 26)) := (Below.refl _ w1).alloc (Nat.le_refl _) _
    have x2 : Blk (w1.alloc (.cells (cfgV n win dN kN (.slice lp lm lcc)) 26)) w1.heap.size (cfgV n win dN kN (.slice lp lm lcc)) 26 := Blk.new _ _ _
    have z2 : (w1.alloc (.cells (cfgV n win dN kN (.slice lp lm lcc)) 26)).heap.size = w1.heap.size + 1 := by simp
    unfold cfgV at b2 x2 z2
    generalize w1.alloc (.cells #[.int .i64 (n : Int), .int .i64 (win : Int), .int .i64 (dN : Int), .int .i64 (kN : Int), .slice lp lm lcc] 26) = W2 at *
    obtain ⟨cb, hcb⟩ : ∃ cb, cb = w1.heap.size := ⟨_, rfl⟩
    rw [← hcb]
    rw [← hcb] at x2 b2 z2
    have H2 := hide (And.intro b2 (And.intro x2 (And.intro z2 hcb)))
    clear b2 x2 z2 hcb
    refine (record_any n dN W2 hn24.1 hn24.2 hd3).mono ?_
    rintro e w3 ⟨rfl, hR, hb3⟩
    obtain ⟨rb, hrb⟩ : ∃ rb, rb = W2.heap.size := ⟨_, rfl⟩
    rw [← hrb] at hR
    rw [← hrb]
    have hTS : TS w w3 g cb rb pv pb n win dN kN (.slice lp lm lcc) F (fun p => rb + 1 + p) (fun _ => dN) (newM n win dN (lagsOf S false)) (fun _ => List.replicate dN 0) := by
      obtain ⟨hQ, hF, hb1⟩ := unhide H1
      obtain ⟨b2, x2, z2, hcb⟩ := unhide H2
      have z1 := hb1.size
      rw [hcb] at b2 z2
      have hQ2 := hQ.below b2
      have hfl : ∀ k, F k → k < w1.heap.size := fun k hk => hQ.lt k hk
      refine ⟨hQ2.below hb3, hR.mono (by omega), (hb3.block cb (by omega)).trans x2, fun k hk => ⟨hF k hk, ?_, ?_⟩, ?_, by omega, (hb1.trans (b2.mono z1)).trans (hb3.mono (by omega))⟩
      · rintro (e | ⟨p, _, e⟩)
        · have := hfl k hk; omega
        · have := hfl k hk
          have e2 : k = rb + 1 + p := e
          omega
      · have := hfl k hk; omega
      · rintro (e | ⟨p, _, e⟩)
        · omega
        · have e2 : cb = rb + 1 + p := e
          omega
    have hInv := Inv.new n win dN (lagsOf S false) hn24 hd3
    have hBd := Bd.new n win dN (lagsOf S false)
    have HT := hide (And.intro hTS (And.intro hInv hBd))
    clear hTS hInv hBd hR hb3 hrb H1 H2
    go_wp2_with fail
    go_loopw [17] (fun s17 wr => ∃ (i : Nat) (F : Nat → Prop) (lb lc : Nat → Nat) (m : NetM) (real : Nat → List Int), i ≤ T.size ∧ s17 = .int .i64 (i : Int) ∧ TS w wr g cb rb pv pb n win dN kN (.slice lp lm lcc) F lb lc m real ∧ Inv m real ∧ Bd m n (12 * i) i 0 ∧ m.window = win ∧ m.delay = dN) (fun s17 _ => T.size - (intOf s17).toNat)
    case atStart =>
      obtain ⟨hTS, hInv, hBd⟩ := unhide HT
      exact ⟨0, F, _, _, _, _, by omega, rfl, hTS, hInv, hBd, rfl, rfl⟩
    case round =>
      obtain ⟨i, F1, lb, lc, m, real, hi, rfl, hTS, hInv, hBd, hmw, hmd⟩ := hrel
      have HM := hide (And.intro hmw hmd)
      by_cases hlt : i < T.size
      · have di : decide (i < T.size) = true := by simp; omega
        have c0 : wr.cell? ⟨cb, 0, none⟩ = some (.int .i64 (n : Int)) := hTS.cfg.cell 0
        obtain ⟨b, hb⟩ : ∃ b : Nat, T[i].toNat = b := ⟨_, rfl⟩
        have hb2 : b < 256 := by rw [← hb]; exact T[i].toNat_lt
        have HS1 := hide (And.intro hTS (And.intro hInv hBd))
        clear hTS hInv hBd hmw hmd HT
        go_upto_region 10 with fail
        refine wp_region_noPanic ?_
        refine wp_held_reads 6 (fun W' => W'.cell? ⟨cb, 0, none⟩ = some (.int .i64 (n : Int))) (by kernel_rfl) (by simp) (by kernel_rfl) (by kernel_rfl) (fun _ _ _ _ _ h => h) c0 ?_
        simp only [List.take_succ_cons, List.take_zero]
        refine wpHeld_op ?y0 rfl ?z0 ?_
        case z0 => intro w' hS; go_simp; rfl
        refine wpHeld_op ?y1 rfl ?z1 ?_
        case z1 => intro w' hS; go_simp; rfl
        refine wpHeld_op ?y2 rfl ?z2 ?_
        case z2 => intro w' hS; go_simp; rfl
        refine wpHeld_op ?y3 rfl ?z3 ?_
        case z3 => intro w' hS; go_simp; rfl
        refine wpHeld_op ?y4 rfl ?z4 ?_
        case z4 => intro w' hS; go_simp; rfl
        refine wpHeld_op ?y5 rfl ?z5 ?_
        case z5 => intro w' hS; go_simp; rfl
        unfold wpHeld
        refine wpAnyH_all (rs := [6]) (by kernel_rfl) (by simp) ?_
        intro j hj
        obtain rfl : j = 6 := by simpa using hj
        refine wpOp_of_list _ rfl rfl ?_
        go_wp2_with fail
        try rw [hb]
        obtain ⟨hTS, hInv, hBd⟩ := unhide HS1
        have hTd : TS w wr.drew g cb rb pv pb n win dN kN (.slice lp lm lcc) F1 lb lc m real := hTS.below (Below.refl _ wr).drew
        refine (act_any g pv pb F1 m b n (12 * i) i 0 wr.drew (hTd.laid (unhide HL)) hTd.net hBd hb2 (by omega) (by omega) (by omega)).mono ?_
        rintro e w4 ⟨rfl, hC, F2, hQ2, hF2⟩
        have hT4 := hTd.act hC hQ2 hF2
        have hI4 := hInv.act b
        have hB4 := hBd.act hn24.2 b
        have hA := actR_cases hInv b
        have hS4 := act_same m b
        rw [hBd.players] at hA
        obtain ⟨m4, hm4⟩ : ∃ m4, actM m b = m4 := ⟨_, rfl⟩
        obtain ⟨r4, hr4⟩ : ∃ r4, actReal m real b = r4 := ⟨_, rfl⟩
        rw [hm4] at hT4 hI4 hB4 hS4
        rw [hr4] at hI4 hA
        obtain ⟨q1, hq1⟩ : ∃ q, (actR m b).1 = q := ⟨_, rfl⟩
        obtain ⟨q2, hq2⟩ : ∃ q, (actR m b).2 = q := ⟨_, rfl⟩
        rw [hq1, hq2]
        rw [hq1, hq2] at hA
        have hS4c : w4.cell? ⟨cb, 0, none⟩ = some (.int .i64 (n : Int)) := hT4.cfg.cell 0
        have H4 := hide (And.intro hT4 (And.intro hI4 (And.intro hB4 (And.intro hA hS4))))
        clear hTS hInv hBd hTd hC hQ2 hF2 hT4 hI4 hB4 hA hS4 hm4 hr4 hq1 hq2 HS1 hb c0
        go_wp2_with fail
        refine ⟨hS4c, ?_⟩
        refine wpAnyH_take (i := 7) (v := .tuple #[.int .i64 q1, .int .u8 q2]) rfl (by kernel_rfl) (by kernel_rfl) (by kernel_rfl) (fun _ _ _ h => h) (Or.inl ⟨by rfl, ?g7⟩) hS4c ?_
        case g7 => intro w' _; go_simp
        refine wpAnyH_take (i := 8) (v := .int .i64 q1) rfl (by kernel_rfl) (by kernel_rfl) (by kernel_rfl) (fun _ _ _ h => h) (Or.inl ⟨by rfl, ?g8⟩) hS4c ?_
        case g8 => intro w' _; go_simp
        refine wpAnyH_take (i := 9) (v := .int .u8 q2) rfl (by kernel_rfl) (by kernel_rfl) (by kernel_rfl) (fun _ _ _ h => h) (Or.inl ⟨by rfl, ?g9⟩) hS4c ?_
        case g9 => intro w' _; go_simp
        refine wpAnyH_take (i := 10) (v := .int .i64 q1) rfl (by kernel_rfl) (by kernel_rfl) (by kernel_rfl) (fun _ _ _ h => h) (Or.inl ⟨by rfl, ?g10⟩) hS4c ?_
        case g10 => intro w' _; go_simp
        refine wpAnyH_take (i := 11) (v := .int .u8 q2) rfl (by kernel_rfl) (by kernel_rfl) (by kernel_rfl) (fun _ _ _ h => h) (Or.inl ⟨by rfl, ?g11⟩) hS4c ?_
        case g11 => intro w' _; go_simp
        refine ⟨by kernel_rfl, ?_⟩
        go_wp2_with fail
        refine NoPanic.normal ?_
        clear hS4c
        go_upto_if 70 with fail
        go_cut [17] from 53 to 194 (fun s17 wx => s17 = .int .i64 (i : Int) ∧ ∃ lb' lc', TS w wx g cb rb pv pb n win dN kN (.slice lp lm lcc) F2 lb' lc' m4 r4)
        case first =>
          obtain ⟨hT4, hI4, hB4, hA, hS4⟩ := unhide H4
          rcases hA with ⟨hA1, hA2⟩ | ⟨p, hp, hA1, hA2, hA3⟩
          · subst hA1 hA2
            have HX := hide hT4
            clear hT4 hI4 hB4 hS4
            go_wp2_with fail
            go_meet
            case rel => exact ⟨rfl, _, _, unhide HX⟩
          · subst hA1 hA3
            have c1 : w4.cell? ⟨rb, p, none⟩ = some (.slice (some ⟨lb p, 0, none⟩) (real p).length (lc p)) := (hT4.rcd.cell p hp).1
            have hown := hT4.rcd.own p hp
            have hrl : (real p).length ≤ 1000 := by
              have hpp := hS4.1
              have := hI4.realLe (p := p) (by have := hB4.players; omega)
              rw [grown_same, List.length_append] at this
              omega
            unfold recV at hown
            have hwz := hT4.bel.size
            obtain ⟨L, hL⟩ : ∃ L, (real p).length = L := ⟨_, rfl⟩
            obtain ⟨g1, hg1⟩ : ∃ g, lb p = g := ⟨_, rfl⟩
            obtain ⟨m1, hm1⟩ : ∃ g, lc p = g := ⟨_, rfl⟩
            have HE := hide (And.intro hL (And.intro hg1 hm1))
            rw [hL, hg1, hm1] at c1 hown
            rw [hL] at hrl
            have HX := hide (And.intro hT4 hown)
            clear hT4 hI4 hB4 hS4 hown hL hg1 hm1
            obtain ⟨i8, hi8, hz0, hz1, hz2⟩ := info_parts Tryz.infoU8
            go_wp2_with (at_builtin; (refine wpList_append_own_at (w4.alloc (.cells #[.int .u8 q2] 5)) rfl (.tmp 76) (.tmp 78) 35 rfl w.heap.size 5 i8 (.int .u8 0) 1 1 Tryz.underlying35 hi8 hz0 hz1 hz2 rfl (by decide) (.slice (some ⟨g1, 0, none⟩) L m1) L _ rfl ((unhide HX).2.alloc _) ⟨w4.heap.size, 0, none⟩ 1 1 [.int .u8 q2] rfl rfl (cell_one_new _ _ _) (fun x hx => by simp at hx; subst hx; rfl) (by unfold maxLen; omega) (by omega) (by simp; omega) ?_); intro v5 w5 hown5 hgr5 hnil5 hloc5; obtain ⟨hL, hg1, hm1⟩ := unhide HE; obtain ⟨g2, c2, hv5, hfz5, ⟨cv5, hc5⟩, hT5⟩ := (unhide HX).1.push hp (v' := v5) (by rw [hL]; exact hown5) (by rw [hg1]; exact hgr5) (by rw [hg1]; exact hloc5.elim (fun h => .inl h) (fun h => .inr (h.trans (by simp)))); rw [hL] at hv5; subst hv5; have H5 := hide hT5; clear hown5 hgr5 hnil5 hloc5 hT5 hL hg1 hm1)
            go_meet
            case rel => exact ⟨rfl, _, _, unhide H5⟩
        case rest =>
          obtain ⟨rfl, lb', lc', hT5⟩ := hcut
          obtain ⟨_, hI4, hB4, _, hS4⟩ := unhide H4
          have HR := hide (And.intro hT5 (And.intro hI4 (And.intro hB4 hS4)))
          clear hT5 hI4 hB4 hS4 H4
          have hw1 : IntKind.i64.wrap ((T.size : Int) - 1) = (T.size : Int) - 1 := i64_id _ (by omega) (by omega)
          go_upto_region 13 with fail
          go_cut [17, 90] from 53 to 194 (fun s17 s90 wx => s17 = .int .i64 (i : Int) ∧ s90 = .bool (decide (i % 16 ≠ 15 ∧ i + 1 ≠ T.size)) ∧ wx = wc)
          case first =>
            by_cases h16 : i % 16 = 15
            · have e1 : ((i : Int) % 16 != 15) = false := by rw [bne_eq_false_iff_eq]; omega
              have e0 : decide (i % 16 ≠ 15 ∧ i + 1 ≠ T.size) = false := by simp; omega
              have HE0 := hide e0
              clear e0 h16
              go_wp2_with fail
              go_meet
              case rel => exact ⟨rfl, by rw [unhide HE0], rfl⟩
            · have e1 : ((i : Int) % 16 != 15) = true := by rw [bne_iff_ne]; omega
              by_cases hla : i + 1 = T.size
              · have e2 : ((i : Int) != (T.size : Int) - 1) = false := by rw [bne_eq_false_iff_eq]; omega
                have e0 : decide (i % 16 ≠ 15 ∧ i + 1 ≠ T.size) = false := by simp; omega
                have HE0 := hide e0
                clear e0 h16 hla
                go_wp2_with fail
                go_meet
                case rel => exact ⟨rfl, by rw [unhide HE0], rfl⟩
              · have e2 : ((i : Int) != (T.size : Int) - 1) = true := by rw [bne_iff_ne]; omega
                have e0 : decide (i % 16 ≠ 15 ∧ i + 1 ≠ T.size) = true := by simp; omega
                have HE0 := hide e0
                clear e0 h16 hla
                go_wp2_with fail
                go_meet
                case rel => exact ⟨rfl, by rw [unhide HE0], rfl⟩
          case rest =>
            obtain ⟨rfl, rfl, rfl⟩ := hcut
            obtain ⟨sk, hsk⟩ : ∃ sk, decide (i % 16 ≠ 15 ∧ i + 1 ≠ T.size) = sk := ⟨_, rfl⟩
            rw [hsk]
            clear hsk
            cases sk with
            | true =>
              go_wp2_with fail
              go_roundw
              case rel =>
                obtain ⟨hT5, hI4, hB4, hS4⟩ := unhide HR
                exact ⟨i + 1, F2, lb', lc', m4, r4, by omega, by go_num, hT5, hI4, by rw [show 12 * (i + 1) = 12 * i + 12 by omega]; exact hB4, by rw [hS4.2.1]; exact (unhide HM).1, by rw [hS4.2.2.1]; exact (unhide HM).2⟩
              case measure => simp [intOf]; omega
            | false =>
              obtain ⟨W5, hW5⟩ : ∃ W5, W5 = wc := ⟨_, rfl⟩
              subst hW5
              go_wp2_with fail
              go_loopw [20] (fun s20 w2 => ∃ p : Nat, p ≤ n ∧ s20 = .int .i64 (p : Int) ∧ Below W5.heap.size W5 w2) (fun s20 _ => n - (intOf s20).toNat)
              case atStart => exact ⟨0, by omega, rfl, Below.refl _ _⟩
              case round =>
                obtain ⟨w6, hw6⟩ : ∃ x, x = wr := ⟨_, rfl⟩
                subst hw6
                obtain ⟨p, hp, rfl, hb6⟩ := hrel
                obtain ⟨hT5, hI4, hB4, hS4⟩ := unhide HR
                have hT6 := hT5.below hb6
                have cc0 : w6.cell? ⟨cb, 0, none⟩ = some (.int .i64 (n : Int)) := hT6.cfg.cell 0
                by_cases hpn : p < n
                · have dp : decide (p < n) = true := by simp; omega
                  have H6 := hide (And.intro hT6 (And.intro hI4 (And.intro hB4 (And.intro hS4 hb6))))
                  clear hT5 hT6 hI4 hB4 hS4 hb6
                  go_wp2_with fail
                  obtain ⟨hT6, hI4, hB4, hS4, hb6⟩ := unhide H6
                  have hpl := hB4.players
                  refine (pppeer_any g p pv pb F2 m4 w6 hT6.net (by omega)).mono ?_
                  rintro e w7 ⟨rfl, hb7⟩
                  rw [hpl]
                  have hT7 := hT6.below hb7
                  have bX : Below w7.heap.size w7 (w7.alloc (.cells (stands (m4.peers p) n n) 38)) := (Below.refl _ w7).alloc (Nat.le_refl _) _
                  have xX : Blk (w7.alloc (.cells (stands (m4.peers p) n n) 38)) w7.heap.size (stands (m4.peers p) n n) 38 := Blk.new _ _ _
                  have hkn := stands_known (m4.peers p) n p hpn hn24.2
                  have hcf : m4.conf p = confTo (m4.peers p) n := by unfold NetM.conf; rw [hpl]
                  have f1 := confTo_frame (m4.peers p) n
                  have f2 := hI4.win p (by omega)
                  have f3 := hI4.len p (by omega)
                  have f4 := hI4.own p (by omega)
                  have f5 := hI4.fr p (by omega)
                  have f6 : ∀ q, q < n → confTo (m4.peers p) n ≤ (r4 q).length ∧ (r4 q).length ≤ 1000 := fun q hq => by
                    have e1 := confTo_known (m4.peers p) n q hq
                    have e2 := hI4.knownLe (p := p) (q := q) (by omega) (by omega)
                    have e3 := hI4.realLe (p := q) (by omega)
                    omega
                  have f7 := play_rows hI4 (p := p) (by omega)
                  have f8 := fits_rows r4 n (confTo (m4.peers p) n) (by omega) hn24.2 (fun q hq => hI4.byte q (by omega))
                  rw [hcf, hS4.2.1, (unhide HM).1] at f2
                  rw [hS4.2.2.1, (unhide HM).2] at f3
                  rw [f4] at hkn
                  rw [hcf, hpl] at f7
                  have hT8 := hT7.below bX
                  have x0 : (w7.alloc (.cells (stands (m4.peers p) n n) 38)).cell? ⟨w7.heap.size, 0, none⟩ = some (.int .i64 ((m4.peers p).frame : Int)) := xX.cell 0
                  have x1 : (w7.alloc (.cells (stands (m4.peers p) n n) 38)).cell? ⟨w7.heap.size, 1, none⟩ = some (.int .i64 (confTo (m4.peers p) n : Int)) := xX.cell 1
                  have x3 := (xX.cell (3 + p)).trans hkn
                  have y0 : (w7.alloc (.cells (stands (m4.peers p) n n) 38)).cell? ⟨cb, 0, none⟩ = some (.int .i64 (n : Int)) := hT8.cfg.cell 0
                  have y1 : (w7.alloc (.cells (stands (m4.peers p) n n) 38)).cell? ⟨cb, 1, none⟩ = some (.int .i64 (win : Int)) := hT8.cfg.cell 1
                  have y2 : (w7.alloc (.cells (stands (m4.peers p) n n) 38)).cell? ⟨cb, 2, none⟩ = some (.int .i64 (dN : Int)) := hT8.cfg.cell 2
                  have y3 : (w7.alloc (.cells (stands (m4.peers p) n n) 38)).cell? ⟨rb, p, none⟩ = some (.slice (some ⟨lb' p, 0, none⟩) (r4 p).length (lc' p)) := (hT8.rcd.cell p hpn).1
                  have hbW : Below W5.heap.size W5 (w7.alloc (.cells (stands (m4.peers p) n n) 38)) := (hb6.trans (hb7.mono hb6.size)).trans (bX.mono (by have := hb6.size; have := hb7.size; omega))
                  obtain ⟨W7, hW7⟩ : ∃ W7, w7.alloc (.cells (stands (m4.peers p) n n) 38) = W7 := ⟨_, rfl⟩
                  rw [hW7] at x0 x1 x3 y0 y1 y2 y3 hT8 hbW
                  have hW7' : w7.alloc (.cells #[.int .i64 ((m4.peers p).frame : Int), .int .i64 (confTo (m4.peers p) n : Int), .int .i64 ((m4.peers p).dropped : Int), .int .i64 (knTo (m4.peers p) n 0 : Int), .int .i64 (knTo (m4.peers p) n 1 : Int), .int .i64 (knTo (m4.peers p) n 2 : Int), .int .i64 (knTo (m4.peers p) n 3 : Int)] 38) = W7 := hW7
                  have HX := hide (And.intro hT8 (And.intro hbW (And.intro f6 (And.intro f7 (And.intro f8 (And.intro f1 f2))))))
                  obtain ⟨fr, hfr⟩ : ∃ fr, (m4.peers p).frame = fr := ⟨_, rfl⟩
                  obtain ⟨cf, hcf2⟩ : ∃ cf, confTo (m4.peers p) n = cf := ⟨_, rfl⟩
                  obtain ⟨L, hL⟩ : ∃ L, (r4 p).length = L := ⟨_, rfl⟩
                  obtain ⟨g1, hg1⟩ : ∃ g, lb' p = g := ⟨_, rfl⟩
                  obtain ⟨c1, hc1⟩ : ∃ c, lc' p = c := ⟨_, rfl⟩
                  rw [hfr] at x0 f1 f2 f3 f5
                  rw [hcf2] at x1 f1 f2
                  rw [hL] at x3 y3 f3
                  rw [hg1, hc1] at y3
                  have HE := hide (And.intro hfr (And.intro hcf2 hL))
                  have HEc := hide hcf2
                  have d1 : decide ((fr : Int) < (cf : Int)) = false := by simp; omega
                  have hw2 : IntKind.i64.wrap ((fr : Int) - (cf : Int)) = (fr : Int) - (cf : Int) := i64_id _ (by omega) (by omega)
                  have d2 : decide ((win : Int) < (fr : Int) - (cf : Int)) = false := by simp; omega
                  have hw3 : IntKind.i64.wrap ((fr : Int) + (dN : Int)) = (fr : Int) + (dN : Int) := i64_id _ (by omega) (by omega)
                  have d3 : ((fr : Int) + (dN : Int) != (L : Int)) = false := by rw [bne_eq_false_iff_eq]; omega
                  have d1b : decide (fr < cf) = false := by simp; omega
                  have d2b : decide (win < fr - cf) = false := by simp; omega
                  have d3b : (fr + dN != L) = false := by rw [bne_eq_false_iff_eq]; omega
                  have i0 : (0 : Int) ≤ (p : Int) := by omega
                  have i1 : (p : Int) < (n : Int) := by omega
                  have i2 : (p : Int) < 4 := by omega
                  unfold stands
                  rw [hfr, hcf2]
                  rw [hfr, hcf2] at hW7'
                  have HFF := hide (And.intro f1 (And.intro f2 (And.intro f3 f5)))
                  clear hT6 hI4 hB4 hS4 hb6 hb7 hT7 hT8 bX xX hkn hcf f1 f2 f3 f4 f5 f6 f7 f8 hbW hpl hfr hcf2 hL hg1 hc1 cc0 hW7
                  go_wp2_with fail
                  try rw [hW7']
                  clear hW7'
                  have hxl : w7.heap.size < W7.heap.size := World.block_lt_of_cell? W7 _ x1
                  go_quiet (fail)
                  have HC := hide (And.intro x1 hxl)
                  clear x0 x3 y1 y2 y3 d1 d1b d2 d2b d3 d3b hw2 hw3 i2
                  go_wp2_with fail
                  clear x1 hxl
                  obtain ⟨hT8, hbW, f6, f7, f8, _, _⟩ := unhide HX
                  obtain ⟨hfr, hcf2, hL⟩ := unhide HE
                  obtain ⟨f1, f2, f3, f5⟩ := unhide HFF
                  have hbd : Below W7.heap.size W7 (W7.drewN nq) := below_drewN (Below.refl _ W7) nq
                  have hT9 := hT8.below hbd
                  rw [hcf2] at f6 f7 f8
                  refine (rows_any w.heap.size rb n cf lb' lc' r4 (W7.drewN nq) hT9.rcd hn24.1 hn24.2 (by omega) f6).mono ?_
                  rintro e w8 ⟨ov, rfl, hFr, hb8⟩
                  have hB8 : Below W7.heap.size W7 w8 := hbd.trans hb8
                  have hT10 := hT9.below hb8
                  have z0 : w8.cell? ⟨cb, 0, none⟩ = some (.int .i64 (n : Int)) := hT10.cfg.cell 0
                  have H8 := hide (And.intro hT10 (And.intro hB8 (And.intro hFr (And.intro f7 (And.intro f8 hbW)))))
                  clear hT8 hbW f6 f7 f8 hfr hcf2 hL f1 f2 f3 f5 hbd hT9 hFr hb8 hB8 hT10 HX HE y0
                  go_wp2_with fail
                  obtain ⟨hT10, hB8, hFr, f7, f8, hbW⟩ := unhide H8
                  refine (pplay_yes n ov (rowsM r4 n cf) w8 hn24.1 hn24.2 hFr f8.1 f8.2.1 f8.2.2.1 f8.2.2.2).mono ?_
                  rintro e w9 ⟨g9, rfl, hg9, hB9, hb9⟩
                  rw [← f7] at hB9
                  obtain ⟨SL, hSL⟩ : ∃ SL, stF n (insM (m4.peers p) n) cf = SL := ⟨_, rfl⟩
                  have hSl : SL.length = 288 := by rw [← hSL]; exact stF_len hn24.2 _ _
                  have hSr : ∀ j : Nat, 0 ≤ SL.getD j 0 ∧ SL.getD j 0 ≤ 255 := fun j => by rw [← hSL]; exact (stF_good hn24.2 _ _).rng j
                  rw [hSL] at hB9
                  have H9 := hide (And.intro (hT10.below hb9) (And.intro (hB8.trans (hb9.mono hB8.size)) (And.intro hbW (And.intro hB9 (And.intro hSL hSr)))))
                  clear hT10 hB8 hFr f7 f8 hbW hg9 hB9 hb9 hSL hSr H8 z0
                  go_wp2_with fail
                  obtain ⟨hT11, hB9', hbW, hB9, hSL, hSr⟩ := unhide H9
                  refine (pdigest_yes g9 288 SL w9 hSl hSr (by omega) hB9.lt (fun j hj => hB9.num j (by omega))).mono ?_
                  rintro e w10 ⟨rfl, hb10⟩
                  have hB10 : Below W7.heap.size W7 w10 := hB9'.trans (hb10.mono hB9'.size)
                  have x1' : w10.cell? ⟨w7.heap.size, 1, none⟩ = some (.int .i64 (cf : Int)) := (hB10.cell (p := ⟨w7.heap.size, 1, none⟩) (unhide HC).2).trans (unhide HC).1
                  have H10 := hide (And.intro (hT11.below hb10) (And.intro hB10 (And.intro hbW hSL)))
                  clear hT11 hB9' hbW hB9 hSL hSr hb10 hB10 H9
                  go_wp2_with fail
                  obtain ⟨hT12, hB10, hbW, hSL⟩ := unhide H10
                  obtain ⟨_, hI4, hB4, hS4, _⟩ := unhide H6
                  obtain ⟨f1, f2, f3, f5⟩ := unhide HFF
                  have hfw := hI4.win p (by have := hB4.players; omega)
                  have hpl := hB4.players
                  have hcf3 : confTo (m4.peers p) n = cf := (unhide HEc)
                  have hcfp : m4.conf p = cf := by unfold NetM.conf; rw [hpl]; exact hcf3
                  refine (ppsum_yes g p cf pv pb F2 m4 w10 hT12.net (by omega) (by omega) (by rw [← hcf3]; exact confTo_frame _ _)).mono ?_
                  rintro e w11 ⟨rfl, hb11⟩
                  rw [hpl, hSL]
                  have H11 := hide (hbW.trans ((hB10.trans (hb11.mono hB10.size)).mono hbW.size))
                  clear hT12 hB10 hbW hSL hI4 hB4 hS4 f1 f2 f3 f5 hfw hpl hcf3 hcfp hb11 H10 x1'
                  obtain ⟨D, hD⟩ : ∃ D, digL SL = D := ⟨_, rfl⟩
                  rw [hD]
                  clear hD
                  go_wp2_with fail
                  go_roundw
                  case rel => exact ⟨p + 1, by omega, by go_num, unhide H11⟩
                  case measure => simp [intOf]; omega
                · have dp : decide (p < n) = false := by simp; omega
                  have H6 := hide (And.intro hT6 (And.intro hI4 (And.intro hB4 hS4)))
                  clear hT5 hT6 hI4 hB4 hS4 hb6
                  go_wp2_with fail
                  go_roundw
                  case rel =>
                    obtain ⟨hT5, hI4, hB4, hS4⟩ := unhide H6
                    exact ⟨i + 1, F2, lb', lc', m4, r4, by omega, by go_num, hT5, hI4, by rw [show 12 * (i + 1) = 12 * i + 12 by omega]; exact hB4, by rw [hS4.2.1]; exact (unhide HM).1, by rw [hS4.2.2.1]; exact (unhide HM).2⟩
                  case measure => simp [intOf]; omega
      · have di : decide (i < T.size) = false := by simp; omega
        have HS1 := hide hTS.bel
        clear hTS hInv hBd hmw hmd
        go_wp2_with fail
        go_ret
        exact ⟨rfl, unhide HS1⟩
end Go.Proofs.YtandblanpafjoabGreatDoor
