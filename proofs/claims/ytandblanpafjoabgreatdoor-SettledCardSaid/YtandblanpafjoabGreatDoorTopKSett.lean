import Derived.Test.YtandblanpafjoabGreatDoorTopKTrue
import Derived.Test.YtandblanpafjoabGreatDoorPack24
import Derived.Test.YtandblanpafjoabGreatDoorPack43
namespace Go.Proofs.YtandblanpafjoabGreatDoor
open Go.RowKit Go.Shelf Go.Sort Go.Extern.Stop Go.Stop Go.Extern

/-! Settled. -/
theorem lagsOf_steady (S : ByteArray) : ∀ x ∈ lagsOf S true, 0 ≤ x ∧ x ≤ 6 := fun x hx => by
  simp only [lagsOf, List.mem_map] at hx
  obtain ⟨y, _, rfl⟩ := hx
  unfold lagOf
  split <;> rename_i h
  · omega
  · have : ¬ (y % 7 - 1 < 0) := fun e => h ⟨rfl, e⟩
    omega
theorem Jnv.act {m : NetM} {real : Nat → List Int} (h : Inv m real) (j : Jnv m) (b : Nat) : Jnv (actM m b) := by
  unfold actM
  split
  · obtain ⟨_, _, _, h2, _⟩ := tick_spec h j
    exact h2
  · exact j.advance h (actP_lt h b) (actI b) (actI_rng b)
theorem Bd.ticks {m : NetM} {n s t h : Nat} (b : Bd m n s t h) (hn : n ≤ 4) : ∀ k, Bd (ticks m k) n (s + 12 * k) (t + k) h
  | 0 => by simpa [Proofs.YtandblanpafjoabGreatDoor.ticks] using b
  | k + 1 => by
    have := (Bd.ticks b hn k).tick hn
    rw [show s + 12 * (k + 1) = s + 12 * k + 12 by omega, show t + (k + 1) = t + k + 1 by omega]
    exact this
theorem ticks_same (m : NetM) : ∀ k, (ticks m k).players = m.players ∧ (ticks m k).window = m.window ∧ (ticks m k).delay = m.delay
  | 0 => ⟨rfl, rfl, rfl⟩
  | k + 1 => by
    obtain ⟨h1, h2, h3, _⟩ := tick_same (ticks m k)
    obtain ⟨i1, i2, i3⟩ := ticks_same m k
    exact ⟨h1.trans i1, h2.trans i2, h3.trans i3⟩
set_option maxRecDepth 10000 in
set_option maxHeartbeats 8000000 in
theorem settled_any (pl wn dl sr : Int) (S T : ByteArray) (w : World) (hgL : Laid w) (hS : S.size ≤ maxLen) (hpl : -9223372036854775808 ≤ pl ∧ pl ≤ 9223372036854775807) (hwn : -9223372036854775808 ≤ wn ∧ wn ≤ 9223372036854775807) (hdl : -9223372036854775808 ≤ dl ∧ dl ≤ 9223372036854775807) (hsr : -9223372036854775808 ≤ sr ∧ sr ≤ 9223372036854775807) :
    Calls Tryz.prog 5 #[.int .i64 pl, .int .i64 wn, .int .i64 dl, .int .i64 sr, .string S, .string T] w fun e w' => e = .returned (.bool true) ∧ Below w.heap.size w w' := by
  by_cases hbig : 65536 < T.size
  · have hd : decide ((65536 : Int) < (T.size : Int)) = true := by simp; omega
    go_enter Tryz.func5, Tryz.ntmps5
    go_wp2
    go_ret
    exact ⟨rfl, Below.refl _ _⟩
  · have hd : decide ((65536 : Int) < (T.size : Int)) = false := by simp; omega
    have hop := opened_any pl wn dl sr S true w hS hpl hwn hdl hsr
    have p1 := pickN_lt pl 3 (by omega)
    have p2 := pickN_lt wn 8 (by omega)
    have p3 := pickN_lt dl 4 (by omega)
    obtain ⟨n, hn⟩ : ∃ n : Nat, 2 + pickN pl 3 = n := ⟨_, rfl⟩
    obtain ⟨win, hwin⟩ : ∃ n : Nat, 1 + pickN wn 8 = n := ⟨_, rfl⟩
    obtain ⟨dN, hdN⟩ : ∃ n : Nat, pickN dl 4 = n := ⟨_, rfl⟩
    obtain ⟨kN, hkN⟩ : ∃ n : Nat, pickN sr 2 = n := ⟨_, rfl⟩
    rw [hn, hwin, hdN, hkN] at hop
    have hn24 : 2 ≤ n ∧ n ≤ 4 := by omega
    have hw8 : 1 ≤ win ∧ win ≤ 8 := by omega
    have hd3 : dN ≤ 3 := by omega
    have hlim : T.size ≤ 65536 := by omega
    clear p1 p2 p3 hn hwin hdN hkN hpl hwn hdl hsr hbig
    have HL := hide hgL
    clear hgL
    go_enter Tryz.func5, Tryz.ntmps5
    go_wp2_with fail
    refine hop.mono ?_
    clear hop
    rintro e w1 ⟨g, pv, pb, F, lv, rfl, ⟨lp, lm, lcc, rfl⟩, hQ, hF, hb1⟩
    have H1 := hide (And.intro hQ (And.intro hF hb1))
    clear hQ hF hb1
    unfold cfgV
    go_wp2_with fail
    have b2 : Below w1.heap.size w1 (w1.alloc (.cells (cfgV n win dN kN (.slice lp lm lcc)) 26)) := (Below.refl _ w1).alloc (Nat.le_refl _) _
    have x2 : Blk (w1.alloc (.cells (cfgV n win dN kN (.slice lp lm lcc)) 26)) w1.heap.size (cfgV n win dN kN (.slice lp lm lcc)) 26 := Blk.new _ _ _
    have z2 : (w1.alloc (.cells (cfgV n win dN kN (.slice lp lm lcc)) 26)).heap.size = w1.heap.size + 1 := by simp
    unfold cfgV at b2 x2 z2
    generalize w1.alloc (.cells #[.int .i64 (n : Int), .int .i64 (win : Int), .int .i64 (dN : Int), .int .i64 (kN : Int), .slice lp lm lcc] 26) = W2 at *
    obtain ⟨cb, hcb⟩ : ∃ cb, cb = w1.heap.size := ⟨_, rfl⟩
    rw [← hcb]
    rw [← hcb] at x2 b2 z2
    have H2 := hide (And.intro b2 (And.intro x2 (And.intro z2 hcb)))
    clear b2 x2 z2 hcb
    refine (record_any n dN W2 hn24.1 hn24.2 hd3).mono ?_
    rintro e w3 ⟨rfl, hR, hb3⟩
    obtain ⟨rb, hrb⟩ : ∃ rb, rb = W2.heap.size := ⟨_, rfl⟩
    rw [← hrb] at hR
    rw [← hrb]
    have hTS : TS w w3 g cb rb pv pb n win dN kN (.slice lp lm lcc) F (fun p => rb + 1 + p) (fun _ => dN) (newM n win dN (lagsOf S true)) (fun _ => List.replicate dN 0) := by
      obtain ⟨hQ, hF, hb1⟩ := unhide H1
      obtain ⟨b2, x2, z2, hcb⟩ := unhide H2
      have z1 := hb1.size
      rw [hcb] at b2 z2
      have hQ2 := hQ.below b2
      have hfl : ∀ k, F k → k < w1.heap.size := fun k hk => hQ.lt k hk
      refine ⟨hQ2.below hb3, hR.mono (by omega), (hb3.block cb (by omega)).trans x2, fun k hk => ⟨hF k hk, ?_, ?_⟩, ?_, by omega, (hb1.trans (b2.mono z1)).trans (hb3.mono (by omega))⟩
      · rintro (e | ⟨p, _, e⟩)
        · have := hfl k hk; omega
        · have := hfl k hk
          have e2 : k = rb + 1 + p := e
          omega
      · have := hfl k hk; omega
      · rintro (e | ⟨p, _, e⟩)
        · omega
        · have e2 : cb = rb + 1 + p := e
          omega
    have hInv := Inv.new n win dN (lagsOf S true) hn24 hd3
    have hJ := Jnv.new n win dN (lagsOf S true) hw8.2 (lagsOf_steady S)
    have hBd := Bd.new n win dN (lagsOf S true)
    have HT := hide (And.intro hTS (And.intro hInv (And.intro hBd hJ)))
    clear hTS hInv hBd hJ hR hb3 hrb H1 H2
    go_wp2_with fail
    go_loopw [17] (fun s17 wr => ∃ (i : Nat) (F : Nat → Prop) (lb lc : Nat → Nat) (m : NetM) (real : Nat → List Int), i ≤ T.size ∧ s17 = .int .i64 (i : Int) ∧ TS w wr g cb rb pv pb n win dN kN (.slice lp lm lcc) F lb lc m real ∧ Inv m real ∧ Bd m n (12 * i) i 0 ∧ Jnv m ∧ m.window = win ∧ m.delay = dN) (fun s17 _ => T.size - (intOf s17).toNat)
    case atStart =>
      obtain ⟨hTS, hInv, hBd, hJ⟩ := unhide HT
      exact ⟨0, F, _, _, _, _, by omega, rfl, hTS, hInv, hBd, hJ, rfl, rfl⟩
    case round =>
      obtain ⟨i, F1, lb, lc, m, real, hi, rfl, hTS, hInv, hBd, hJ, hmw, hmd⟩ := hrel
      have HM := hide (And.intro hmw hmd)
      by_cases hlt : i < T.size
      · have di : decide (i < T.size) = true := by simp; omega
        have c0 : wr.cell? ⟨cb, 0, none⟩ = some (.int .i64 (n : Int)) := hTS.cfg.cell 0
        obtain ⟨b, hb⟩ : ∃ b : Nat, T[i].toNat = b := ⟨_, rfl⟩
        have hb2 : b < 256 := by rw [← hb]; exact T[i].toNat_lt
        have HS1 := hide (And.intro hTS (And.intro hInv (And.intro hBd hJ)))
        clear hTS hInv hBd hJ hmw hmd HT
        go_upto_region 10 with fail
        refine wp_region_noPanic ?_
        refine wp_held_reads 6 (fun W' => W'.cell? ⟨cb, 0, none⟩ = some (.int .i64 (n : Int))) (by kernel_rfl) (by simp) (by kernel_rfl) (by kernel_rfl) (fun _ _ _ _ _ h => h) c0 ?_
        simp only [List.take_succ_cons, List.take_zero]
        refine wpHeld_op ?y0 rfl ?z0 ?_
        case z0 => intro w' hS; go_simp; rfl
        refine wpHeld_op ?y1 rfl ?z1 ?_
        case z1 => intro w' hS; go_simp; rfl
        refine wpHeld_op ?y2 rfl ?z2 ?_
        case z2 => intro w' hS; go_simp; rfl
        refine wpHeld_op ?y3 rfl ?z3 ?_
        case z3 => intro w' hS; go_simp; rfl
        refine wpHeld_op ?y4 rfl ?z4 ?_
        case z4 => intro w' hS; go_simp; rfl
        refine wpHeld_op ?y5 rfl ?z5 ?_
        case z5 => intro w' hS; go_simp; rfl
        unfold wpHeld
        refine wpAnyH_all (rs := [6]) (by kernel_rfl) (by simp) ?_
        intro j hj
        obtain rfl : j = 6 := by simpa using hj
        refine wpOp_of_list _ rfl rfl ?_
        go_wp2_with fail
        try rw [hb]
        obtain ⟨hTS, hInv, hBd, hJ⟩ := unhide HS1
        have hTd : TS w wr.drew g cb rb pv pb n win dN kN (.slice lp lm lcc) F1 lb lc m real := hTS.below (Below.refl _ wr).drew
        refine (act_any g pv pb F1 m b n (12 * i) i 0 wr.drew (hTd.laid (unhide HL)) hTd.net hBd hb2 (by omega) (by omega) (by omega)).mono ?_
        rintro e w4 ⟨rfl, hC, F2, hQ2, hF2⟩
        have hT4 := hTd.act hC hQ2 hF2
        have hI4 := hInv.act b
        have hB4 := hBd.act hn24.2 b
        have hA := actR_cases hInv b
        have hS4 := act_same m b
        have hJ4 := hJ.act hInv b
        rw [hBd.players] at hA
        obtain ⟨m4, hm4⟩ : ∃ m4, actM m b = m4 := ⟨_, rfl⟩
        obtain ⟨r4, hr4⟩ : ∃ r4, actReal m real b = r4 := ⟨_, rfl⟩
        rw [hm4] at hT4 hI4 hB4 hS4 hJ4
        rw [hr4] at hI4 hA
        obtain ⟨q1, hq1⟩ : ∃ q, (actR m b).1 = q := ⟨_, rfl⟩
        obtain ⟨q2, hq2⟩ : ∃ q, (actR m b).2 = q := ⟨_, rfl⟩
        rw [hq1, hq2]
        rw [hq1, hq2] at hA
        have hS4c : w4.cell? ⟨cb, 0, none⟩ = some (.int .i64 (n : Int)) := hT4.cfg.cell 0
        have H4 := hide (And.intro hT4 (And.intro hI4 (And.intro hB4 (And.intro hA (And.intro hS4 hJ4)))))
        clear hTS hInv hBd hJ hTd hC hQ2 hF2 hT4 hI4 hB4 hA hS4 hJ4 hm4 hr4 hq1 hq2 HS1 hb c0
        go_wp2_with fail
        refine ⟨hS4c, ?_⟩
        refine wpAnyH_take (i := 7) (v := .tuple #[.int .i64 q1, .int .u8 q2]) rfl (by kernel_rfl) (by kernel_rfl) (by kernel_rfl) (fun _ _ _ h => h) (Or.inl ⟨by rfl, ?g7⟩) hS4c ?_
        case g7 => intro w' _; go_simp
        refine wpAnyH_take (i := 8) (v := .int .i64 q1) rfl (by kernel_rfl) (by kernel_rfl) (by kernel_rfl) (fun _ _ _ h => h) (Or.inl ⟨by rfl, ?g8⟩) hS4c ?_
        case g8 => intro w' _; go_simp
        refine wpAnyH_take (i := 9) (v := .int .u8 q2) rfl (by kernel_rfl) (by kernel_rfl) (by kernel_rfl) (fun _ _ _ h => h) (Or.inl ⟨by rfl, ?g9⟩) hS4c ?_
        case g9 => intro w' _; go_simp
        refine wpAnyH_take (i := 10) (v := .int .i64 q1) rfl (by kernel_rfl) (by kernel_rfl) (by kernel_rfl) (fun _ _ _ h => h) (Or.inl ⟨by rfl, ?g10⟩) hS4c ?_
        case g10 => intro w' _; go_simp
        refine wpAnyH_take (i := 11) (v := .int .u8 q2) rfl (by kernel_rfl) (by kernel_rfl) (by kernel_rfl) (fun _ _ _ h => h) (Or.inl ⟨by rfl, ?g11⟩) hS4c ?_
        case g11 => intro w' _; go_simp
        refine ⟨by kernel_rfl, ?_⟩
        go_wp2_with fail
        refine NoPanic.normal ?_
        clear hS4c
        obtain ⟨hT4, hI4, hB4, hA, hS4, hJ4⟩ := unhide H4
        have HR := hide (And.intro hI4 (And.intro hB4 (And.intro hS4 hJ4)))
        rcases hA with ⟨hA1, hA2⟩ | ⟨p, hp, hA1, hA2, hA3⟩
        · subst hA1 hA2
          have HX := hide hT4
          clear hT4 hI4 hB4 hS4 hJ4 H4
          go_wp2_with fail
          go_roundw
          case rel =>
            obtain ⟨hI4, hB4, hS4, hJ4⟩ := unhide HR
            exact ⟨i + 1, F2, _, _, m4, _, by omega, by go_num, unhide HX, hI4, by rw [show 12 * (i + 1) = 12 * i + 12 by omega]; exact hB4, hJ4, by rw [hS4.2.1]; exact (unhide HM).1, by rw [hS4.2.2.1]; exact (unhide HM).2⟩
          case measure => simp [intOf]; omega
        · subst hA1 hA3
          have c1 : w4.cell? ⟨rb, p, none⟩ = some (.slice (some ⟨lb p, 0, none⟩) (real p).length (lc p)) := (hT4.rcd.cell p hp).1
          have hown := hT4.rcd.own p hp
          have hrl : (real p).length ≤ 1000 := by
            have hpp := hS4.1
            have := hI4.realLe (p := p) (by have := hB4.players; omega)
            rw [grown_same, List.length_append] at this
            omega
          unfold recV at hown
          have hwz := hT4.bel.size
          obtain ⟨L, hL⟩ : ∃ L, (real p).length = L := ⟨_, rfl⟩
          obtain ⟨g1, hg1⟩ : ∃ g, lb p = g := ⟨_, rfl⟩
          obtain ⟨m1, hm1⟩ : ∃ g, lc p = g := ⟨_, rfl⟩
          have HE := hide (And.intro hL (And.intro hg1 hm1))
          rw [hL, hg1, hm1] at c1 hown
          rw [hL] at hrl
          have HX := hide (And.intro hT4 hown)
          clear hT4 hI4 hB4 hS4 hJ4 hown hL hg1 hm1 H4
          obtain ⟨i8, hi8, hz0, hz1, hz2⟩ := info_parts Tryz.infoU8
          go_wp2_with (at_builtin; (refine wpList_append_own_at (w4.alloc (.cells #[.int .u8 q2] 5)) rfl (.tmp 80) (.tmp 82) 35 rfl w.heap.size 5 i8 (.int .u8 0) 1 1 Tryz.underlying35 hi8 hz0 hz1 hz2 rfl (by decide) (.slice (some ⟨g1, 0, none⟩) L m1) L _ rfl ((unhide HX).2.alloc _) ⟨w4.heap.size, 0, none⟩ 1 1 [.int .u8 q2] rfl rfl (cell_one_new _ _ _) (fun x hx => by simp at hx; subst hx; rfl) (by unfold maxLen; omega) (by omega) (by simp; omega) ?_); intro v5 w5 hown5 hgr5 hnil5 hloc5; obtain ⟨hL, hg1, hm1⟩ := unhide HE; obtain ⟨g2, c2, hv5, hfz5, ⟨cv5, hc5⟩, hT5⟩ := (unhide HX).1.push hp (v' := v5) (by rw [hL]; exact hown5) (by rw [hg1]; exact hgr5) (by rw [hg1]; exact hloc5.elim (fun h => .inl h) (fun h => .inr (h.trans (by simp)))); rw [hL] at hv5; subst hv5; have H5 := hide hT5; clear hown5 hgr5 hnil5 hloc5 hT5 hL hg1 hm1)
          go_roundw
          case rel =>
            obtain ⟨hI4, hB4, hS4, hJ4⟩ := unhide HR
            exact ⟨i + 1, F2, _, _, m4, _, by omega, by go_num, unhide H5, hI4, by rw [show 12 * (i + 1) = 12 * i + 12 by omega]; exact hB4, hJ4, by rw [hS4.2.1]; exact (unhide HM).1, by rw [hS4.2.2.1]; exact (unhide HM).2⟩
          case measure => simp [intOf]; omega
      · have di : decide (i < T.size) = false := by simp; omega
        obtain ⟨s1, s2, s3, s4⟩ := settled hInv hJ
        have HS1 := hide (And.intro hTS (And.intro hBd (And.intro s1 (And.intro s2 (And.intro s3 s4)))))
        clear hTS hInv hBd hJ hmw hmd s1 s2 s3 s4 HT
        go_wp2_with fail
        go_loopw [20] (fun s20 wr => ∃ (k : Nat) (F2 : Nat → Prop), k ≤ 20 ∧ s20 = .int .i64 (k : Int) ∧ TS w wr g cb rb pv pb n win dN kN (.slice lp lm lcc) F2 lb lc (ticks m k) real ∧ Bd (ticks m k) n (12 * i + 12 * k) (i + k) 0) (fun s20 _ => 20 - (intOf s20).toNat)
        case atStart => exact ⟨0, F1, by omega, rfl, (unhide HS1).1, (unhide HS1).2.1⟩
        case round =>
          obtain ⟨w4, hw4⟩ : ∃ x, x = wr := ⟨_, rfl⟩
          subst hw4
          obtain ⟨k, F2, hk, rfl, hT, hB⟩ := hrel
          by_cases hk20 : k < 20
          · have dk : decide ((k : Int) < 20) = true := by simp; omega
            have H4 := hide (And.intro hT hB)
            clear hT hB
            go_wp2_with fail
            obtain ⟨hT, hB⟩ := unhide H4
            refine (ntick_any g pv pb F2 (ticks m k) w4 hT.net (by have := hB.sent; omega) (by have := hB.now; omega) (fun p _ => by have := hB.drop p; have := hB.sent; omega)).mono ?_
            rintro e w5 ⟨rfl, hC, F3, hQ3, hF3⟩
            have H5 := hide (And.intro (hT.act hC hQ3 hF3) (hB.tick hn24.2))
            clear hT hB hC hQ3 hF3 H4
            go_wp2_with fail
            go_roundw
            case rel =>
              obtain ⟨hT, hB⟩ := unhide H5
              exact ⟨k + 1, F3, by omega, by go_num, hT, by rw [show 12 * i + 12 * (k + 1) = 12 * i + 12 * k + 12 by omega]; exact hB⟩
            case measure => simp [intOf]; omega
          · have dk : decide ((k : Int) < 20) = false := by simp; omega
            have hke : k = 20 := by omega
            subst hke
            obtain ⟨_, _, hI4, hFu, hpl4, hfl4⟩ := unhide HS1
            have hts := ticks_same m 20
            have hw4' : (ticks m 20).window = win := hts.2.1.trans (unhide HM).1
            have hd4' : (ticks m 20).delay = dN := hts.2.2.trans (unhide HM).2
            obtain ⟨m4, hm4⟩ : ∃ m4, ticks m 20 = m4 := ⟨_, rfl⟩
            rw [hm4] at hT hB hI4 hFu hfl4 hw4' hd4'
            have hmp : m.players = n := by have := hB.players; rw [← hm4, hts.1] at this; exact this
            rw [hmp] at hfl4
            have H4 := hide (And.intro hT (And.intro hB (And.intro hI4 (And.intro hFu (And.intro hfl4 (And.intro hw4' hd4'))))))
            clear hT hB hI4 hFu hpl4 hfl4 hts hm4 hmp hw4' hd4' HS1 hk hk20
            go_wp2_with fail
            obtain ⟨hT, hB, hI4, hFu, hfl4, hw4', hd4'⟩ := unhide H4
            refine (nflights_any g pv pb F2 m4 w4 hT.net (by have := hB.sent; omega)).mono ?_
            rintro e w5 ⟨fb, cl, cc, rfl, hfb, _, hb5⟩
            obtain ⟨LF, hLF⟩ : ∃ LF, (outM m4.flights).length = LF := ⟨_, rfl⟩
            have hLFb : LF ≤ 8 * (n * n) := by rw [← hLF, (outM_perm m4.flights).length_eq]; exact hfl4
            rw [hLF]
            have H5 := hide (And.intro (hT.below hb5) (And.intro hB (And.intro hI4 (And.intro hFu (And.intro hw4' hd4')))))
            clear hT hB hI4 hFu hfl4 hw4' hd4' hfb hb5 hLF H4
            go_wp2_with fail
            go_loopw [22] (fun s22 w2 => ∃ p : Nat, p ≤ n ∧ s22 = .int .i64 (p : Int) ∧ Below w5.heap.size w5 w2) (fun s22 _ => n - (intOf s22).toNat)
            case atStart => exact ⟨0, by omega, rfl, Below.refl _ _⟩
            case round =>
              obtain ⟨w6, hw6⟩ : ∃ x, x = wr := ⟨_, rfl⟩
              subst hw6
              obtain ⟨p, hp, rfl, hb6⟩ := hrel
              obtain ⟨hT5, hB4, hI4, hFu, hmw, hmd⟩ := unhide H5
              have hT6 := hT5.below hb6
              have cc0 : w6.cell? ⟨cb, 0, none⟩ = some (.int .i64 (n : Int)) := hT6.cfg.cell 0
              by_cases hpn : p < n
              · have dp : decide (p < n) = true := by simp; omega
                have H6 := hide (And.intro hT6 (And.intro hI4 (And.intro hB4 (And.intro hFu (And.intro hmw (And.intro hmd hb6))))))
                clear hT5 hT6 hI4 hB4 hFu hmw hmd hb6
                go_wp2_with fail
                obtain ⟨hT6, hI4, hB4, hFu, hmw, hmd, hb6⟩ := unhide H6
                have hpl := hB4.players
                refine (pppeer_any g p pv pb F2 m4 w6 hT6.net (by omega)).mono ?_
                rintro e w7 ⟨rfl, hb7⟩
                rw [hpl]
                have hT7 := hT6.below hb7
                have bX : Below w7.heap.size w7 (w7.alloc (.cells (stands (m4.peers p) n n) 38)) := (Below.refl _ w7).alloc (Nat.le_refl _) _
                have xX : Blk (w7.alloc (.cells (stands (m4.peers p) n n) 38)) w7.heap.size (stands (m4.peers p) n n) 38 := Blk.new _ _ _
                have hkn : ∀ q, q < n → (stands (m4.peers p) n n)[3 + q]? = some (.int .i64 ((real q).length : Int)) := fun q hq => by
                  rw [stands_known (m4.peers p) n q hq hn24.2, hFu p q (by omega) (by omega)]
                have hcf : m4.conf p = confTo (m4.peers p) n := by unfold NetM.conf; rw [hpl]
                have hcl : confTo (m4.peers p) n = leastTo real (m4.peers p).frame n := by
                  have := hFu.conf (p := p) (by omega)
                  rw [hcf, hpl] at this
                  exact this
                have f1 := confTo_frame (m4.peers p) n
                have f2 := hI4.win p (by omega)
                have f5 := hI4.fr p (by omega)
                have f6 : ∀ q, q < n → confTo (m4.peers p) n ≤ (real q).length ∧ (real q).length ≤ 1000 := fun q hq => by
                  have e1 := confTo_known (m4.peers p) n q hq
                  have e2 := hI4.knownLe (p := p) (q := q) (by omega) (by omega)
                  have e3 := hI4.realLe (p := q) (by omega)
                  omega
                have f7 := play_rows hI4 (p := p) (by omega)
                have f8 := fits_rows real n (confTo (m4.peers p) n) (by omega) hn24.2 (fun q hq => hI4.byte q (by omega))
                have f9 := hI4.drop p (by omega)
                rw [hcf, hmw] at f2
                rw [hcf, hpl] at f7
                have hT8 := hT7.below bX
                have hbW : Below w5.heap.size w5 (w7.alloc (.cells (stands (m4.peers p) n n) 38)) := (hb6.trans (hb7.mono hb6.size)).trans (bX.mono (by have := hb6.size; have := hb7.size; omega))
                obtain ⟨W7, hW7⟩ : ∃ W7, w7.alloc (.cells (stands (m4.peers p) n n) 38) = W7 := ⟨_, rfl⟩
                rw [hW7] at xX hT8 hbW
                have x0 : W7.cell? ⟨w7.heap.size, 0, none⟩ = some (.int .i64 ((m4.peers p).frame : Int)) := xX.cell 0
                have x2 : W7.cell? ⟨w7.heap.size, 2, none⟩ = some (.int .i64 0) := by rw [← show (((m4.peers p).dropped : Nat) : Int) = 0 by rw [f9]; rfl]; exact xX.cell 2
                have y0 : W7.cell? ⟨cb, 0, none⟩ = some (.int .i64 (n : Int)) := hT8.cfg.cell 0
                have hW7' : w7.alloc (.cells #[.int .i64 ((m4.peers p).frame : Int), .int .i64 (confTo (m4.peers p) n : Int), .int .i64 ((m4.peers p).dropped : Int), .int .i64 (knTo (m4.peers p) n 0 : Int), .int .i64 (knTo (m4.peers p) n 1 : Int), .int .i64 (knTo (m4.peers p) n 2 : Int), .int .i64 (knTo (m4.peers p) n 3 : Int)] 38) = W7 := hW7
                obtain ⟨fr, hfr⟩ : ∃ fr, (m4.peers p).frame = fr := ⟨_, rfl⟩
                obtain ⟨cf, hcf2⟩ : ∃ cf, confTo (m4.peers p) n = cf := ⟨_, rfl⟩
                have xc : W7.cell? ⟨w7.heap.size, 1, none⟩ = some (.int .i64 (confTo (m4.peers p) n : Int)) := xX.cell 1
                have hxl : w7.heap.size < W7.heap.size := xX.lt
                rw [hcf2] at xc f1 f2 f6 f7 f8 hcl
                rw [hfr] at x0 f1 f2 f5 hcl
                have HX := hide (And.intro hT8 (And.intro hbW (And.intro f6 (And.intro f7 (And.intro f8 (And.intro xX (And.intro hkn (And.intro xc (And.intro hcl (And.intro f1 (And.intro f2 (And.intro f5 (And.intro hcf2 hfr)))))))))))))
                unfold stands
                rw [hfr, hcf2]
                rw [hfr, hcf2] at hW7'
                clear hT6 hI4 hB4 hFu hmw hmd hb6 hb7 hT7 hT8 bX xX hkn hcf hcl f1 f2 f5 f6 f7 f8 f9 hbW hpl hfr hcf2 xc cc0 hW7
                go_wp2_with fail
                try rw [hW7']
                clear hW7'
                go_loopw [26, 27] (fun s26 s27 wx => ∃ q : Nat, q ≤ n ∧ s27 = .int .i64 (q : Int) ∧ s26 = .int .i64 (leastTo real fr q : Int) ∧ Below W7.heap.size W7 wx) (fun _ s27 _ => n - (intOf s27).toNat)
                case atStart => exact ⟨0, by omega, rfl, rfl, Below.refl _ _⟩
                case round =>
                  obtain ⟨w8, hw8'⟩ : ∃ x, x = wr := ⟨_, rfl⟩
                  subst hw8'
                  obtain ⟨q, hq, rfl, rfl, hb8⟩ := hrel
                  obtain ⟨hT8, hbW, f6, f7, f8, xX, hkn, xc, hcl, f1, f2, f5, hcf2, hfr⟩ := unhide HX
                  have hT9 := hT8.below hb8
                  have z0 : w8.cell? ⟨cb, 0, none⟩ = some (.int .i64 (n : Int)) := hT9.cfg.cell 0
                  by_cases hqn : q < n
                  · have dq : decide (q < n) = true := by simp; omega
                    have z1 : w8.cell? ⟨w7.heap.size, 3 + q, none⟩ = some (.int .i64 ((real q).length : Int)) := (hb8.cell (p := ⟨w7.heap.size, 3 + q, none⟩) hxl).trans ((Blk.cell xX _).trans (hkn q hqn))
                    have z2 : w8.cell? ⟨rb, q, none⟩ = some (.slice (some ⟨lb q, 0, none⟩) (real q).length (lc q)) := (hT9.rcd.cell q hqn).1
                    have hlq := (f6 q hqn).2
                    obtain ⟨L, hL⟩ : ∃ L, (real q).length = L := ⟨_, rfl⟩
                    obtain ⟨g1, hg1⟩ : ∃ g, lb q = g := ⟨_, rfl⟩
                    obtain ⟨c1, hc1⟩ : ∃ c, lc q = c := ⟨_, rfl⟩
                    rw [hL] at z1 z2 hlq
                    rw [hg1, hc1] at z2
                    have hsu : leastTo real fr (q + 1) = min (leastTo real fr q) L := by rw [← hL]; rfl
                    obtain ⟨M, hM⟩ : ∃ M, leastTo real fr q = M := ⟨_, rfl⟩
                    rw [hM] at hsu
                    rw [hM]
                    have HSU := hide (And.intro hsu hb8)
                    have i0 : (0 : Int) ≤ (q : Int) := by omega
                    have i1 : (q : Int) < (n : Int) := by omega
                    have i2 : (q : Int) < 4 := by omega
                    clear hT8 hbW f6 f7 f8 xX hkn xc hcl f1 f2 f5 hcf2 hfr hT9 hL hg1 hc1 hsu hM hb8
                    go_upto_region 28 with fail
                    go_quiet (fail)
                    by_cases hmin : L < M
                    · have dm : decide (L < M) = true := by simp; omega
                      go_wp2_with fail
                      go_roundw
                      case rel => exact ⟨q + 1, by omega, by go_num, by rw [(unhide HSU).1, show min M L = L by omega], below_drewN (unhide HSU).2 _⟩
                      case measure => simp [intOf]; omega
                    · have dm : decide (L < M) = false := by simp; omega
                      go_wp2_with fail
                      go_roundw
                      case rel => exact ⟨q + 1, by omega, by go_num, by rw [(unhide HSU).1, show min M L = M by omega], below_drewN (unhide HSU).2 _⟩
                      case measure => simp [intOf]; omega
                  · have dq : decide (q < n) = false := by simp; omega
                    have hqe : q = n := by omega
                    have z1 : w8.cell? ⟨w7.heap.size, 1, none⟩ = some (.int .i64 (cf : Int)) := (hb8.cell (p := ⟨w7.heap.size, 1, none⟩) hxl).trans xc
                    rw [show leastTo real fr q = cf by rw [hqe]; exact hcl.symm]
                    have H8 := hide (And.intro hT9 (And.intro (hbW.trans (hb8.mono hbW.size)) (And.intro f6 (And.intro f7 (And.intro f8 (And.intro f1 (And.intro f2 (And.intro f5 (And.intro hcf2 hfr)))))))))
                    clear hT8 hbW f6 f7 f8 xX hkn xc hcl f1 f2 f5 hcf2 hfr hT9 hqe hb8 HX
                    go_wp2_with fail
                    obtain ⟨hT9, hbW, f6, f7, f8, f1, f2, f5, hcf2, hfr⟩ := unhide H8
                    refine (rows_any w.heap.size rb n cf lb lc real w8 hT9.rcd hn24.1 hn24.2 (by omega) f6).mono ?_
                    rintro e w9 ⟨ov, rfl, hFr, hb9⟩
                    have hT10 := hT9.below hb9
                    have y0' : w9.cell? ⟨cb, 0, none⟩ = some (.int .i64 (n : Int)) := hT10.cfg.cell 0
                    have H9 := hide (And.intro hT10 (And.intro (hbW.trans (hb9.mono hbW.size)) (And.intro hFr (And.intro f7 f8))))
                    clear hT9 hbW f6 f7 f8 f1 f2 f5 hcf2 hfr hFr hb9 hT10 z0 z1
                    go_wp2_with fail
                    obtain ⟨hT10, hbW, hFr, f7, f8⟩ := unhide H9
                    refine (pplay_yes n ov (rowsM real n cf) w9 hn24.1 hn24.2 hFr f8.1 f8.2.1 f8.2.2.1 f8.2.2.2).mono ?_
                    rintro e w10 ⟨g9, rfl, hg9, hB9, hb10⟩
                    rw [← f7] at hB9
                    obtain ⟨SL, hSL⟩ : ∃ SL, stF n (insM (m4.peers p) n) cf = SL := ⟨_, rfl⟩
                    have hSl : SL.length = 288 := by rw [← hSL]; exact stF_len hn24.2 _ _
                    have hSr : ∀ j : Nat, 0 ≤ SL.getD j 0 ∧ SL.getD j 0 ≤ 255 := fun j => by rw [← hSL]; exact (stF_good hn24.2 _ _).rng j
                    rw [hSL] at hB9
                    have H10 := hide (And.intro (hT10.below hb10) (And.intro (hbW.trans (hb10.mono hbW.size)) (And.intro hB9 (And.intro hSL hSr))))
                    clear hT10 hbW hFr f7 f8 hg9 hB9 hb10 hSL hSr H9 y0'
                    go_wp2_with fail
                    obtain ⟨hT11, hbW, hB9, hSL, hSr⟩ := unhide H10
                    refine (pdigest_yes g9 288 SL w10 hSl hSr (by omega) hB9.lt (fun j hj => hB9.num j (by omega))).mono ?_
                    rintro e w11 ⟨rfl, hb11⟩
                    have H11 := hide (And.intro (hT11.below hb11) (And.intro (hbW.trans (hb11.mono hbW.size)) hSL))
                    clear hT11 hbW hB9 hSL hSr hb11 H10
                    go_wp2_with fail
                    obtain ⟨hT12, hbW, hSL⟩ := unhide H11
                    obtain ⟨_, hI4, hB4, _, hmw, _, _⟩ := unhide H6
                    obtain ⟨_, _, _, _, _, f1, f2, f5, hcf2, hfr⟩ := unhide H8
                    have hpl := hB4.players
                    refine (ppsum_yes g p cf pv pb F2 m4 w11 hT12.net (by omega) (by rw [hfr, hmw]; omega) (by rw [hfr]; exact f1)).mono ?_
                    rintro e w12 ⟨rfl, hb12⟩
                    rw [hpl, hSL]
                    have H12 := hide (hbW.trans (hb12.mono hbW.size))
                    clear hT12 hbW hSL hI4 hB4 hmw f1 f2 f5 hcf2 hfr hpl hb12 H11
                    obtain ⟨D, hD⟩ : ∃ D, digL SL = D := ⟨_, rfl⟩
                    rw [hD]
                    clear hD
                    go_wp2_with fail
                    go_roundw
                    case rel => exact ⟨p + 1, by omega, by go_num, unhide H12⟩
                    case measure => simp [intOf]; omega
              · have dp : decide (p < n) = false := by simp; omega
                have H6 := hide hT6.bel
                have hm1 : IntKind.i64.wrap (8 * (n : Int)) = 8 * (n : Int) := i64_id _ (by omega) (by omega)
                have hnn : n * n ≤ 16 := Nat.mul_le_mul hn24.2 hn24.2
                have hcast : (8 : Int) * (n : Int) * (n : Int) = ((8 * (n * n) : Nat) : Int) := by push_cast; rw [Int.mul_assoc]
                have hm2 : IntKind.i64.wrap (8 * (n : Int) * (n : Int)) = 8 * (n : Int) * (n : Int) := by rw [hcast]; exact i64_id _ (by omega) (by omega)
                have dl : decide ((LF : Int) ≤ 8 * (n : Int) * (n : Int)) = true := by rw [hcast]; simp; omega
                clear hT5 hT6 hI4 hB4 hFu hmw hmd hb6 hcast
                go_wp2_with fail
                go_ret
                exact ⟨rfl, unhide H6⟩
end Go.Proofs.YtandblanpafjoabGreatDoor
