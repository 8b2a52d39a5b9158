import Derived.Test.YtandblanpafjoabGreatDoorTopK2
import Derived.Deep.CutRange
import Derived.Deep.QuietTactic
import Derived.BigQuiet
namespace Go.Proofs.YtandblanpafjoabGreatDoor
open Go.RowKit Go.Extern.Stop Go.Stop Go.Extern

/-! Alike. -/
set_option maxRecDepth 10000 in
set_option maxHeartbeats 8000000 in
theorem alike_any (pl wn dl : Int) (S T : ByteArray) (w : World) (hgL : Laid w) (hS : S.size ≤ maxLen) (hpl : -9223372036854775808 ≤ pl ∧ pl ≤ 9223372036854775807) (hwn : -9223372036854775808 ≤ wn ∧ wn ≤ 9223372036854775807) (hdl : -9223372036854775808 ≤ dl ∧ dl ≤ 9223372036854775807) :
    Calls Tryz.prog 3 #[.int .i64 pl, .int .i64 wn, .int .i64 dl, .string S, .string T] w fun e w' => e = .returned (.bool true) ∧ Below w.heap.size w w' := by
  by_cases hbig : 65536 < T.size
  · have hd : decide ((65536 : Int) < (T.size : Int)) = true := by simp; omega
    go_enter Tryz.func3, Tryz.ntmps3
    go_wp2
    go_ret
    exact ⟨rfl, Below.refl _ _⟩
  · have hd : decide ((65536 : Int) < (T.size : Int)) = false := by simp; omega
    have hop := fun sr w (h : -9223372036854775808 ≤ sr ∧ sr ≤ 9223372036854775807) => opened_any pl wn dl sr S false w hS hpl hwn hdl h
    have p1 := pickN_lt pl 3 (by omega)
    have p2 := pickN_lt wn 8 (by omega)
    have p3 := pickN_lt dl 4 (by omega)
    obtain ⟨n, hn⟩ : ∃ n : Nat, 2 + pickN pl 3 = n := ⟨_, rfl⟩
    obtain ⟨win, hwin⟩ : ∃ n : Nat, 1 + pickN wn 8 = n := ⟨_, rfl⟩
    obtain ⟨dN, hdN⟩ : ∃ n : Nat, pickN dl 4 = n := ⟨_, rfl⟩
    rw [hn, hwin, hdN] at hop
    have hn24 : 2 ≤ n ∧ n ≤ 4 := by omega
    have hlim : T.size ≤ 65536 := by omega
    have HOP := hide hop
    clear hop p1 p2 p3 hn hwin hdN hpl hwn hdl hbig
    have HL := hide hgL
    clear hgL
    go_enter Tryz.func3, Tryz.ntmps3
    go_wp2_with fail
    refine (unhide HOP 0 w ⟨by omega, by omega⟩).mono ?_
    rintro e w1 ⟨g1, pv1, pb1, F1, lv1, rfl, ⟨lp1, lm1, lc1, rfl⟩, hQ1, hF1, hb1⟩
    have H1 := hide (And.intro hQ1 (And.intro hF1 hb1))
    clear hQ1 hF1 hb1
    obtain ⟨ka, hka⟩ : ∃ x : Nat, pickN 0 2 = x := ⟨_, rfl⟩
    rw [hka]
    clear hka
    unfold cfgV
    go_wp2_with fail
    refine (unhide HOP 1 _ ⟨by omega, by omega⟩).mono ?_
    rintro e w3 ⟨g2, pv2, pb2, F2, lv2, rfl, ⟨lp2, lm2, lc2, rfl⟩, hQ2, hF2, hb3⟩
    obtain ⟨kb, hkb⟩ : ∃ x : Nat, pickN 1 2 = x := ⟨_, rfl⟩
    rw [hkb]
    clear hkb
    have h2 : TwoN w (w3.alloc (.cells (cfgV n win dN kb (.slice lp2 lm2 lc2)) 26)) g1 g2 w1.heap.size pv1 pv2 pb1 pb2 F1 F2 (cfgV n win dN ka (.slice lp1 lm1 lc1)) (newM n win dN (lagsOf S false)) (newM n win dN (lagsOf S false)) := two_start (unhide H1).1 (unhide H1).2.1 (unhide H1).2.2 hQ2 hF2 hb3
    have H2 := hide (And.intro h2 (Bd.new n win dN (lagsOf S false)))
    clear hQ2 hF2 hb3 h2 H1
    unfold cfgV
    obtain ⟨cb, hcb⟩ : ∃ cb, w1.heap.size = cb := ⟨_, rfl⟩
    have H2' : Hid (TwoN w (w3.alloc (.cells (cfgV n win dN kb (.slice lp2 lm2 lc2)) 26)) g1 g2 cb pv1 pv2 pb1 pb2 F1 F2 (cfgV n win dN ka (.slice lp1 lm1 lc1)) (newM n win dN (lagsOf S false)) (newM n win dN (lagsOf S false)) ∧ Bd (newM n win dN (lagsOf S false)) n 0 0 0) := hcb ▸ H2
    rw [hcb]
    clear hcb H2
    go_wp2_with fail
    go_loopw [17] (fun s17 wr => ∃ (i : Nat) (F1 F2 : Nat → Prop) (m : NetM), i ≤ T.size ∧ s17 = .int .i64 (i : Int) ∧ TwoN w wr g1 g2 cb pv1 pv2 pb1 pb2 F1 F2 (cfgV n win dN ka (.slice lp1 lm1 lc1)) m m ∧ Bd m n (12 * i) i 0) (fun s17 _ => T.size - (intOf s17).toNat)
    case atStart => exact ⟨0, F1, F2, _, by omega, rfl, (unhide H2').1, (unhide H2').2⟩
    case round =>
      obtain ⟨i, G1, G2, m, hi, rfl, hT, hBd⟩ := hrel
      have c0 : wr.cell? ⟨cb, 0, none⟩ = some (.int .i64 (n : Int)) := hT.cfg.cell 0
      by_cases hlt : i < T.size
      · have di : decide (i < T.size) = true := by simp; omega
        obtain ⟨b, hb⟩ : ∃ b : Nat, T[i].toNat = b := ⟨_, rfl⟩
        have hb2 : b < 256 := by rw [← hb]; exact T[i].toNat_lt
        have HS1 := hide (And.intro hT hBd)
        clear hT hBd H2'
        go_upto_region 10 with fail
        refine wp_region_noPanic ?_
        refine wp_held_reads 6 (fun W' => W'.cell? ⟨cb, 0, none⟩ = some (.int .i64 (n : Int))) (by kernel_rfl) (by simp) (by kernel_rfl) (by kernel_rfl) (fun _ _ _ _ _ h => h) c0 ?_
        simp only [List.take_succ_cons, List.take_zero]
        refine wpHeld_op ?y0 rfl ?z0 ?_
        case z0 => intro w' hS; go_simp; rfl
        refine wpHeld_op ?y1 rfl ?z1 ?_
        case z1 => intro w' hS; go_simp; rfl
        refine wpHeld_op ?y2 rfl ?z2 ?_
        case z2 => intro w' hS; go_simp; rfl
        refine wpHeld_op ?y3 rfl ?z3 ?_
        case z3 => intro w' hS; go_simp; rfl
        refine wpHeld_op ?y4 rfl ?z4 ?_
        case z4 => intro w' hS; go_simp; rfl
        refine wpHeld_op ?y5 rfl ?z5 ?_
        case z5 => intro w' hS; go_simp; rfl
        unfold wpHeld
        refine wpAnyH_all (rs := [6]) (by kernel_rfl) (by simp) ?_
        intro j hj
        obtain rfl : j = 6 := by simpa using hj
        refine wpOp_of_list _ rfl rfl ?_
        go_wp2_with fail
        try rw [hb]
        obtain ⟨hT, hBd⟩ := unhide HS1
        have hTd := hT.below (Below.refl _ wr).drew
        refine (act_any g1 pv1 pb1 G1 m b n (12 * i) i 0 wr.drew (hTd.laid (unhide HL)) hTd.n1 hBd hb2 (by omega) (by omega) (by omega)).mono ?_
        rintro e w4 ⟨rfl, hC, G1', hQ', hF'⟩
        have hT4 := hTd.act1 hC hQ' hF'
        obtain ⟨q1, hq1⟩ : ∃ q, (actR m b).1 = q := ⟨_, rfl⟩
        obtain ⟨q2, hq2⟩ : ∃ q, (actR m b).2 = q := ⟨_, rfl⟩
        rw [hq1, hq2]
        have c4 : w4.cell? ⟨cb, 0, none⟩ = some (.int .i64 (n : Int)) := hT4.cfg.cell 0
        have H4 := hide (And.intro hT4 (And.intro hBd (And.intro hq1 hq2)))
        clear hT hBd hTd hC hQ' hF' hT4 hq1 hq2 HS1 c0
        go_wp2_with fail
        refine ⟨c4, ?_⟩
        refine wpAnyH_take (i := 7) (v := .tuple #[.int .i64 q1, .int .u8 q2]) rfl (by kernel_rfl) (by kernel_rfl) (by kernel_rfl) (fun _ _ _ h => h) (Or.inl ⟨by rfl, ?g7⟩) c4 ?_
        case g7 => intro w' _; go_simp
        refine wpAnyH_take (i := 8) (v := .int .i64 q1) rfl (by kernel_rfl) (by kernel_rfl) (by kernel_rfl) (fun _ _ _ h => h) (Or.inl ⟨by rfl, ?g8⟩) c4 ?_
        case g8 => intro w' _; go_simp
        refine wpAnyH_take (i := 9) (v := .int .u8 q2) rfl (by kernel_rfl) (by kernel_rfl) (by kernel_rfl) (fun _ _ _ h => h) (Or.inl ⟨by rfl, ?g9⟩) c4 ?_
        case g9 => intro w' _; go_simp
        refine wpAnyH_take (i := 10) (v := .int .i64 q1) rfl (by kernel_rfl) (by kernel_rfl) (by kernel_rfl) (fun _ _ _ h => h) (Or.inl ⟨by rfl, ?g10⟩) c4 ?_
        case g10 => intro w' _; go_simp
        refine wpAnyH_take (i := 11) (v := .int .u8 q2) rfl (by kernel_rfl) (by kernel_rfl) (by kernel_rfl) (fun _ _ _ h => h) (Or.inl ⟨by rfl, ?g11⟩) c4 ?_
        case g11 => intro w' _; go_simp
        refine ⟨by kernel_rfl, ?_⟩
        go_wp2_with fail
        refine NoPanic.normal ?_
        go_upto_region 11 with fail
        refine wp_region_noPanic ?_
        refine wp_held_reads 6 (fun W' => W'.cell? ⟨cb, 0, none⟩ = some (.int .i64 (n : Int))) (by kernel_rfl) (by simp) (by kernel_rfl) (by kernel_rfl) (fun _ _ _ _ _ h => h) c4 ?_
        simp only [List.take_succ_cons, List.take_zero]
        refine wpHeld_op ?yy0 rfl ?zz0 ?_
        case zz0 => intro w' hS; go_simp; rfl
        refine wpHeld_op ?yy1 rfl ?zz1 ?_
        case zz1 => intro w' hS; go_simp; rfl
        refine wpHeld_op ?yy2 rfl ?zz2 ?_
        case zz2 => intro w' hS; go_simp; rfl
        refine wpHeld_op ?yy3 rfl ?zz3 ?_
        case zz3 => intro w' hS; go_simp; rfl
        refine wpHeld_op ?yy4 rfl ?zz4 ?_
        case zz4 => intro w' hS; go_simp; rfl
        refine wpHeld_op ?yy5 rfl ?zz5 ?_
        case zz5 => intro w' hS; go_simp; rfl
        unfold wpHeld
        refine wpAnyH_all (rs := [6]) (by kernel_rfl) (by simp) ?_
        intro j hj
        obtain rfl : j = 6 := by simpa using hj
        refine wpOp_of_list _ rfl rfl ?_
        go_wp2_with fail
        try rw [hb]
        obtain ⟨hT, hBd, hq1, hq2⟩ := unhide H4
        have hTd := hT.below (Below.refl _ w4).drew
        refine (act_any g2 pv2 pb2 G2 m b n (12 * i) i 0 w4.drew (hTd.laid (unhide HL)) hTd.n2 hBd hb2 (by omega) (by omega) (by omega)).mono ?_
        rintro e w5 ⟨rfl, hC, G2', hQ', hF'⟩
        have hT5 := hTd.act2 hC hQ' hF'
        rw [hq1, hq2]
        have c5 : w5.cell? ⟨cb, 0, none⟩ = some (.int .i64 (n : Int)) := hT5.cfg.cell 0
        have hB5 := hBd.act hn24.2 b
        obtain ⟨m5, hm5⟩ : ∃ m5, actM m b = m5 := ⟨_, rfl⟩
        rw [hm5] at hT5 hB5
        have H5 := hide (And.intro hT5 hB5)
        clear hT hBd hTd hC hQ' hF' hT5 hq1 hq2 hB5 hm5 H4 c4 hb
        go_wp2_with fail
        refine ⟨c5, ?_⟩
        refine wpAnyH_take (i := 7) (v := .tuple #[.int .i64 q1, .int .u8 q2]) rfl (by kernel_rfl) (by kernel_rfl) (by kernel_rfl) (fun _ _ _ h => h) (Or.inl ⟨by rfl, ?g7⟩) c5 ?_
        case g7 => intro w' _; go_simp
        refine wpAnyH_take (i := 8) (v := .int .i64 q1) rfl (by kernel_rfl) (by kernel_rfl) (by kernel_rfl) (fun _ _ _ h => h) (Or.inl ⟨by rfl, ?g8⟩) c5 ?_
        case g8 => intro w' _; go_simp
        refine wpAnyH_take (i := 9) (v := .int .u8 q2) rfl (by kernel_rfl) (by kernel_rfl) (by kernel_rfl) (fun _ _ _ h => h) (Or.inl ⟨by rfl, ?g9⟩) c5 ?_
        case g9 => intro w' _; go_simp
        refine wpAnyH_take (i := 10) (v := .int .i64 q1) rfl (by kernel_rfl) (by kernel_rfl) (by kernel_rfl) (fun _ _ _ h => h) (Or.inl ⟨by rfl, ?g10⟩) c5 ?_
        case g10 => intro w' _; go_simp
        refine wpAnyH_take (i := 11) (v := .int .u8 q2) rfl (by kernel_rfl) (by kernel_rfl) (by kernel_rfl) (fun _ _ _ h => h) (Or.inl ⟨by rfl, ?g11⟩) c5 ?_
        case g11 => intro w' _; go_simp
        refine ⟨by kernel_rfl, ?_⟩
        go_wp2_with fail
        refine NoPanic.normal ?_
        have hw1 : IntKind.i64.wrap ((T.size : Int) - 1) = (T.size : Int) - 1 := i64_id _ (by omega) (by omega)
        have hqq : (q1 != q1) = false := by simp
        by_cases h8 : i % 8 = 7
        · have e1 : ((i : Int) % 8 == 7) = true := by rw [beq_iff_eq]; omega
          clear h8
          go_wp2_with fail
          obtain ⟨hT5, hB5⟩ := unhide H5
          refine (same_any g1 g2 pv1 pv2 pb1 pb2 G1' G2' m5 n w5 hT5.n1 hT5.n2 hB5.players (by have := hB5.sent; omega)).mono ?_
          rintro e w6 ⟨rfl, hb6⟩
          have H6 := hide (And.intro (hT5.below hb6) hB5)
          clear hT5 hB5 hb6 H5
          go_wp2_with fail
          go_roundw
          case rel =>
            obtain ⟨hT5, hB5⟩ := unhide H6
            exact ⟨i + 1, G1', G2', m5, by omega, by go_num, hT5, by rw [show 12 * (i + 1) = 12 * i + 12 by omega]; exact hB5⟩
          case measure => simp [intOf]; omega
        · have e1 : ((i : Int) % 8 == 7) = false := by rw [beq_eq_false_iff_ne]; omega
          by_cases hla : i + 1 = T.size
          · have e2 : ((i : Int) == (T.size : Int) - 1) = true := by rw [beq_iff_eq]; omega
            clear h8 hla
            go_wp2_with fail
            obtain ⟨hT5, hB5⟩ := unhide H5
            refine (same_any g1 g2 pv1 pv2 pb1 pb2 G1' G2' m5 n w5 hT5.n1 hT5.n2 hB5.players (by have := hB5.sent; omega)).mono ?_
            rintro e w6 ⟨rfl, hb6⟩
            have H6 := hide (And.intro (hT5.below hb6) hB5)
            clear hT5 hB5 hb6 H5
            go_wp2_with fail
            go_roundw
            case rel =>
              obtain ⟨hT5, hB5⟩ := unhide H6
              exact ⟨i + 1, G1', G2', m5, by omega, by go_num, hT5, by rw [show 12 * (i + 1) = 12 * i + 12 by omega]; exact hB5⟩
            case measure => simp [intOf]; omega
          · have e2 : ((i : Int) == (T.size : Int) - 1) = false := by rw [beq_eq_false_iff_ne]; omega
            clear h8 hla
            go_wp2_with fail
            go_roundw
            case rel =>
              obtain ⟨hT5, hB5⟩ := unhide H5
              exact ⟨i + 1, G1', G2', m5, by omega, by go_num, hT5, by rw [show 12 * (i + 1) = 12 * i + 12 by omega]; exact hB5⟩
            case measure => simp [intOf]; omega
      · have di : decide (i < T.size) = false := by simp; omega
        have HS1 := hide (And.intro hT hBd)
        clear hT hBd H2'
        go_wp2_with fail
        obtain ⟨hT, hBd⟩ := unhide HS1
        refine (same_any g1 g2 pv1 pv2 pb1 pb2 G1 G2 m n wr hT.n1 hT.n2 hBd.players (by have := hBd.sent; omega)).mono ?_
        rintro e w6 ⟨rfl, hb6⟩
        have H6 := hide (hT.bel.trans (hb6.mono hT.bel.size))
        clear hT hBd hb6 HS1 c0
        go_wp2_with fail
        go_ret
        exact ⟨rfl, unhide H6⟩
end Go.Proofs.YtandblanpafjoabGreatDoor
