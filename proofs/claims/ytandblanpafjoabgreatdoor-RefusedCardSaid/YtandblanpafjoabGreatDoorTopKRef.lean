import Derived.Test.YtandblanpafjoabGreatDoorTopK2
import Derived.Deep.CutRange
namespace Go.Proofs.YtandblanpafjoabGreatDoor
open Go.RowKit Go.Extern.Stop Go.Stop Go.Extern

/-! Refused. -/
theorem take_no {m : NetM} {p : Nat} {l : List Int} (h : (m.take p l).1 ≠ true) : (m.take p l).2 = m.put p { m.peers p with dropped := (m.peers p).dropped + 1 } := by
  unfold NetM.take at h ⊢
  split at h
  · exact absurd rfl h
  · rename_i hn; rw [if_neg hn]
theorem take_yes {m : NetM} {p : Nat} {l : List Int} (h : (m.take p l).1 = true) : ((m.take p l).2.peers p).dropped = (m.peers p).dropped := by
  unfold NetM.take at h ⊢
  split at h
  · rename_i hn; rw [if_pos hn]; simp [NetM.put, taken, PeerM.learn]
  · cases h
theorem take_one (m : NetM) (p : Nat) : (m.take p [1]).1 ≠ true := by
  unfold NetM.take
  rw [if_neg (fun h => by have := h.1.1.1; simp at this)]
  simp
set_option maxRecDepth 10000 in
set_option maxHeartbeats 2000000 in
theorem refused_any (pl dl sr kk : Int) (T S : ByteArray) (w : World) (hgL : Laid w) (hpl : -9223372036854775808 ≤ pl ∧ pl ≤ 9223372036854775807) (hdl : -9223372036854775808 ≤ dl ∧ dl ≤ 9223372036854775807) (hsr : -9223372036854775808 ≤ sr ∧ sr ≤ 9223372036854775807) (hkk : -9223372036854775808 ≤ kk ∧ kk ≤ 9223372036854775807) :
    Calls Tryz.prog 7 #[.int .i64 pl, .int .i64 dl, .int .i64 sr, .string T, .int .i64 kk, .string S] w fun e w' => e = .returned (.bool true) ∧ Below w.heap.size w w' := by
  by_cases hbig : 65536 < T.size
  · have hd : decide ((65536 : Int) < (T.size : Int)) = true := by simp; omega
    go_enter Tryz.func7, Tryz.ntmps7
    go_wp2
    go_ret
    exact ⟨rfl, Below.refl _ _⟩
  have hd : decide ((65536 : Int) < (T.size : Int)) = false := by simp; omega
  by_cases hbig2 : 65536 < S.size
  · have hd2 : decide ((65536 : Int) < (S.size : Int)) = true := by simp; omega
    go_enter Tryz.func7, Tryz.ntmps7
    go_wp2
    go_ret
    exact ⟨rfl, Below.refl _ _⟩
  have hd2 : decide ((65536 : Int) < (S.size : Int)) = false := by simp; omega
  have hop := fun w => opened_any pl 4 dl sr ⟨#[97, 98]⟩ false w (by unfold maxLen; decide) hpl ⟨by omega, by omega⟩ hdl hsr
  have p1 := pickN_lt pl 3 (by omega)
  have p3 := pickN_lt dl 4 (by omega)
  obtain ⟨n, hn⟩ : ∃ n : Nat, 2 + pickN pl 3 = n := ⟨_, rfl⟩
  obtain ⟨win, hwin⟩ : ∃ n : Nat, 1 + pickN 4 8 = n := ⟨_, rfl⟩
  obtain ⟨dN, hdN⟩ : ∃ n : Nat, pickN dl 4 = n := ⟨_, rfl⟩
  obtain ⟨kN, hkN⟩ : ∃ n : Nat, pickN sr 2 = n := ⟨_, rfl⟩
  rw [hn, hwin, hdN, hkN] at hop
  have hn24 : 2 ≤ n ∧ n ≤ 4 := by omega
  have hkp := pickN_lt kk n (by omega)
  have hlimT : T.size ≤ 65536 := by omega
  have hlimS : S.size ≤ 65536 := by omega
  have HOP := hide hop
  have HK := hide hkk
  clear hop p1 p3 hn hwin hdN hpl hdl hsr hkN hkk hbig hbig2
  have HL := hide hgL
  clear hgL
  go_enter Tryz.func7, Tryz.ntmps7
  go_wp2_with fail
  refine (unhide HOP w).mono ?_
  rintro e w1 ⟨g1, pv1, pb1, F1, lv1, rfl, ⟨lp1, lm1, lc1, rfl⟩, hQ1, hF1, hb1⟩
  have H1 := hide (And.intro hQ1 (And.intro hF1 hb1))
  clear hQ1 hF1 hb1
  unfold cfgV
  go_wp2_with fail
  refine (unhide HOP _).mono ?_
  rintro e w3 ⟨g2, pv2, pb2, F2, lv2, rfl, ⟨lp2, lm2, lc2, rfl⟩, hQ2, hF2, hb3⟩
  have h2 : TwoN w (w3.alloc (.cells (cfgV n win dN kN (.slice lp2 lm2 lc2)) 26)) g1 g2 w1.heap.size pv1 pv2 pb1 pb2 F1 F2 (cfgV n win dN kN (.slice lp1 lm1 lc1)) (newM n win dN (lagsOf ⟨#[97, 98]⟩ false)) (newM n win dN (lagsOf ⟨#[97, 98]⟩ false)) := two_start (unhide H1).1 (unhide H1).2.1 (unhide H1).2.2 hQ2 hF2 hb3
  obtain ⟨lg, hlg⟩ : ∃ l, lagsOf ⟨#[97, 98]⟩ false = l := ⟨_, rfl⟩
  rw [hlg] at h2
  have H2 := hide h2
  clear hQ2 hF2 hb3 h2 H1 hlg
  unfold cfgV
  obtain ⟨cb, hcb⟩ : ∃ cb, w1.heap.size = cb := ⟨_, rfl⟩
  have H2' : Hid (TwoN w (w3.alloc (.cells (cfgV n win dN kN (.slice lp2 lm2 lc2)) 26)) g1 g2 cb pv1 pv2 pb1 pb2 F1 F2 (cfgV n win dN kN (.slice lp1 lm1 lc1)) (newM n win dN lg) (newM n win dN lg)) := hcb ▸ H2
  rw [hcb]
  clear hcb H2
  go_wp2_with fail
  go_loopw [19] (fun s19 wr => ∃ (i : Nat) (G1 G2 : Nat → Prop) (m : NetM), i ≤ T.size ∧ s19 = .int .i64 (i : Int) ∧ TwoN w wr g1 g2 cb pv1 pv2 pb1 pb2 G1 G2 (cfgV n win dN kN (.slice lp1 lm1 lc1)) m m ∧ Bd m n (12 * i) i 0) (fun s19 _ => T.size - (intOf s19).toNat)
  case atStart => exact ⟨0, F1, F2, _, by omega, rfl, unhide H2', Bd.new n win dN lg⟩
  case round =>
    obtain ⟨i, G1, G2, m, hi, rfl, hT, hBd⟩ := hrel
    have c0 : wr.cell? ⟨cb, 0, none⟩ = some (.int .i64 (n : Int)) := hT.cfg.cell 0
    by_cases hlt : i < T.size
    · have di : decide (i < T.size) = true := by simp; omega
      obtain ⟨b, hb⟩ : ∃ b : Nat, T[i].toNat = b := ⟨_, rfl⟩
      have hb2 : b < 256 := by rw [← hb]; exact T[i].toNat_lt
      have HS1 := hide (And.intro hT hBd)
      clear hT hBd H2'
      go_upto_region 10 with fail
      refine wp_region_noPanic ?_
      refine wp_held_reads 6 (fun W' => W'.cell? ⟨cb, 0, none⟩ = some (.int .i64 (n : Int))) (by kernel_rfl) (by simp) (by kernel_rfl) (by kernel_rfl) (fun _ _ _ _ _ h => h) c0 ?_
      simp only [List.take_succ_cons, List.take_zero]
      refine wpHeld_op ?y0 rfl ?z0 ?_
      case z0 => intro w' hS; go_simp; rfl
      refine wpHeld_op ?y1 rfl ?z1 ?_
      case z1 => intro w' hS; go_simp; rfl
      refine wpHeld_op ?y2 rfl ?z2 ?_
      case z2 => intro w' hS; go_simp; rfl
      refine wpHeld_op ?y3 rfl ?z3 ?_
      case z3 => intro w' hS; go_simp; rfl
      refine wpHeld_op ?y4 rfl ?z4 ?_
      case z4 => intro w' hS; go_simp; rfl
      refine wpHeld_op ?y5 rfl ?z5 ?_
      case z5 => intro w' hS; go_simp; rfl
      unfold wpHeld
      refine wpAnyH_all (rs := [6]) (by kernel_rfl) (by simp) ?_
      intro j hj
      obtain rfl : j = 6 := by simpa using hj
      refine wpOp_of_list _ rfl rfl ?_
      go_wp2_with fail
      try rw [hb]
      obtain ⟨hT, hBd⟩ := unhide HS1
      have hTd := hT.below (Below.refl _ wr).drew
      refine (act_any g1 pv1 pb1 G1 m b n (12 * i) i 0 wr.drew (hTd.laid (unhide HL)) hTd.n1 hBd hb2 (by omega) (by omega) (by omega)).mono ?_
      rintro e w4 ⟨rfl, hC, G1', hQ', hF'⟩
      have hT4 := hTd.act1 hC hQ' hF'
      obtain ⟨q1, hq1⟩ : ∃ q, (actR m b).1 = q := ⟨_, rfl⟩
      obtain ⟨q2, hq2⟩ : ∃ q, (actR m b).2 = q := ⟨_, rfl⟩
      rw [hq1, hq2]
      have c4 : w4.cell? ⟨cb, 0, none⟩ = some (.int .i64 (n : Int)) := hT4.cfg.cell 0
      have H4 := hide (And.intro hT4 hBd)
      clear hT hBd hTd hC hQ' hF' hT4 hq1 hq2 HS1 c0
      go_wp2_with fail
      refine ⟨c4, ?_⟩
      refine ⟨by kernel_rfl, ?_⟩
      go_wp2_with fail
      refine NoPanic.normal ?_
      go_upto_region 11 with fail
      refine wp_region_noPanic ?_
      refine wp_held_reads 6 (fun W' => W'.cell? ⟨cb, 0, none⟩ = some (.int .i64 (n : Int))) (by kernel_rfl) (by simp) (by kernel_rfl) (by kernel_rfl) (fun _ _ _ _ _ h => h) c4 ?_
      simp only [List.take_succ_cons, List.take_zero]
      refine wpHeld_op ?yy0 rfl ?zz0 ?_
      case zz0 => intro w' hS; go_simp; rfl
      refine wpHeld_op ?yy1 rfl ?zz1 ?_
      case zz1 => intro w' hS; go_simp; rfl
      refine wpHeld_op ?yy2 rfl ?zz2 ?_
      case zz2 => intro w' hS; go_simp; rfl
      refine wpHeld_op ?yy3 rfl ?zz3 ?_
      case zz3 => intro w' hS; go_simp; rfl
      refine wpHeld_op ?yy4 rfl ?zz4 ?_
      case zz4 => intro w' hS; go_simp; rfl
      refine wpHeld_op ?yy5 rfl ?zz5 ?_
      case zz5 => intro w' hS; go_simp; rfl
      unfold wpHeld
      refine wpAnyH_all (rs := [6]) (by kernel_rfl) (by simp) ?_
      intro j hj
      obtain rfl : j = 6 := by simpa using hj
      refine wpOp_of_list _ rfl rfl ?_
      go_wp2_with fail
      try rw [hb]
      obtain ⟨hT, hBd⟩ := unhide H4
      have hTd := hT.below (Below.refl _ w4).drew
      refine (act_any g2 pv2 pb2 G2 m b n (12 * i) i 0 w4.drew (hTd.laid (unhide HL)) hTd.n2 hBd hb2 (by omega) (by omega) (by omega)).mono ?_
      rintro e w5 ⟨rfl, hC, G2', hQ', hF'⟩
      have hT5 := hTd.act2 hC hQ' hF'
      obtain ⟨q3, hq3⟩ : ∃ q, (actR m b).1 = q := ⟨_, rfl⟩
      obtain ⟨q4, hq4⟩ : ∃ q, (actR m b).2 = q := ⟨_, rfl⟩
      rw [hq3, hq4]
      have c5 : w5.cell? ⟨cb, 0, none⟩ = some (.int .i64 (n : Int)) := hT5.cfg.cell 0
      have hB5 := hBd.act hn24.2 b
      obtain ⟨m5, hm5⟩ : ∃ m5, actM m b = m5 := ⟨_, rfl⟩
      rw [hm5] at hT5 hB5
      have H5 := hide (And.intro hT5 hB5)
      clear hT hBd hTd hC hQ' hF' hT5 hq3 hq4 hB5 hm5 H4 c4 hb
      go_wp2_with fail
      refine ⟨c5, ?_⟩
      refine ⟨by kernel_rfl, ?_⟩
      go_wp2_with fail
      refine NoPanic.normal ?_
      go_wp2_with fail
      go_roundw
      case rel =>
        obtain ⟨hT5, hB5⟩ := unhide H5
        exact ⟨i + 1, G1', G2', m5, by omega, by go_num, hT5, by rw [show 12 * (i + 1) = 12 * i + 12 by omega]; exact hB5⟩
      case measure => simp [intOf]; omega
    · have di : decide (i < T.size) = false := by simp; omega
      have HS1 := hide (And.intro hT hBd)
      clear hT hBd H2'
      go_wp2_with fail
      refine (pick_at kk (n : Int) n rfl wr (unhide HK) (by omega) (by omega)).mono ?_
      rintro e w4 ⟨rfl, rfl⟩
      obtain ⟨k, hk⟩ : ∃ k, pickN kk n = k := ⟨_, rfl⟩
      rw [hk] at hkp
      rw [hk]
      clear hk HK c0
      go_wp2_with fail
      obtain ⟨hT, hBd⟩ := unhide HS1
      have hpl := hBd.players
      refine (pppeer_any g1 k pv1 pb1 G1 m w4 hT.n1 (by omega)).mono ?_
      rintro e w5 ⟨rfl, hb5⟩
      rw [hpl]
      obtain ⟨fr, hfr⟩ : ∃ x, (m.peers k).frame = x := ⟨_, rfl⟩
      obtain ⟨cf, hcf⟩ : ∃ x, confTo (m.peers k) n = x := ⟨_, rfl⟩
      obtain ⟨dr, hdr⟩ : ∃ x, (m.peers k).dropped = x := ⟨_, rfl⟩
      obtain ⟨k0, hk0⟩ : ∃ x, knTo (m.peers k) n 0 = x := ⟨_, rfl⟩
      obtain ⟨k1, hk1⟩ : ∃ x, knTo (m.peers k) n 1 = x := ⟨_, rfl⟩
      obtain ⟨k2, hk2⟩ : ∃ x, knTo (m.peers k) n 2 = x := ⟨_, rfl⟩
      obtain ⟨k3, hk3⟩ : ∃ x, knTo (m.peers k) n 3 = x := ⟨_, rfl⟩
      have hst : stands (m.peers k) n n = #[.int .i64 (fr : Int), .int .i64 (cf : Int), .int .i64 (dr : Int), .int .i64 (k0 : Int), .int .i64 (k1 : Int), .int .i64 (k2 : Int), .int .i64 (k3 : Int)] := by unfold stands; rw [hfr, hcf, hdr, hk0, hk1, hk2, hk3]
      rw [hst]
      have hdb : dr + 1 ≤ 1000000000 := by have := hBd.drop k; have := hBd.sent; omega
      have x5 : Blk (w5.alloc (.cells #[.int .i64 (fr : Int), .int .i64 (cf : Int), .int .i64 (dr : Int), .int .i64 (k0 : Int), .int .i64 (k1 : Int), .int .i64 (k2 : Int), .int .i64 (k3 : Int)] 38)) w5.heap.size #[.int .i64 (fr : Int), .int .i64 (cf : Int), .int .i64 (dr : Int), .int .i64 (k0 : Int), .int .i64 (k1 : Int), .int .i64 (k2 : Int), .int .i64 (k3 : Int)] 38 := Blk.new _ _ _
      have b5 : Below w5.heap.size w5 (w5.alloc (.cells #[.int .i64 (fr : Int), .int .i64 (cf : Int), .int .i64 (dr : Int), .int .i64 (k0 : Int), .int .i64 (k1 : Int), .int .i64 (k2 : Int), .int .i64 (k3 : Int)] 38)) := (Below.refl _ w5).alloc (Nat.le_refl _) _
      have hT5 := (hT.below hb5).below b5
      have hne5 : ∀ q, G1 q ∨ G2 q → q < w5.heap.size := fun q hq => hq.elim (fun e => (hT.below hb5).n1.lt q e) (fun e => (hT.below hb5).n2.lt q e)
      obtain ⟨W5, hW5⟩ : ∃ W5, w5.alloc (.cells #[.int .i64 (fr : Int), .int .i64 (cf : Int), .int .i64 (dr : Int), .int .i64 (k0 : Int), .int .i64 (k1 : Int), .int .i64 (k2 : Int), .int .i64 (k3 : Int)] 38) = W5 := ⟨_, rfl⟩
      rw [hW5] at x5 hT5
      have H5 := hide (And.intro hT5 (And.intro hBd (And.intro x5 (And.intro hne5 hdr))))
      have hcv : ∀ W, (convert 9 35 (.string S)).run Tryz.prog W = .ok (.slice (some ⟨W.heap.size, 0, none⟩) S.size (grownCap W S.size 0 5)) (Lib.bytesWorld W 5 S) := fun W => Lib.run_convert_string_bytes W 9 35 5 S Tryz.underlying9 Tryz.underlying35 Tryz.underlying5
      clear hT hBd hb5 hfr hcf hdr hk0 hk1 hk2 hk3 hst x5 b5 hT5 hne5 HS1
      go_wp2_with fail
      try rw [hW5]
      clear hW5 hcv
      obtain ⟨hT5, hBd, x5, hne5, hdr⟩ := unhide H5
      have bS := bytesWorld_below W5 5 S
      have zS : (Lib.bytesWorld W5 5 S).heap.size = W5.heap.size + 1 := Lib.bytesWorld_size _ _ _
      have gS : ∀ j, j < S.size → (Lib.bytesWorld W5 5 S).cell? ⟨W5.heap.size, 0 + j, none⟩ = some (.int .u8 ((bytesOf S).getD j 0)) := fun j hj => by rw [Nat.zero_add]; exact bytesWorld_get W5 5 S j hj
      have gc : S.size ≤ grownCap W5 S.size 0 5 := grownCap_ge _ _ _ _
      have hT6 := hT5.below bS
      have x6 := x5.on bS
      generalize Lib.bytesWorld W5 5 S = W6 at *
      generalize grownCap W5 S.size 0 5 = cS at *
      have hF1 : ∀ q, G1 q → 1 ≤ q := fun q hq => by have := (hT6.a1 q hq).1; have := (unhide HL).lt; omega
      refine (pphand_any g1 pv1 pb1 G1 m W6 (hT6.laid (unhide HL)) hT6.n1 hF1 k W5.heap.size 0 S.size cS (bytesOf S) (by omega) (bytesOf_len S) (by omega) gc (bytesOf_range S) gS (by omega) (by rw [hdr]; exact hdb)).mono ?_
      rintro e w7 ⟨rfl, hC, G1', hQ', hF'⟩
      have hT7 := hT6.act1 hC hQ' hF'
      have x7 : Blk w7 w5.heap.size #[.int .i64 (fr : Int), .int .i64 (cf : Int), .int .i64 (dr : Int), .int .i64 (k0 : Int), .int .i64 (k1 : Int), .int .i64 (k2 : Int), .int .i64 (k3 : Int)] 38 := (hC.block _ x6.lt (fun e => by have := hne5 _ (.inl e); omega)).trans x6
      have hpl' : (m.take k (bytesOf S)).2.players = n := by rw [(take_net m k (bytesOf S)).1]; exact hpl
      have H7 := hide (And.intro hT7 (And.intro hBd (And.intro x7 (And.intro hdr (And.intro hpl' hne5)))))
      clear hT5 hBd x5 hdr bS zS gS gc hT6 x6 hF1 hC hQ' hF' hT7 x7 hpl' hne5 H5
      unfold tookV
      by_cases htk : (m.take k (bytesOf S)).1 = true
      · rw [if_pos htk]
        have hdY := take_yes htk
        go_wp2_with fail
        obtain ⟨hT7, hBd, x7, hdr, hpl', hne5⟩ := unhide H7
        refine (pppeer_any g1 k pv1 pb1 G1' (m.take k (bytesOf S)).2 w7 hT7.n1 (by omega)).mono ?_
        rintro e w8 ⟨rfl, hb8⟩
        rw [hpl']
        rw [hdr] at hdY
        have x8 := x7.on hb8
        have b8 : Below w8.heap.size w8 (w8.alloc (.cells (stands ((m.take k (bytesOf S)).2.peers k) n n) 38)) := (Below.refl _ w8).alloc (Nat.le_refl _) _
        have d8 : (w8.alloc (.cells (stands ((m.take k (bytesOf S)).2.peers k) n n) 38)).cell? ⟨w5.heap.size, 2, none⟩ = some (.int .i64 (dr : Int)) := (x8.on b8).cell 2
        have H8 := hide ((hT7.below hb8).below b8).bel
        unfold stands at d8 H8 ⊢
        rw [hdY] at d8 H8
        rw [hdY]
        clear hT7 hBd x7 hdr hpl' hne5 hb8 x8 b8 H7 htk hdY
        generalize ((m.take k (bytesOf S)).2.peers k).frame = f0 at *
        generalize confTo ((m.take k (bytesOf S)).2.peers k) n = f1 at *
        generalize knTo ((m.take k (bytesOf S)).2.peers k) n 0 = f2 at *
        generalize knTo ((m.take k (bytesOf S)).2.peers k) n 1 = f3 at *
        generalize knTo ((m.take k (bytesOf S)).2.peers k) n 2 = f4 at *
        generalize knTo ((m.take k (bytesOf S)).2.peers k) n 3 = f5 at *
        go_wp2_with fail
        go_ret
        exact ⟨by simp, unhide H8⟩
      · rw [if_neg htk]
        have hno := take_no htk
        rw [hno] at H7
        obtain ⟨M, hM⟩ : ∃ M, m.put k { m.peers k with dropped := (m.peers k).dropped + 1 } = M := ⟨_, rfl⟩
        rw [hM] at H7
        obtain ⟨d1, hd1⟩ : ∃ d1, d1 = dr + 1 := ⟨_, rfl⟩
        have hdM : (M.peers k).dropped = d1 := by rw [hd1, ← hM, ← (unhide H7).2.2.2.1]; simp [NetM.put]
        have hsM : M.sent = m.sent := by rw [← hM]; rfl
        have HM := hide (And.intro hM hno)
        clear hM hno
        go_wp2_with fail
        obtain ⟨hT7, hBd, x7, hdr, hpl', hne5⟩ := unhide H7
        refine (pppeer_any g1 k pv1 pb1 G1' M w7 hT7.n1 (by omega)).mono ?_
        rintro e w8 ⟨rfl, hb8⟩
        rw [hpl']
        have x8 := x7.on hb8
        have b8 : Below w8.heap.size w8 (w8.alloc (.cells (stands (M.peers k) n n) 38)) := (Below.refl _ w8).alloc (Nat.le_refl _) _
        have d8 : (w8.alloc (.cells (stands (M.peers k) n n) 38)).cell? ⟨w5.heap.size, 2, none⟩ = some (.int .i64 (dr : Int)) := (x8.on b8).cell 2
        have hT8 := (hT7.below hb8).below b8
        unfold stands at d8 hT8 ⊢
        rw [hdM] at d8 hT8
        rw [hdM]
        generalize (M.peers k).frame = f0 at *
        generalize confTo (M.peers k) n = f1 at *
        generalize knTo (M.peers k) n 0 = f2 at *
        generalize knTo (M.peers k) n 1 = f3 at *
        generalize knTo (M.peers k) n 2 = f4 at *
        generalize knTo (M.peers k) n 3 = f5 at *
        have hT9 := hT8.below ((Below.refl _ _).alloc (Nat.le_refl _) (.cells #[.int .u8 1] 5))
        have hcell : ∀ j, j < 1 → ((w8.alloc (.cells #[.int .i64 (f0 : Int), .int .i64 (f1 : Int), .int .i64 (d1 : Int), .int .i64 (f2 : Int), .int .i64 (f3 : Int), .int .i64 (f4 : Int), .int .i64 (f5 : Int)] 38)).alloc (.cells #[.int .u8 1] 5)).cell? ⟨w8.heap.size + 1, 0 + j, none⟩ = some (.int .u8 (([1] : List Int).getD j 0)) := fun j hj => by
          obtain rfl : j = 0 := by omega
          have := (Blk.new (w8.alloc (.cells #[.int .i64 (f0 : Int), .int .i64 (f1 : Int), .int .i64 (d1 : Int), .int .i64 (f2 : Int), .int .i64 (f3 : Int), .int .i64 (f4 : Int), .int .i64 (f5 : Int)] 38)) #[.int .u8 1] 5).cell 0
          rw [show (w8.alloc (.cells #[.int .i64 (f0 : Int), .int .i64 (f1 : Int), .int .i64 (d1 : Int), .int .i64 (f2 : Int), .int .i64 (f3 : Int), .int .i64 (f4 : Int), .int .i64 (f5 : Int)] 38)).heap.size = w8.heap.size + 1 by simp] at this
          exact this
        have hw1 : IntKind.i64.wrap ((dr : Int) + 1) = (dr : Int) + 1 := i64_id _ (by omega) (by omega)
        have e9 : ((d1 : Int) != (dr : Int) + 1) = false := by rw [bne_eq_false_iff_eq]; omega
        clear hd1
        have H9 := hide (And.intro hT9 (And.intro hBd (And.intro hdr (And.intro hpl' hcell))))
        clear hT7 hBd x7 hdr hpl' hne5 hb8 x8 b8 hT8 hT9 hcell H7 htk
        go_wp2_with fail
        obtain ⟨hT9, hBd, hdr, hpl', hcell⟩ := unhide H9
        have hF2 : ∀ q, G2 q → 1 ≤ q := fun q hq => by have := (hT9.a2 q hq).1; have := (unhide HL).lt; omega
        have hcon := pphand_any g2 pv2 pb2 G2 m _ (hT9.laid (unhide HL)) hT9.n2 hF2 k (w8.heap.size + 1) 0 1 1 [1] (by omega) rfl (by omega) (by omega) (fun j => by rcases j with _ | j <;> simp) hcell (by simp) (by rw [hdr]; exact hdb)
        refine hcon.mono ?_
        clear hcon
        rintro e w10 ⟨rfl, hC, G2', hQ', hF'⟩
        rw [take_no (take_one m k), (unhide HM).1] at hQ'
        have hT10 := hT9.act2 hC hQ' hF'
        have c10 : w10.cell? ⟨cb, 0, none⟩ = some (.int .i64 (n : Int)) := hT10.cfg.cell 0
        unfold tookV
        rw [if_neg (take_one m k)]
        have H10 := hide (And.intro hT10 (And.intro hBd hpl'))
        clear hT9 hBd hdr hpl' hcell hF2 hC hQ' hF' hT10 H9 d8
        go_wp2_with fail
        obtain ⟨hT10, hBd, hpl'⟩ := unhide H10
        refine (same_any g1 g2 pv1 pv2 pb1 pb2 G1' G2' M n w10 hT10.n1 hT10.n2 hpl' (by have := hBd.sent; omega)).mono ?_
        rintro e w11 ⟨rfl, hb11⟩
        have H11 := hide (hT10.bel.trans (hb11.mono hT10.bel.size))
        clear hT10 hBd hpl' hb11 H10 c10
        go_wp2_with fail
        go_ret
        exact ⟨by simp, unhide H11⟩
end Go.Proofs.YtandblanpafjoabGreatDoor
