import Derived.Test.YtandblanpafjoabGreatDoorTopK2
import Derived.Test.YtandblanpafjoabGreatDoorPack24
namespace Go.Proofs.YtandblanpafjoabGreatDoor
open Go.RowKit Go.Extern.Stop Go.Stop Go.Extern

/-! Stalled. -/
def stIns (S : ByteArray) (i : Nat) : Int := if h : i < S.size then (S[i].toNat : Int) else (i : Int)
theorem stIns_rng (S : ByteArray) (i : Nat) (hi : i < 256) : 0 ≤ stIns S i ∧ stIns S i ≤ 255 := by
  unfold stIns
  split
  · rename_i h
    have := S[i].toNat_lt
    omega
  · omega
theorem goes_ins {n : NetM} {k : Nat} {f g : Nat → Int} : ∀ i, (∀ j, j < i → f j = g j) → goes n k f i = goes n k g i
  | 0, _ => rfl
  | i + 1, h => by
    unfold goes
    rw [goes_ins i (fun j hj => h j (by omega)), h i (by omega)]
theorem Bd.goes {m : NetM} {n s t h : Nat} (b : Bd m n s t h) (hn : n ≤ 4) (p : Nat) (ins : Nat → Int) : ∀ i, Bd (goes m p ins i) n (s + 12 * i) t h
  | 0 => by simpa [Proofs.YtandblanpafjoabGreatDoor.goes] using b
  | i + 1 => by
    have := (Bd.goes b hn p ins i).adv hn p (ins i)
    rw [show s + 12 * (i + 1) = s + 12 * i + 12 by omega]
    exact this
theorem adv_kind (m : NetM) (p : Nat) (v v' : Int) : (m.advance p v).1 = (m.advance p v').1 := by
  unfold NetM.advance
  split
  · rfl
  · split <;> rfl
set_option maxRecDepth 10000 in
set_option maxHeartbeats 1600000 in
theorem stalled_any (pl wn dl sr kk : Int) (S : ByteArray) (w : World) (hgL : Laid w) (hpl : -9223372036854775808 ≤ pl ∧ pl ≤ 9223372036854775807) (hwn : -9223372036854775808 ≤ wn ∧ wn ≤ 9223372036854775807) (hdl : -9223372036854775808 ≤ dl ∧ dl ≤ 9223372036854775807) (hsr : -9223372036854775808 ≤ sr ∧ sr ≤ 9223372036854775807) (hkk : -9223372036854775808 ≤ kk ∧ kk ≤ 9223372036854775807) :
    Calls Tryz.prog 6 #[.int .i64 pl, .int .i64 wn, .int .i64 dl, .int .i64 sr, .int .i64 kk, .string S] w fun e w' => e = .returned (.bool true) ∧ Below w.heap.size w w' := by
  have hop := fun w => opened_any pl wn dl sr ByteArray.empty false w (by unfold maxLen; decide) hpl hwn hdl hsr
  have p1 := pickN_lt pl 3 (by omega)
  have p2 := pickN_lt wn 8 (by omega)
  have p3 := pickN_lt dl 4 (by omega)
  obtain ⟨n, hn⟩ : ∃ n : Nat, 2 + pickN pl 3 = n := ⟨_, rfl⟩
  obtain ⟨win, hwin⟩ : ∃ n : Nat, 1 + pickN wn 8 = n := ⟨_, rfl⟩
  obtain ⟨dN, hdN⟩ : ∃ n : Nat, pickN dl 4 = n := ⟨_, rfl⟩
  obtain ⟨kN, hkN⟩ : ∃ n : Nat, pickN sr 2 = n := ⟨_, rfl⟩
  rw [hn, hwin, hdN, hkN] at hop
  have hn24 : 2 ≤ n ∧ n ≤ 4 := by omega
  have hw8 : 1 ≤ win ∧ win ≤ 8 := by omega
  have hd3 : dN ≤ 3 := by omega
  have hkp := pickN_lt kk n (by omega)
  have HOP := hide hop
  have HK := hide hkk
  clear hop p1 p2 p3 hn hwin hdN hpl hwn hdl hsr hkN hkk
  have HL := hide hgL
  clear hgL
  go_enter Tryz.func6, Tryz.ntmps6
  go_wp2_with fail
  refine (unhide HOP w).mono ?_
  rintro e w1 ⟨g1, pv1, pb1, F1, lv1, rfl, ⟨lp1, lm1, lc1, rfl⟩, hQ1, hF1, hb1⟩
  have H1 := hide (And.intro hQ1 (And.intro hF1 hb1))
  clear hQ1 hF1 hb1
  unfold cfgV
  go_wp2_with fail
  refine (unhide HOP _).mono ?_
  rintro e w3 ⟨g2, pv2, pb2, F2, lv2, rfl, ⟨lp2, lm2, lc2, rfl⟩, hQ2, hF2, hb3⟩
  have h2 : TwoN w (w3.alloc (.cells (cfgV n win dN kN (.slice lp2 lm2 lc2)) 26)) g1 g2 w1.heap.size pv1 pv2 pb1 pb2 F1 F2 (cfgV n win dN kN (.slice lp1 lm1 lc1)) (newM n win dN (lagsOf ByteArray.empty false)) (newM n win dN (lagsOf ByteArray.empty false)) := two_start (unhide H1).1 (unhide H1).2.1 (unhide H1).2.2 hQ2 hF2 hb3
  obtain ⟨lg, hlg⟩ : ∃ l, lagsOf ByteArray.empty false = l := ⟨_, rfl⟩
  rw [hlg] at h2
  have H2 := hide h2
  clear hQ2 hF2 hb3 h2 H1 hlg
  unfold cfgV
  obtain ⟨cb, hcb⟩ : ∃ cb, w1.heap.size = cb := ⟨_, rfl⟩
  have H2' : Hid (TwoN w (w3.alloc (.cells (cfgV n win dN kN (.slice lp2 lm2 lc2)) 26)) g1 g2 cb pv1 pv2 pb1 pb2 F1 F2 (cfgV n win dN kN (.slice lp1 lm1 lc1)) (newM n win dN lg) (newM n win dN lg)) := hcb ▸ H2
  rw [hcb]
  clear hcb H2
  obtain ⟨W4, hW4⟩ : ∃ W4, w3.alloc (.cells (cfgV n win dN kN (.slice lp2 lm2 lc2)) 26) = W4 := ⟨_, rfl⟩
  have H3 : Hid (TwoN w W4 g1 g2 cb pv1 pv2 pb1 pb2 F1 F2 (cfgV n win dN kN (.slice lp1 lm1 lc1)) (newM n win dN lg) (newM n win dN lg)) := hW4 ▸ H2'
  unfold cfgV at hW4
  have c0 : W4.cell? ⟨cb, 0, none⟩ = some (.int .i64 (n : Int)) := (unhide H3).cfg.cell 0
  clear H2'
  go_wp2_with fail
  try rw [hW4]
  clear hW4
  refine (pick_at kk (n : Int) n rfl W4 (unhide HK) (by omega) (by omega)).mono ?_
  rintro e w5 ⟨rfl, rfl⟩
  obtain ⟨k, hk⟩ : ∃ k, pickN kk n = k := ⟨_, rfl⟩
  rw [hk] at hkp
  rw [hk]
  clear hk HK c0
  have hst := stall_at (lags := lg) hn24.1 hw8 hd3 k hkp (stIns S)
  have HST := hide hst
  clear hst
  have hww : IntKind.i64.wrap ((win : Int) + (dN : Int)) = (win : Int) + (dN : Int) := i64_id _ (by omega) (by omega)
  go_wp2_with fail
  go_loopw [20] (fun s20 wr => ∃ (i : Nat) (G1 G2 : Nat → Prop), i ≤ win + dN ∧ s20 = .int .i64 (i : Int) ∧ TwoN w wr g1 g2 cb pv1 pv2 pb1 pb2 G1 G2 (cfgV n win dN kN (.slice lp1 lm1 lc1)) (goes (newM n win dN lg) k (stIns S) i) (goes (newM n win dN lg) k (stIns S) i)) (fun s20 _ => win + dN - (intOf s20).toNat)
  case atStart => exact ⟨0, F1, F2, by omega, rfl, unhide H3⟩
  case round =>
    obtain ⟨i, G1, G2, hi, rfl, hT⟩ := hrel
    have c1 : wr.cell? ⟨cb, 1, none⟩ = some (.int .i64 (win : Int)) := hT.cfg.cell 1
    have c2 : wr.cell? ⟨cb, 2, none⟩ = some (.int .i64 (dN : Int)) := hT.cfg.cell 2
    by_cases hlt : i < win + dN
    · have di : decide ((i : Int) < (win : Int) + (dN : Int)) = true := by simp; omega
      have dj : decide (i < win + dN) = true := by simp; omega
      have hcv : IntKind.u8.wrap (i : Int) = (i : Int) := by simp [IntKind.wrap, IntKind.bits, IntKind.signed]; omega
      have HS1 := hide hT
      clear hT
      by_cases hs : i < S.size
      · have ds : decide (i < S.size) = true := by simp; omega
        obtain ⟨v, hv⟩ : ∃ v : Nat, S[i].toNat = v := ⟨_, rfl⟩
        have hv2 : v < 256 := by rw [← hv]; exact S[i].toNat_lt
        have hx : 0 ≤ (v : Int) ∧ (v : Int) ≤ 255 := by omega
        have HIN := hide (show (v : Int) = stIns S i by unfold stIns; rw [dif_pos hs, hv])
        go_wp2_with fail
        try rw [hv]
        obtain hT := unhide HS1
        obtain ⟨⟨a1, _⟩, _, a7⟩ := unhide HST i (by omega)
        rw [if_pos hlt, ← unhide HIN] at a7
        have hBi := (Bd.new n win dN lg).goes hn24.2 k (stIns S) i
        refine (ppadv_yes g1 k (v : Int) pv1 pb1 G1 (goes (newM n win dN lg) k (stIns S) i) wr hT.n1 (by rw [a1]; exact hkp) hx (by have := hBi.sent; omega) (by have := hBi.now; omega) a7).mono ?_
        rintro e w6 ⟨rfl, hC, G1', hQ', hF'⟩
        have H6 := hide (And.intro (hT.act1 hC hQ' hF') (And.intro a1 (And.intro a7 hBi)))
        clear hT a1 a7 hBi hC hQ' hF' HS1
        go_wp2_with fail
        obtain ⟨hT, a1, a7, hBi⟩ := unhide H6
        refine (ppadv_yes g2 k (v : Int) pv2 pb2 G2 (goes (newM n win dN lg) k (stIns S) i) w6 hT.n2 (by rw [a1]; exact hkp) hx (by have := hBi.sent; omega) (by have := hBi.now; omega) a7).mono ?_
        rintro e w7 ⟨rfl, hC, G2', hQ', hF'⟩
        have H7 := hide (hT.act2 hC hQ' hF')
        clear hT a1 a7 hBi hC hQ' hF' H6
        go_wp2_with fail
        go_roundw
        case rel =>
          refine ⟨i + 1, G1', G2', by omega, by go_num, ?_⟩
          show TwoN w w7 g1 g2 cb pv1 pv2 pb1 pb2 G1' G2' _ ((goes (newM n win dN lg) k (stIns S) i).advance k (stIns S i)).2 ((goes (newM n win dN lg) k (stIns S) i).advance k (stIns S i)).2
          rw [← unhide HIN]
          exact unhide H7
        case measure => simp [intOf]; omega
      · have ds : decide (i < S.size) = false := by simp; omega
        have hx : 0 ≤ (i : Int) ∧ (i : Int) ≤ 255 := by omega
        have HIN := hide (show (i : Int) = stIns S i by unfold stIns; rw [dif_neg hs])
        go_wp2_with fail
        obtain hT := unhide HS1
        obtain ⟨⟨a1, _⟩, _, a7⟩ := unhide HST i (by omega)
        rw [if_pos hlt, ← unhide HIN] at a7
        have hBi := (Bd.new n win dN lg).goes hn24.2 k (stIns S) i
        refine (ppadv_yes g1 k (i : Int) pv1 pb1 G1 (goes (newM n win dN lg) k (stIns S) i) wr hT.n1 (by rw [a1]; exact hkp) hx (by have := hBi.sent; omega) (by have := hBi.now; omega) a7).mono ?_
        rintro e w6 ⟨rfl, hC, G1', hQ', hF'⟩
        have H6 := hide (And.intro (hT.act1 hC hQ' hF') (And.intro a1 (And.intro a7 hBi)))
        clear hT a1 a7 hBi hC hQ' hF' HS1
        go_wp2_with fail
        obtain ⟨hT, a1, a7, hBi⟩ := unhide H6
        refine (ppadv_yes g2 k (i : Int) pv2 pb2 G2 (goes (newM n win dN lg) k (stIns S) i) w6 hT.n2 (by rw [a1]; exact hkp) hx (by have := hBi.sent; omega) (by have := hBi.now; omega) a7).mono ?_
        rintro e w7 ⟨rfl, hC, G2', hQ', hF'⟩
        have H7 := hide (hT.act2 hC hQ' hF')
        clear hT a1 a7 hBi hC hQ' hF' H6
        go_wp2_with fail
        go_roundw
        case rel =>
          refine ⟨i + 1, G1', G2', by omega, by go_num, ?_⟩
          show TwoN w w7 g1 g2 cb pv1 pv2 pb1 pb2 G1' G2' _ ((goes (newM n win dN lg) k (stIns S) i).advance k (stIns S i)).2 ((goes (newM n win dN lg) k (stIns S) i).advance k (stIns S i)).2
          rw [← unhide HIN]
          exact unhide H7
        case measure => simp [intOf]; omega
    · have di : decide ((i : Int) < (win : Int) + (dN : Int)) = false := by simp; omega
      have dj : decide (i < win + dN) = false := by simp; omega
      have HIE := hide (show i = win + dN by omega)
      obtain ⟨⟨a1, a2, a3, a4, a5⟩, a6, a7⟩ := unhide HST i (by omega)
      rw [if_neg hlt] at a7
      have hBi := (Bd.new n win dN lg).goes hn24.2 k (stIns S) i
      obtain ⟨m, hm⟩ : ∃ m, goes (newM n win dN lg) k (stIns S) i = m := ⟨_, rfl⟩
      rw [hm] at hT a1 a3 a6 a7 hBi
      have k9 : (m.advance k 9).1 = 4 := (adv_kind m k 9 (stIns S i)).trans a7
      have k8 : (m.advance k 8).1 = 4 := (adv_kind m k 8 (stIns S i)).trans a7
      have HS1 := hide (And.intro hT (And.intro a1 (And.intro a3 (And.intro a6 (And.intro k9 (And.intro k8 hBi))))))
      clear hT a1 a2 a3 a4 a5 a6 a7 hBi k9 k8 hm H3 HST
      go_wp2_with fail
      obtain ⟨hT, a1, a3, a6, k9, k8, hBi⟩ := unhide HS1
      have hA := ppadv_no g1 k 9 4 pv1 pb1 G1 m wr (hT.laid (unhide HL)) hT.n1 (by omega) k9 (by omega)
      rw [show ((4 : Nat) : Int) = 4 from rfl] at hA
      refine hA.mono ?_
      clear hA
      rintro e w6 ⟨rfl, hb6⟩
      have H6 := hide (And.intro (hT.below hb6) (And.intro a1 (And.intro a3 (And.intro a6 (And.intro k8 hBi)))))
      clear hT a1 a3 a6 k9 k8 hBi hb6 HS1 c1 c2
      go_wp2_with fail
      obtain ⟨hT, a1, a3, a6, k8, hBi⟩ := unhide H6
      have hA := ppadv_no g1 k 8 4 pv1 pb1 G1 m w6 (hT.laid (unhide HL)) hT.n1 (by omega) k8 (by omega)
      rw [show ((4 : Nat) : Int) = 4 from rfl] at hA
      refine hA.mono ?_
      clear hA
      rintro e w7 ⟨rfl, hb7⟩
      have H7 := hide (And.intro (hT.below hb7) (And.intro a1 (And.intro a3 (And.intro a6 hBi))))
      clear hT a1 a3 a6 k8 hBi hb7 H6
      go_wp2_with fail
      obtain ⟨hT, a1, a3, a6, hBi⟩ := unhide H7
      refine (pppeer_any g1 k pv1 pb1 G1 m w7 hT.n1 (by omega)).mono ?_
      rintro e w8 ⟨rfl, hb8⟩
      rw [a1]
      have hcf : confTo (m.peers k) n = dN := by
        have : m.conf k = confTo (m.peers k) n := by unfold NetM.conf; rw [a1]
        rw [← this, a6, unhide HIE]; omega
      have x8 : Blk (w8.alloc (.cells (stands (m.peers k) n n) 38)) w8.heap.size (stands (m.peers k) n n) 38 := Blk.new _ _ _
      have b8 : Below w8.heap.size w8 (w8.alloc (.cells (stands (m.peers k) n n) 38)) := (Below.refl _ w8).alloc (Nat.le_refl _) _
      have hT8 := (hT.below hb8).below b8
      unfold stands at x8 b8 hT8 ⊢
      rw [a3, hcf] at x8 b8 hT8
      rw [a3, hcf]
      generalize (m.peers k).dropped = dr at *
      generalize knTo (m.peers k) n 0 = n0 at *
      generalize knTo (m.peers k) n 1 = n1 at *
      generalize knTo (m.peers k) n 2 = n2 at *
      generalize knTo (m.peers k) n 3 = n3 at *
      have c0 : (w8.alloc (.cells #[.int .i64 (i : Int), .int .i64 (dN : Int), .int .i64 (dr : Int), .int .i64 (n0 : Int), .int .i64 (n1 : Int), .int .i64 (n2 : Int), .int .i64 (n3 : Int)] 38)).cell? ⟨cb, 0, none⟩ = some (.int .i64 (n : Int)) := hT8.cfg.cell 0
      have H8 := hide (And.intro hT8 (And.intro hBi x8))
      clear hT a1 a3 a6 hBi hb8 hcf x8 b8 hT8 H7
      obtain ⟨W8, hW8⟩ : ∃ W8, w8.alloc (.cells #[.int .i64 (i : Int), .int .i64 (dN : Int), .int .i64 (dr : Int), .int .i64 (n0 : Int), .int .i64 (n1 : Int), .int .i64 (n2 : Int), .int .i64 (n3 : Int)] 38) = W8 := ⟨_, rfl⟩
      rw [hW8] at c0
      have H8' : Hid (TwoN w W8 g1 g2 cb pv1 pv2 pb1 pb2 G1 G2 (cfgV n win dN kN (.slice lp1 lm1 lc1)) m m ∧ Bd m n (0 + 12 * i) 0 0 ∧ Blk W8 w8.heap.size #[.int .i64 (i : Int), .int .i64 (dN : Int), .int .i64 (dr : Int), .int .i64 (n0 : Int), .int .i64 (n1 : Int), .int .i64 (n2 : Int), .int .i64 (n3 : Int)] 38) := hW8 ▸ H8
      clear H8
      go_wp2_with fail
      try rw [hW8]
      obtain ⟨hT8, hBi, x8⟩ := unhide H8'
      refine (same_any g1 g2 pv1 pv2 pb1 pb2 G1 G2 m n W8 hT8.n1 hT8.n2 hBi.players (by have := hBi.sent; omega)).mono ?_
      rintro e w9 ⟨rfl, hb9⟩
      have hT9 := hT8.below hb9
      have y0 : w9.cell? ⟨w8.heap.size, 0, none⟩ = some (.int .i64 (i : Int)) := (x8.on hb9).cell 0
      have y1 : w9.cell? ⟨w8.heap.size, 1, none⟩ = some (.int .i64 (dN : Int)) := (x8.on hb9).cell 1
      have z1 : w9.cell? ⟨cb, 1, none⟩ = some (.int .i64 (win : Int)) := hT9.cfg.cell 1
      have z2 : w9.cell? ⟨cb, 2, none⟩ = some (.int .i64 (dN : Int)) := hT9.cfg.cell 2
      have H9 := hide hT9.bel
      clear hT8 hBi x8 hb9 hT9 H8' hW8 c0
      have e1 : ((i : Int) == (win : Int) + (dN : Int)) = true := by rw [beq_iff_eq]; have := unhide HIE; omega
      have e2 : (i == win + dN) = true := by rw [beq_iff_eq]; have := unhide HIE; omega
      clear hlt
      go_wp2_with fail
      go_ret
      exact ⟨rfl, unhide H9⟩
end Go.Proofs.YtandblanpafjoabGreatDoor
