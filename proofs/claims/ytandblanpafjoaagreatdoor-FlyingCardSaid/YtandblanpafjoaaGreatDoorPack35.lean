import Derived.Test.YtandblanpafjoaaGreatDoorPack34
import Derived.Test.YtandblanpafjoaaGreatDoorPack15
namespace Go.Proofs.YtandblanpafjoaaGreatDoor
open Go.RowKit Go.Extern.Stop Go.Stop Go.Extern
theorem take_more (l : List Int) (a j : Nat) (h : a + j < l.length) : (l.drop a).take (j + 1) = (l.drop a).take j ++ [l.getD (a + j) 0] := by
  rw [List.take_add_one, List.getElem?_drop, List.getElem?_eq_getElem h]
  simp [List.getD_eq_getElem?_getD, h]
theorem getD_mem_int (l : List Int) (i : Nat) (h : i < l.length) : l.getD i 0 ∈ l := by
  rw [List.getD_eq_getElem?_getD, List.getElem?_eq_getElem h]
  exact List.getElem_mem h
set_option maxRecDepth 10000 in
set_option maxHeartbeats 8000000 in
theorem rsend_any (nb p q : Nat) (ro : Nat → RR) (m : NetM) (w : World) (h : RNetAt w ro nb m) (hp : p < m.players) (hq : q < m.players) (hok : POk (m.peers p) p m.players m.window m.delay) (hlg : ∀ x ∈ m.lags, -1 ≤ x ∧ x ≤ 20) (hs : m.sent ≤ 900000) (hnow : m.now ≤ 900000) (hfl : m.flights.length ≤ 1000000) :
    Calls Tryz.prog 38 #[.pointer (some ⟨nb, 0, none⟩), .int .i64 (p : Int), .int .i64 (q : Int)] w fun e w' => e = .returned (.tuple #[]) ∧ ∃ ro', RNetAt w' ro' nb (m.send p q) ∧ RTo w ro w' ro' := by
  obtain ⟨L, h⟩ := h
  obtain ⟨i1, hi1, ha0, ha1, ha2⟩ := info_parts Tryz.infoU8
  have HN := hide h
  have HP := hide hok
  have HLG := hide hlg
  have hn4 := h.n4
  have c5 : w.cell? ⟨nb, 5, none⟩ = some (.slice (some ⟨L.prb, 0, none⟩) m.players L.prc) := h.cell 5
  have cp := h.ptr p hp
  have c2 : w.cell? ⟨L.pb p, 2, none⟩ = some (.slice (some ⟨L.ab p, 0, none⟩) m.players m.players) := h.pcell p hp 2
  have ca := h.acell p q hp hq
  have p0 : (0 : Int) ≤ (p : Int) := by omega
  have p1 : (p : Int) < (m.players : Int) := by omega
  have q0 : (0 : Int) ≤ (q : Int) := by omega
  have q1 : (q : Int) < (m.players : Int) := by omega
  have hlenp := hok.len p hp
  have hlenq := hok.len q hq
  have hack := hok.ack q hq
  have hbl := (h.peer p hp).1.lt
  have hkl := ((h.known p hp).1.lt (L.kb p) rfl).2
  have hll := ((h.list p p hp hp).1.lt (L.lb p p) rfl).2
  have hrng := hok.rng p hp
  have ck : w.cell? ⟨L.pb p, 0, none⟩ = some (.slice (some ⟨L.kb p, 0, none⟩) m.players (L.kc p)) := h.pcell p hp 0
  have ckp := h.kcell p p hp hp
  have ckq := h.kcell p q hp hq
  have hcl := fun f (hf : f < ((m.peers p).known p).length) => h.lcell p p f hp hp hf
  have HCL := hide (And.intro ck (And.intro ckp (And.intro ckq (And.intro hcl hrng))))
  obtain ⟨a, ha⟩ : ∃ a, (m.peers p).acked q = a := ⟨_, rfl⟩
  obtain ⟨N, hN⟩ : ∃ N, ((m.peers p).known p).length = N := ⟨_, rfl⟩
  obtain ⟨K, hK⟩ : ∃ K, (m.peers p).known p = K := ⟨_, rfl⟩
  obtain ⟨M, hM⟩ : ∃ M, ((m.peers p).known q).length = M := ⟨_, rfl⟩
  rw [ha] at ca hack
  rw [hN] at hlenp hack HCL
  rw [hK] at HCL hN
  rw [hM] at hlenq HCL
  have HD := hide (And.intro ha (And.intro hN (And.intro hK hM)))
  obtain ⟨n, hn⟩ : ∃ n, m.players = n := ⟨_, rfl⟩
  rw [hn] at c5 c2 p1 q1 hn4 HCL
  have HNN := hide hn
  clear h hok hlg hrng ck ckp ckq hcl ha hN hK hM hn
  go_enter Tryz.func38, Tryz.ntmps38
  go_upto_block 0 with fail
  clear c5 cp c2 ca
  go_cut [8, 9] from 28 (fun s8 _ wx => ∃ j : Nat, j ≤ 64 ∧ a + j ≤ N ∧ (K.drop a).take j = (K.drop a).take 64 ∧ wx.ownsRow w.heap.size 5 1 s8 j (((K.drop a).take j).map (Value.int .u8)) ∧ Below w.heap.size w wx)
  case first =>
    go_wp2_with fail
    go_loopw [8, 9] (fun s8 s9 wr => ∃ j : Nat, j ≤ 64 ∧ a + j ≤ N ∧ s9 = .int .i64 ((a + j : Nat) : Int) ∧ wr.ownsRow w.heap.size 5 1 s8 j (((K.drop a).take j).map (Value.int .u8)) ∧ Below w.heap.size w wr) (fun _ s9 _ => N - (intOf s9).toNat)
    case atStart => exact ⟨0, by omega, by omega, rfl, by simpa using World.ownsRow_nil _ _ _ _, Below.refl _ _⟩
    case round =>
      obtain ⟨j, hj, haj, rfl, hown, hbr⟩ := hrel
      obtain ⟨ck, ckp, ckq, hcl, hrng⟩ := unhide HCL
      have rk : wr.cell? ⟨L.pb p, 0, none⟩ = some (.slice (some ⟨L.kb p, 0, none⟩) n (L.kc p)) := (hbr.cell (p := ⟨L.pb p, 0, none⟩) hbl).trans ck
      have rkp : wr.cell? ⟨L.kb p, p, none⟩ = some (.slice (some ⟨L.lb p p, 0, none⟩) N (L.lc p p)) := (hbr.cell (p := ⟨L.kb p, p, none⟩) hkl).trans ckp
      have rkq : wr.cell? ⟨L.kb p, q, none⟩ = some (.slice (some ⟨L.lb p q, 0, none⟩) M (L.lc p q)) := (hbr.cell (p := ⟨L.kb p, q, none⟩) hkl).trans ckq
      obtain ⟨vp, vc, hv8⟩ := own_nil hown
      subst hv8
      by_cases hgo : a + j < N ∧ j < 64
      · obtain ⟨hg1, hg2⟩ := hgo
        have d1 : decide (((a + j : Nat) : Int) < (N : Int)) = true := by simp; omega
        have d2 : decide ((j : Int) < 64) = true := by simp; omega
        have e0 : (0 : Int) ≤ ((a + j : Nat) : Int) := by omega
        have e1 : ((a + j : Nat) : Int) < (N : Int) := by omega
        have rl : wr.cell? ⟨L.lb p p, a + j, none⟩ = some (.int .i64 (K.getD (a + j) 0)) := (hbr.cell (p := ⟨L.lb p p, a + j, none⟩) hll).trans (hcl (a + j) hg1)
        have hx := hrng (a + j)
        have htk := take_more K a j (by rw [(unhide HD).2.1]; exact hg1)
        obtain ⟨x, hxe⟩ : ∃ x, K.getD (a + j) 0 = x := ⟨_, rfl⟩
        rw [hxe] at rl hx htk
        have hw8 : IntKind.u8.wrap x = x := by rw [IntKind.wrap_u8]; omega
        have HT := hide htk
        have HR := hide (And.intro hown hbr)
        have hzw := hbr.size
        have hadd : IntKind.i64.wrap (((a + j : Nat) : Int) + 1) = ((a + j : Nat) : Int) + 1 := i64_id _ (by omega) (by omega)
        clear ck ckp ckq hcl hrng hown hbr htk hxe rkq
        go_wp2_with (at_builtin; (refine wpList_append_own _ rfl (.tmp 45) (.tmp 57) 46 rfl w.heap.size 5 i1 (.int .u8 0) 1 1 Tryz.underlying46 hi1 ha0 ha1 ha2 rfl (by decide) (.slice vp j vc) j _ rfl ((unhide HR).1.alloc _) ⟨wr.heap.size, 0, none⟩ 1 1 [.int .u8 x] rfl rfl (cell_one_new _ _ _) (by simp [Value.oneCell']) (by unfold maxLen; omega) (by omega) (by simp; omega) ?_; intro v' w3 hown3 hg3 hnil3))
        go_roundw
        case rel =>
          refine ⟨j + 1, by omega, by omega, by go_num, ?_, ?_⟩
          · rw [unhide HT, List.map_append]; exact hown3
          · refine (unhide HR).2.trans ⟨hg3.os, hg3.tape, hg3.output, ?_, fun k hk => ?_⟩
            · have := hg3.size; simp at this; omega
            · rw [hg3.block k (by simp; omega) (fun e => ?_)]
              · exact ((Below.refl wr.heap.size wr).alloc (Nat.le_refl _) _).block k (by omega)
              · have := ((unhide HR).1.lt k e.symm).1; omega
        case measure => simp [intOf]; omega
      · have hpk : (K.drop a).take j = (K.drop a).take 64 := by
          have hKN := (unhide HD).2.1
          by_cases hj64 : j = 64
          · rw [hj64]
          · rw [List.take_of_length_le (by simp; omega), List.take_of_length_le (by simp; omega)]
        have hR := hide (And.intro hown hbr)
        clear ck ckp ckq hcl hrng hown hbr rkq
        have d : (a + j < N ∧ ¬ j < 64) ∨ ¬ a + j < N := by omega
        rcases d with ⟨d1', d2'⟩ | d1'
        · have d1 : decide (((a + j : Nat) : Int) < (N : Int)) = true := by simp; omega
          have d2 : decide ((j : Int) < 64) = false := by simp; omega
          go_wp2_with fail
          go_meet
          case rel => exact ⟨j, hj, haj, hpk, (unhide hR).1, (unhide hR).2⟩
        · have d1 : decide (((a + j : Nat) : Int) < (N : Int)) = false := by simp; omega
          go_wp2_with fail
          go_meet
          case rel => exact ⟨j, hj, haj, hpk, (unhide hR).1, (unhide hR).2⟩
  case rest =>
    obtain ⟨j, hj, haj, hpk, hown, hbr⟩ := hcut
    obtain ⟨wr, hwr⟩ : ∃ x, x = wc := ⟨_, rfl⟩
    subst hwr
    obtain ⟨ck, ckp, ckq, hcl, hrng⟩ := unhide HCL
    have rk : wr.cell? ⟨L.pb p, 0, none⟩ = some (.slice (some ⟨L.kb p, 0, none⟩) n (L.kc p)) := (hbr.cell (p := ⟨L.pb p, 0, none⟩) hbl).trans ck
    have rkq : wr.cell? ⟨L.kb p, q, none⟩ = some (.slice (some ⟨L.lb p q, 0, none⟩) M (L.lc p q)) := (hbr.cell (p := ⟨L.kb p, q, none⟩) hkl).trans ckq
    obtain ⟨vp, vc, hv8⟩ := own_nil hown
    subst hv8
    obtain ⟨ao, c, hsl, hc0, hsrc, _⟩ := own_src hown (by simp; rw [(unhide HD).2.1]; omega)
    injection hsl with hsl1 _ hsl2
    subst hsl1; subst hsl2
    have hgp : GoodP (p : Int) (a : Int) (M : Int) j := ⟨by omega, by omega, by omega, by omega⟩
    have hcall := rpack_yes (p : Int) (a : Int) (M : Int) vp j vc ((K.drop a).take j) wr hgp (by simp; rw [(unhide HD).2.1]; omega) hc0 hsrc
    have hpm : packL (p : Int) (a : Int) (M : Int) ((K.drop a).take j) = packM (m.peers p) p q := by
      obtain ⟨h1, h2, h3, h4⟩ := unhide HD
      rw [hpk]; unfold packM; rw [h1, h3, h4]
    rw [hpm] at hcall
    have hR := hide (And.intro hbr hpm)
    have hz8 := hbr.size
    clear hpk hsrc hown hgp hpm ck ckp ckq hcl hrng hbr
    go_wp2_with fail
    refine hcall.mono ?_
    rintro e w9 ⟨v9, rfl, ho9, hb9⟩
    obtain ⟨bb, bc, rfl, hbb, hbl9, _⟩ := own_some ho9 (by omega)
    have H9 := hide (And.intro ho9 hb9)
    clear ho9 hb9 hcall rk rkq
    have hB9 : Below w.heap.size w w9 := (unhide hR).1.trans ((unhide H9).2.mono hz8)
    have hN9 := (unhide HN).below hB9
    have c4 : w9.cell? ⟨nb, 4, none⟩ = some L.lagv := hN9.cell 4
    have c8 : w9.cell? ⟨nb, 8, none⟩ = some (.int .i64 (m.sent : Int)) := hN9.cell 8
    have hlag9 := hN9.lags.1
    obtain ⟨lao, lc, hlv⟩ := own_nil hlag9
    rw [hlv] at c4
    have HV := hide (And.intro hlag9 (And.intro hlv (And.intro hB9 hN9)))
    clear hB9 hN9 hlag9 hlv
    go_upto_if 81 with fail
    go_cut [12] from 75 (fun s12 wx => s12 = .int .i64 m.lag ∧ Below w9.heap.size w9 wx)
    case first =>
      by_cases h0 : m.lags.length = 0
      · have e0 : m.lags = [] := List.length_eq_zero_iff.1 h0
        have hlg : m.lag = 1 := by unfold NetM.lag; rw [if_pos e0]
        have HLG2 := hide hlg
        clear hlg
        go_wp2_with fail
        go_meet
        case rel => exact ⟨by rw [unhide HLG2], Below.refl _ _⟩
      · obtain ⟨g, c, hv2, hcells⟩ := own_ints (unhide HV).1 (by omega)
        rw [(unhide HV).2.1] at hv2
        injection hv2 with hv3 _ hv4
        subst hv3; subst hv4
        obtain ⟨mm, hm⟩ : ∃ mm, m.sent % m.lags.length = mm := ⟨_, rfl⟩
        have hmL : mm < m.lags.length := by rw [← hm]; exact Nat.mod_lt _ (by omega)
        have hms : mm ≤ m.sent := by rw [← hm]; exact Nat.mod_le _ _
        have hlg : m.lag = m.lags.getD mm 0 := by
          unfold NetM.lag
          rw [if_neg (fun e => h0 (by rw [e]; rfl)), hm]
        have hmod : (m.sent : Int) % (m.lags.length : Int) = (mm : Int) := by rw [← hm, Int.natCast_emod]
        have hmod2 : (m.sent : Int).tmod (m.lags.length : Int) = (mm : Int) := by rw [Int.tmod_eq_emod_of_nonneg (by omega), hmod]
        have cm := hcells mm hmL
        obtain ⟨z, hz⟩ : ∃ z, m.lags.getD mm 0 = z := ⟨_, rfl⟩
        rw [hz] at cm hlg
        have HLG2 := hide hlg
        have hpos : decide (0 < (m.lags.length : Int)) = true := by simp; omega
        have hpos' : decide (0 < m.lags.length) = true := by simp; omega
        have hpos2 : (0 < m.lags.length) = True := by simp; omega
        have hd : ((m.lags.length : Int) == 0) = false := by rw [beq_eq_false_iff_ne]; omega
        have hL1 : ¬ (m.lags.length : Int) = 0 := by omega
        have m0 : (0 : Int) ≤ (mm : Int) := by omega
        have m1 : (mm : Int) < (m.lags.length : Int) := by omega
        have hwm := i64_id (mm : Int) (by omega) (by omega)
        clear hcells hlg hm hz
        go_wp2_with fail
        go_quiet (fail)
        go_wp2_with fail
        go_meet
        case rel => exact ⟨by rw [unhide HLG2], ⟨rfl, rfl, rfl, Nat.le_refl _, fun _ _ => rfl⟩⟩
    case rest =>
      obtain ⟨rfl, hb10⟩ := hcut
      obtain ⟨w10, hw10⟩ : ∃ x, x = wc := ⟨_, rfl⟩
      subst hw10
      obtain ⟨_, _, hB9, hN9⟩ := unhide HV
      have hN10 := hN9.below hb10
      have hB10 : Below w.heap.size w w10 := hB9.trans (hb10.mono hB9.size)
      have g6 : w10.cell? ⟨nb, 6, none⟩ = some L.flv := hN10.cell 6
      have g7 : w10.cell? ⟨nb, 7, none⟩ = some (.int .i64 (m.now : Int)) := hN10.cell 7
      have g8 : w10.cell? ⟨nb, 8, none⟩ = some (.int .i64 (m.sent : Int)) := hN10.cell 8
      have f8 : w10.frozen? ⟨nb, 8, none⟩ = false := hN10.net.1.frozen 8
      have f6 : w10.frozen? ⟨nb, 6, none⟩ = false := hN10.net.1.frozen 6
      have hnl := hN10.net.1.lt
      have hsadd : IntKind.i64.wrap ((m.sent : Int) + 1) = (m.sent : Int) + 1 := i64_id _ (by omega) (by omega)
      have hnb : nb < w.heap.size := (unhide HN).net.1.lt
      have HG := hide (And.intro hN10 (And.intro hB10 hb10))
      clear hB9 hN9 hN10 hB10 hb10 c4 c8
      by_cases hlag : 0 ≤ m.lag
      · have hl20 : m.lag ≤ 20 := by
          unfold NetM.lag
          split
          · omega
          · next hne => exact (unhide HLG _ (getD_mem_int _ _ (Nat.mod_lt _ (List.length_pos_iff.2 hne)))).2
        obtain ⟨lg, hlgN⟩ : ∃ lg : Nat, m.lag = (lg : Int) := ⟨m.lag.toNat, by omega⟩
        have hlgt : m.lag.toNat = lg := by omega
        have dl : decide (0 ≤ (lg : Int)) = true := by simp
        have hsend := send_put1 m p q
        have HSD := hide (And.intro hsend (And.intro hlag hlgt))
        have hlg20 : lg ≤ 20 := by omega
        rw [hlgN]
        obtain ⟨fo, fc, hflv⟩ := own_nil (unhide HG).1.fls.1
        rw [hflv] at g6
        obtain ⟨now, hnow'⟩ : ∃ x, m.now = x := ⟨_, rfl⟩
        obtain ⟨sent, hsent'⟩ : ∃ x, m.sent = x := ⟨_, rfl⟩
        obtain ⟨FL, hFL'⟩ : ∃ x, m.flights.length = x := ⟨_, rfl⟩
        rw [hnow'] at g7 hnow
        rw [hsent'] at g8 hs hsadd
        rw [hFL'] at g6 hfl hflv
        have HEQ := hide (And.intro hflv (And.intro hnow' (And.intro hsent' hFL')))
        have hadd : IntKind.i64.wrap ((now : Int) + (lg : Int)) = ((now + lg : Nat) : Int) := by rw [i64_id _ (by omega) (by omega)]; omega
        have hadd' : IntKind.i64.wrap (((now + lg : Nat) : Int)) = ((now + lg : Nat) : Int) := i64_id _ (by omega) (by omega)
        have hown0 : w10.ownsRow 0 76 4 (.slice fo FL fc) FL (rfls L m.flights) := by
          have := (unhide HG).1.fls.1
          rw [hflv, hFL'] at this; exact this
        have HO := hide hown0
        have hbb10 : bb < w10.heap.size := by have := (unhide HG).2.2.size; omega
        obtain ⟨i8, hi8, hz0, hz1, hz2⟩ := info_parts Tryz.infoRFl
        have hne6 : (Value.slice fo FL fc).ownBlock ≠ some nb := fun e => by
          have h1 := (unhide HG).1.fls.2 nb (by rw [hflv]; exact e)
          have h2 := (unhide HG).1.net.2
          rw [h1] at h2; cases h2
        clear hsend hlag hlgt hl20 hlgN hflv hnow' hsent' hFL' hown0
        go_upto_region 12 with fail
        refine wp_region_noPanic ?_
        refine wp_held_tail 18 20 (fun W' => W'.cell? ⟨nb, 6, none⟩ = some (.slice fo FL fc) ∧ W'.cell? ⟨nb, 7, none⟩ = some (.int .i64 (now : Int)) ∧ W'.cell? ⟨nb, 8, none⟩ = some (.int .i64 (sent : Int))) (by kernel_rfl) (by decide) (by kernel_rfl) (by kernel_rfl) (by kernel_rfl) (fun _ _ _ _ _ h => h) ⟨g6, g7, g8⟩ ?_
        simp only [List.take_succ_cons, List.take_zero, List.drop_succ_cons, List.drop_zero]
        refine wpHeld_op ?y0 rfl ?z0 ?_
        case z0 => intro w' hS; obtain ⟨hS1, hS2, hS3⟩ := hS; go_simp; rfl
        refine wpHeld_op ?y1 rfl ?z1 ?_
        case z1 => intro w' hS; obtain ⟨hS1, hS2, hS3⟩ := hS; go_simp; rfl
        refine wpHeld_op ?y2 rfl ?z2 ?_
        case z2 => intro w' hS; obtain ⟨hS1, hS2, hS3⟩ := hS; go_simp; rfl
        refine wpHeld_op ?y3 rfl ?z3 ?_
        case z3 => intro w' hS; obtain ⟨hS1, hS2, hS3⟩ := hS; go_simp; rfl
        refine wpHeld_op ?y4 rfl ?z4 ?_
        case z4 => intro w' hS; obtain ⟨hS1, hS2, hS3⟩ := hS; go_simp; rfl
        refine wpHeld_op ?y5 rfl ?z5 ?_
        case z5 => intro w' hS; obtain ⟨hS1, hS2, hS3⟩ := hS; go_simp; rfl
        refine wpHeld_op ?y6 rfl ?z6 ?_
        case z6 => intro w' hS; obtain ⟨hS1, hS2, hS3⟩ := hS; go_simp; rfl
        refine wpHeld_op ?y7 rfl ?z7 ?_
        case z7 => intro w' hS; obtain ⟨hS1, hS2, hS3⟩ := hS; go_simp; rfl
        refine wpHeld_op ?y8 rfl ?z8 ?_
        case z8 => intro w' hS; obtain ⟨hS1, hS2, hS3⟩ := hS; go_simp; rfl
        refine wpHeld_op ?y9 rfl ?z9 ?_
        case z9 => intro w' hS; obtain ⟨hS1, hS2, hS3⟩ := hS; go_simp; rfl
        refine wpHeld_op ?y10 rfl ?z10 ?_
        case z10 => intro w' hS; obtain ⟨hS1, hS2, hS3⟩ := hS; go_simp; rfl
        refine wpHeld_op ?y11 rfl ?z11 ?_
        case z11 => intro w' hS; obtain ⟨hS1, hS2, hS3⟩ := hS; go_simp; rfl
        refine wpHeld_op ?y12 rfl ?z12 ?_
        case z12 => intro w' hS; obtain ⟨hS1, hS2, hS3⟩ := hS; go_simp; rfl
        refine wpHeld_op ?y13 rfl ?z13 ?_
        case z13 => intro w' hS; obtain ⟨hS1, hS2, hS3⟩ := hS; go_simp; rfl
        refine wpHeld_op ?y14 rfl ?z14 ?_
        case z14 => intro w' hS; obtain ⟨hS1, hS2, hS3⟩ := hS; go_simp; rfl
        refine wpHeld_op ?y15 rfl ?z15 ?_
        case z15 => intro w' hS; obtain ⟨hS1, hS2, hS3⟩ := hS; go_simp; rfl
        refine wpHeld_op ?y16 rfl ?z16 ?_
        case z16 => intro w' hS; obtain ⟨hS1, hS2, hS3⟩ := hS; go_simp; rfl
        refine wpHeld_op ?y17 rfl ?z17 ?_
        case z17 => intro w' hS; obtain ⟨hS1, hS2, hS3⟩ := hS; go_simp; rfl
        unfold wpHeld
        refine wpAnyH_all (rs := [18]) (by kernel_rfl) (by simp) ?_
        intro jj hjj
        obtain rfl : jj = 18 := by simpa using hjj
        refine wpOp_of_list _ rfl rfl ?_
        have hBa : Below w10.heap.size w10 (w10.drew.alloc (.cells #[.int .i64 (q : Int), .int .i64 ((now + lg : Nat) : Int), .int .i64 (sent : Int), .slice (some ⟨bb, 0, none⟩) (8 + j) bc] 76)) := (Below.refl _ w10).drew.alloc (Nat.le_refl _) _
        have hSA : (w10.drew.alloc (.cells #[.int .i64 (q : Int), .int .i64 ((now + lg : Nat) : Int), .int .i64 (sent : Int), .slice (some ⟨bb, 0, none⟩) (8 + j) bc] 76)).cell? ⟨nb, 6, none⟩ = some (.slice fo FL fc) ∧ (w10.drew.alloc (.cells #[.int .i64 (q : Int), .int .i64 ((now + lg : Nat) : Int), .int .i64 (sent : Int), .slice (some ⟨bb, 0, none⟩) (8 + j) bc] 76)).cell? ⟨nb, 7, none⟩ = some (.int .i64 (now : Int)) ∧ (w10.drew.alloc (.cells #[.int .i64 (q : Int), .int .i64 ((now + lg : Nat) : Int), .int .i64 (sent : Int), .slice (some ⟨bb, 0, none⟩) (8 + j) bc] 76)).cell? ⟨nb, 8, none⟩ = some (.int .i64 (sent : Int)) :=
          ⟨(hBa.cell (p := ⟨nb, 6, none⟩) hnl).trans g6, (hBa.cell (p := ⟨nb, 7, none⟩) hnl).trans g7, (hBa.cell (p := ⟨nb, 8, none⟩) hnl).trans g8⟩
        go_wp2_with fail
        refine ⟨hSA, ?_⟩
        refine wpAnyH_all (rs := [19]) (by kernel_rfl) (by simp) ?_
        intro jj hjj
        obtain rfl : jj = 19 := by simpa using hjj
        refine wpOp_of_list _ rfl rfl ?_
        go_simp
        have hownA : (w10.drew.alloc (.cells #[.int .i64 (q : Int), .int .i64 ((now + lg : Nat) : Int), .int .i64 (sent : Int), .slice (some ⟨bb, 0, none⟩) (8 + j) bc] 76)).ownsRow 0 76 4 (.slice fo FL fc) FL (rfls L m.flights) := owns_same (unhide HO) (fun k hk => hBa.block k (by have := (unhide HO).lt k hk; omega))
        have hnews : ∀ j' u, ([.int .i64 (q : Int), .int .i64 ((now + lg : Nat) : Int), .int .i64 (sent : Int), .slice (some ⟨bb, 0, none⟩) (8 + j) bc] : List Value)[j']? = some u → (w10.drew.alloc (.cells #[.int .i64 (q : Int), .int .i64 ((now + lg : Nat) : Int), .int .i64 (sent : Int), .slice (some ⟨bb, 0, none⟩) (8 + j) bc] 76)).cell? ((⟨w10.heap.size, 0, none⟩ : Addr).add j') = some u := fun j' u hj => by
          have hb := Blk.new w10.drew (#[.int .i64 (q : Int), .int .i64 ((now + lg : Nat) : Int), .int .i64 (sent : Int), .slice (some ⟨bb, 0, none⟩) (8 + j) bc] : Array Value) 76
          rw [Addr.add_mid, Nat.zero_add, show w10.heap.size = w10.drew.heap.size from rfl, hb.cell]
          simpa using hj
        refine wpList_append_own_at (w10.drew.alloc (.cells #[.int .i64 (q : Int), .int .i64 ((now + lg : Nat) : Int), .int .i64 (sent : Int), .slice (some ⟨bb, 0, none⟩) (8 + j) bc] 76)) rfl (.tmp 106) (.tmp 120) 71 rfl 0 76 i8 _ 4 48 Tryz.underlying71 hi8 hz0 hz1 hz2 rfl (by decide) (.slice fo FL fc) _ _ rfl hownA ⟨w10.heap.size, 0, none⟩ 1 1 [.int .i64 (q : Int), .int .i64 ((now + lg : Nat) : Int), .int .i64 (sent : Int), .slice (some ⟨bb, 0, none⟩) (8 + j) bc] rfl rfl hnews (by simp [Value.oneCell']) (by unfold maxLen; omega) (by omega) (Nat.zero_le _) ?_
        intro v' w3 hown3 hg3 hnil3 hloc3
        have hg' : w10.grownBy w3 (Value.slice fo FL fc).ownBlock := ⟨hg3.os.trans hBa.os, hg3.tape.trans hBa.tape, hg3.output.trans hBa.output, Nat.le_trans hBa.size hg3.size, fun k hk hne => (hg3.block k (by have := hBa.size; omega) hne).trans (hBa.block k hk)⟩
        have hloc : v'.ownBlock = (Value.slice fo FL fc).ownBlock ∨ v'.ownBlock = some (w10.heap.size + 1) := hloc3.imp id (fun e => by rw [e]; simp)
        have hw3 : w3.heap[nb]? = w10.heap[nb]? := hg'.block nb hnl (fun e => hne6 e.symm)
        have k6 : w3.cell? ⟨nb, 6, none⟩ = some (.slice fo FL fc) := (World.cell?_of_block (a := ⟨nb, 6, none⟩) hw3).trans g6
        have k8 : w3.cell? ⟨nb, 8, none⟩ = some (.int .i64 (sent : Int)) := (World.cell?_of_block (a := ⟨nb, 8, none⟩) hw3).trans g8
        have kf6 : w3.frozen? ⟨nb, 6, none⟩ = false := (World.frozen?_of_block (a := ⟨nb, 6, none⟩) hw3).trans f6
        have kf8 : w3.frozen? ⟨nb, 8, none⟩ = false := (World.frozen?_of_block (a := ⟨nb, 8, none⟩) hw3).trans f8
        have hone3 : v'.oneCell' = true := by
          obtain ⟨a3, c3, e3⟩ := own_nil hown3
          rw [e3]; rfl
        obtain ⟨a3, c3, e3⟩ := own_nil hown3
        subst e3
        refine ⟨⟨k6, (World.cell?_of_block (a := ⟨nb, 7, none⟩) hw3).trans g7, k8⟩, ⟨by kernel_rfl, ?_⟩⟩
        have HZ := hide (And.intro hown3 (And.intro hg' (And.intro hloc hw3)))
        clear hown3 hg3 hnil3 hloc3 hg' hloc hw3 hownA hnews hBa hSA g6 g7 g8 f6 f8 hone3
        change wpList _ _ _ _ _ _
        go_wp2_with fail
        refine NoPanic.normal ?_
        go_wp2
        go_end0
        obtain ⟨hown3, hg', hloc, hw3⟩ := unhide HZ
        obtain ⟨hN10, hB10, hb10⟩ := unhide HG
        obtain ⟨hflv, hnow', hsent', hFL'⟩ := unhide HEQ
        obtain ⟨hsend, hlag, hlgt⟩ := unhide HSD
        obtain ⟨ho9, hb9⟩ := unhide H9
        have hzB := hB10.size
        have hz3 := hg'.size
        rw [hsend]
        have hbn : (packM (m.peers p) p q).length = 8 + j := by have := ho9.1; simpa using this
        have hpart : ∀ k, ro k ≠ .none → k < w.heap.size := fun k hk => (unhide HN).lt k hk
        have hbw : w.heap.size ≤ bb := by omega
        have hvf : ∀ k, (Value.slice a3 (FL + 1) c3).ownBlock = some k → k ≠ bb ∧ k ≠ nb ∧ (k < w10.heap.size → ro k = .fls) := fun k hk => by
          rcases hloc with e | e
          · rw [e] at hk
            have h1 := hN10.fls.2 k (by rw [hflv]; exact hk)
            have h2 := hpart k (by rw [h1]; simp)
            refine ⟨by omega, fun e2 => ?_, fun _ => h1⟩
            have h3 := hN10.net.2
            rw [← e2, h1] at h3; cases h3
          · rw [e] at hk; injection hk with hk
            exact ⟨by omega, by omega, fun h => by omega⟩
        have hheap : ∀ k, k ≠ nb → ((w3.setCell ⟨nb, 6, none⟩ (.slice a3 (FL + 1) c3)).setCell ⟨nb, 8, none⟩ (.int .i64 ((sent : Int) + 1))).heap[k]? = w3.heap[k]? := fun k hk => by
          rw [heap_setCell_other _ _ _ _ hk, heap_setCell_other _ _ _ _ hk]
        have hold : ∀ k, k < w10.heap.size → k ≠ nb → (Value.slice fo FL fc).ownBlock ≠ some k → ((w3.setCell ⟨nb, 6, none⟩ (.slice a3 (FL + 1) c3)).setCell ⟨nb, 8, none⟩ (.int .i64 ((sent : Int) + 1))).heap[k]? = w10.heap[k]? := fun k hk h1 h2 => (hheap k h1).trans (hg'.block k hk (fun e => h2 e.symm))
        have hbbold : ((w3.setCell ⟨nb, 6, none⟩ (.slice a3 (FL + 1) c3)).setCell ⟨nb, 8, none⟩ (.int .i64 ((sent : Int) + 1))).heap[bb]? = w9.heap[bb]? := (hold bb hbb10 (by omega) (fun e => by
          have h1 := hN10.fls.2 bb (by rw [hflv]; exact e)
          have h2 := hpart bb (by rw [h1]; simp)
          omega)).trans (hb10.block bb hbl9)
        have hroB : ∀ k, (if k = bb then RR.bytes else if (Value.slice a3 (FL + 1) c3).ownBlock = some k then RR.fls else ro k) ≠ .none → k = bb ∨ (Value.slice a3 (FL + 1) c3).ownBlock = some k ∨ ro k ≠ .none := fun k hk => by
          by_cases e1 : k = bb
          · exact .inl e1
          · by_cases e2 : (Value.slice a3 (FL + 1) c3).ownBlock = some k
            · exact .inr (.inl e2)
            · rw [if_neg e1, if_neg e2] at hk; exact .inr (.inr hk)
        have hsz : ((w3.setCell ⟨nb, 6, none⟩ (.slice a3 (FL + 1) c3)).setCell ⟨nb, 8, none⟩ (.int .i64 ((sent : Int) + 1))).heap.size = w3.heap.size := by simp
        refine ⟨rfl, fun k => if k = bb then .bytes else if (Value.slice a3 (FL + 1) c3).ownBlock = some k then .fls else ro k, ⟨L.fly (.slice a3 (FL + 1) c3) m.sent (.slice (some ⟨bb, 0, none⟩) (8 + j) bc), RNet.flown hN10 hlag ?_ (by rw [hsz]; exact hz3) ?_ ⟨?_, ?_⟩ ⟨?_, ?_⟩ ?_⟩, ⟨(Chg.ofBelow hB10).trans (G := fun k => ro k ≠ .none) ?_ (fun _ _ h => h), ?_⟩⟩
        · intro k hk hr
          have hkw := hpart k hr
          refine ⟨?_, fun hn => ?_⟩
          · show (if k = bb then RR.bytes else if (Value.slice a3 (FL + 1) c3).ownBlock = some k then RR.fls else ro k) = ro k
            rw [if_neg (by omega)]
            split
            · next e => exact ((hvf k e).2.2 hk).symm
            · rfl
          · exact hold k hk (fun e => hn (.inl (by rw [e]; exact hN10.net.2))) (fun e => hn (.inr (hN10.fls.2 k (by rw [hflv]; exact e))))
        · intro k hk
          rw [hsz]
          rcases hroB k hk with e | e | e
          · omega
          · exact (hown3.lt k e).2
          · have := hpart k e; omega
        · have hB3 : Blk w3 nb (rnC L m) 73 := hw3.trans hN10.net.1
          have := (hB3.set 6 (.slice a3 (FL + 1) c3)).set 8 (.int .i64 ((sent : Int) + 1))
          rw [← hsent'] at this ⊢
          simpa [rnC, NetM.put1, RLoc.fly] using this
        · show (if nb = bb then RR.bytes else _) = _
          rw [if_neg (by omega), if_neg (fun e => (hvf nb e).2.1 rfl)]
          exact hN10.net.2
        · rw [hFL', hlgt, hnow', hsent']
          exact owns_same hown3 (fun k hk => hheap k (hvf k hk).2.1)
        · intro k hk
          show (if k = bb then RR.bytes else _) = _
          rw [if_neg (hvf k hk).1, if_pos hk]
        · refine ⟨bb, bc, by rw [hbn], ?_, fun j' hj' => ?_, by rw [hsz]; omega, by show (if bb = bb then RR.bytes else _) = _; rw [if_pos rfl]⟩
          · obtain ⟨cur, _, _, h3, _⟩ := own_row ho9
            omega
          · rw [World.cell?_of_block (a := ⟨bb, j', none⟩) hbbold]
            have := own_num ho9 hbn j' (by omega)
            rw [Nat.zero_add] at this
            exact this
        · exact ⟨hg'.os, hg'.tape, hg'.output, by rw [hsz]; exact hz3, fun k hk hF => hold k hk (fun e => hF (by rw [e, hN10.net.2]; simp)) (fun e => hF (by rw [hN10.fls.2 k (by rw [hflv]; exact e)]; simp))⟩
        · intro k hk hk2
          rcases hroB k hk2 with e | e | e
          · omega
          · rw [(hvf k e).2.2 (by omega)]; simp
          · exact e
      · have dl : decide (0 ≤ m.lag) = false := by simpa using hlag
        have hsend := send_put1 m p q
        have HSD := hide hsend
        clear hsend
        go_wp2
        go_end0
        rw [unhide HSD]
        obtain ⟨hN10, hB10, hb10⟩ := unhide HG
        refine ⟨rfl, ro, ⟨L, hN10.lost (by omega) (fun k hk hr => ⟨rfl, fun hne => heap_setCell_other _ _ _ _ (fun e => hne (by rw [e]; exact hN10.net.2))⟩) (by simp) ⟨?_, hN10.net.2⟩⟩, (RTo.ofBelow hB10).trans ⟨Chg.setCell _ _ _ _ (by rw [hN10.net.2]; simp), fun _ _ h => h⟩⟩
        have := hN10.net.1.set 8 (.int .i64 ((m.sent : Int) + 1))
        simpa [rnC, NetM.put1] using this
end Go.Proofs.YtandblanpafjoaaGreatDoor

