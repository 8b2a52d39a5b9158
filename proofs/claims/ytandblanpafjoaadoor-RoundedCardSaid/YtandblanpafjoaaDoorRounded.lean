import Derived.Test.YtandblanpafjoaaDoorPlaysGame
import Derived.Test.YtandblanpafjoaaDoorRoundP
import Derived.Test.YtandblanpafjoaaDoorLists
import Derived.BigQuiet
namespace Go.Proofs.YtandblanpafjoaaDoor
open Go.RowKit Go.Extern.Stop Go.Stop Go.Extern

set_option maxRecDepth 10000 in
theorem make_bytes (n : Nat) (hn : n ≤ 4) (w : World) : (Instr.makeSlice 27 (.int .i64 (n : Int)) (.int .i64 (n : Int))).run Tryd.prog w = .ok (.slice (some ⟨w.heap.size, 0, none⟩) n n) (w.alloc (.cells (nums .u8 (List.replicate n 0)) 5)) := by
  obtain ⟨i8, hi8, hz8, hs8, hy8⟩ := info_parts Tryd.infoU8
  rw [run_make w 27 5 i8 (.int .u8 0) Tryd.underlying27 hi8 hz8 .i64 .i64 _ _ (by omega) (Int.le_refl _) (by rw [hy8]; omega) (by omega)]
  rw [show ((n : Int)).toNat = n by omega, hs8, Nat.mul_one]
  congr 3
  apply Array.ext
  · simp [madeCells, nums]
  · intro i h1 h2
    simp [madeCells, nums, Value.cells, Nat.mod_one]
theorem fit_nil (n : Nat) : fitB (n : Int) [] = true := by simp [fitB]
theorem start_range (n : Nat) (hn : n ≤ 4) (j : Nat) : 0 ≤ (startTo n).getD j 0 ∧ (startTo n).getD j 0 ≤ 255 := (good_start n n hn).rng j

set_option maxRecDepth 10000 in
set_option maxHeartbeats 1000000 in
theorem rounded_many (pl k way : Int) (w : World) (hpl : -9223372036854775808 ≤ pl ∧ pl ≤ 9223372036854775807) (hk : -9223372036854775808 ≤ k ∧ k ≤ 9223372036854775807) (hway : -9223372036854775808 ≤ way ∧ way ≤ 9223372036854775807) (hv0 : 1 < pickN way 4) :
    Calls Tryd.prog 8 #[.int .i64 pl, .int .i64 k, .int .i64 way] w fun ev w' => ev = .returned (.bool true) ∧ Below w.heap.size w w' := by
  have HPL := hide hpl
  have HKK := hide hk
  have HWAY := hide hway
  clear hpl hk hway
  have ha := pickN_lt pl 3 (by omega)
  have hv4 := pickN_lt way 4 (by omega)
  have HTWO := hide (pickN_two way)
  go_enter Tryd.func8, Tryd.ntmps8
  go_wp2_with fail
  refine (pick_any pl 3 w (unhide HPL) (by omega) (by omega)).mono ?_
  rintro e w0 ⟨rfl, rfl⟩
  obtain ⟨n, hn⟩ : ∃ n : Nat, n = 2 + pickN pl 3 := ⟨_, rfl⟩
  have hn2 : 2 ≤ n := by omega
  have hn4 : n ≤ 4 := by omega
  have HNI : Hid ((2 : Int) + (pickN pl 3 : Int) = (n : Int)) := hide (by omega)
  clear hn
  generalize pickN pl 3 = a0 at *
  go_wp2_with fail
  rw [unhide HNI]
  clear HNI ha
  refine (pick_any k n w0 (unhide HKK) (by omega) (by omega)).mono ?_
  rintro e w0 ⟨rfl, rfl⟩
  have hpn := pickN_lt k n (by omega)
  generalize pickN k n = p at *
  go_wp2_with fail
  refine (pick_any way 4 w0 (unhide HWAY) (by omega) (by omega)).mono ?_
  rintro e w0 ⟨rfl, rfl⟩
  generalize pickN way 4 = v at *
  have hv1 : (1 : Int) < (v : Int) := by omega
  have HRC : Hid (rcount v = 16) := hide (by unfold rcount; rw [if_pos hv0])
  obtain ⟨r, hr⟩ : ∃ r : Nat, r = v % 2 := ⟨_, rfl⟩
  have hr2 : r < 2 := by omega
  have HRV := hide hr
  rw [← hr] at HTWO
  clear hr
  obtain ⟨W0, hW0⟩ : ∃ x, x = w0 := ⟨_, rfl⟩
  subst hW0
  have hmk := make_bytes n hn4
  go_wp2_with fail
  go_loopw [9, 11] (fun l i wr => ∃ (j : Nat) (xs : List Value), j ≤ 16 ∧ i = .int .i64 j ∧ wr.ownsRow W0.heap.size 27 1 l j xs ∧ ListsAt wr W0.heap.size (rfs n p v) j xs ∧ Below W0.heap.size W0 wr) (fun _ i _ => 16 - (intOf i).toNat)
  case atStart => exact ⟨0, [], by omega, rfl, World.ownsRow_nil _ _ _ _, fun i hi => absurd hi (by omega), Below.refl _ _⟩
  case round =>
    obtain ⟨j, xs, hj, rfl, hown, hl, hb⟩ := hrel
    have hz := hb.size
    by_cases hlt : j < 16
    · have hlt' : (j : Int) < 16 := by omega
      have HFJ : Hid ((rfs n p v).getD j [] = rfr n p v j) := hide (rfs_get n p v j (by rw [unhide HRC]; exact hlt))
      have HOWN := hide hown
      have HL := hide hl
      clear hown hl
      obtain ⟨iT, hi1, hi2, hi3, hi4⟩ := info_parts Tryd.infoBytes
      have HT : Hid (Tryd.prog.info? 27 = some iT ∧ iT.zero = some (.slice none 0 0) ∧ iT.size = 1 ∧ iT.bytes = 24) := hide ⟨hi1, hi2, hi3, hi4⟩
      clear hi1 hi2 hi3 hi4
      obtain ⟨W1, hW1⟩ : ∃ x, x = wr := ⟨_, rfl⟩
      subst hW1
      go_wp2_with fail
      go_loopw [13] (fun i w5 => ∃ q : Nat, q ≤ n ∧ i = .int .i64 q ∧ Below W1.heap.size W1 w5 ∧ Blk w5 W1.heap.size (nums .u8 (inTo (List.replicate n 3) n q)) 5) (fun i _ => n - (intOf i).toNat)
      case atStart => exact ⟨0, by omega, rfl, (Below.refl _ _).alloc (Nat.le_refl _) _, by simpa [inTo] using Blk.new W1 (nums .u8 (List.replicate n 0)) 5⟩
      case round =>
        obtain ⟨q, hq, rfl, hb5, hbi⟩ := hrel
        have hz6 := hb5.size
        have hil := inTo_len (List.replicate n (3 : Int)) n q (by simp) hq
        by_cases hqn : q < n
        · have hqn' : (q : Int) < (n : Int) := by omega
          have HIS : Hid ((inTo (List.replicate n (3 : Int)) n q).set q 3 = inTo (List.replicate n 3) n (q + 1)) := hide (by
            have := inTo_succ (List.replicate n (3 : Int)) n q (by simp) hqn
            rwa [List.getD_eq_getElem?_getD, List.getElem?_replicate, if_pos hqn] at this)
          go_wp2_with (refine wpList_store_num rfl 5 _ _ rfl _ _ .u8 _ _ _ rfl rfl (by assumption) (by (try simp only [List.length_set]); omega) sizeU8 ?_; intro w' hb1 hg1 hz1 hcl1)
          go_roundw
          case rel => exact ⟨q + 1, by omega, by go_num, hb5.trans (below_grown hg1 hz6 (Nat.le_refl _)), by rw [← unhide HIS]; exact hb1⟩
          case measure => simp [intOf]; omega
        · have hqe : q = n := by omega
          have HIE : Hid (inTo (List.replicate n (3 : Int)) n n = List.replicate n 3) := hide (by simp [inTo])
          have hdq : decide ((q : Int) < (n : Int)) = false := by simp; omega
          subst hqe
          rw [unhide HIE] at hbi
          have hlr : (List.replicate q (3 : Int)).length = q := by simp
          have hpq : (p : Int) < (q : Int) := by omega
          have HBI := hide hbi
          clear hbi hil
          go_wp2_with fail
          refine (pick_any way 2 wr (unhide HWAY) (by omega) (by omega)).mono ?_
          rintro e wr ⟨rfl, rfl⟩
          rw [unhide HTWO]
          have hbi := unhide HBI
          have hr2' : (r : Int) < 2 := by omega
          obtain ⟨l3, hl3⟩ : ∃ l3, l3 = List.replicate q (3 : Int) := ⟨_, rfl⟩
          rw [← hl3] at hbi hlr
          have HL3 := hide hl3
          have HHB := hide hb
          have HHB5 := hide hb5
          clear hl3 HBI
          have hWW := unhide HHB5
          by_cases hj0 : 0 < j
          · have hj0' : (0 : Int) < (j : Int) := by omega
            go_wp2_with (first | (refine wpList_store_num rfl 5 _ _ rfl _ _ .u8 _ _ _ rfl rfl (by assumption) (by (try simp only [List.length_set]); omega) sizeU8 ?_; intro w' hb1 hg1 hz1 hcl1; clear hz1; have hWW := hWW.trans (below_grown hg1 hWW.size (Nat.le_refl _))) | (at_builtin; refine wpList_append_own _ rfl _ _ 25 rfl W0.heap.size 27 iT (.slice none 0 0) 1 24 Tryd.underlying25 (unhide HT).1 (unhide HT).2.1 (unhide HT).2.2.1 (unhide HT).2.2.2 rfl (by decide) _ j _ rfl (((unhide HOWN).kept (grown_below hWW none) (by cases hv : u9.ownBlock <;> simp)).alloc _) ⟨w'.heap.size, 0, none⟩ 1 1 [.slice (some ⟨W1.heap.size, 0, none⟩) q q] rfl rfl (one_new' _ _ _ _ rfl) (fun x hx => by simp at hx; subst hx; rfl) (by unfold maxLen; omega) (by omega) (by have := hWW.size; first | omega | (simp; omega)) ?_; intro v5 w5 hown5 hgr5 hnil5))
            go_roundw
            case rel =>
              refine ⟨j + 1, _, by omega, by go_num, hown5, lists_push (unhide HOWN) (unhide HL) hWW hz (b := W1.heap.size) (c := q) ?_ _ ?_ hgr5, ?_⟩
              · rw [unhide HFJ]
                refine Beg.ofBlk ?_
                have e : rfr q p v j = (l3.set p (1 + (r : Int))).set p 0 := by unfold rfr; rw [if_pos ⟨unhide HRC, hj0⟩, unhide HL3, unhide HRV]
                rw [e]; exact hb1
              · rw [unhide HFJ, rfr_len]
              · exact (((unhide HHB).trans (hWW.mono hz)).alloc (by have := hWW.size; omega) _).grown hgr5 (by have := hWW.size; simp; omega) (fun q hq => ((unhide HOWN).lt q hq).1)
            case measure => simp [intOf]; omega
          · have hj0' : ¬ (0 : Int) < (j : Int) := by omega
            go_wp2_with (first | (refine wpList_store_num rfl 5 _ _ rfl _ _ .u8 _ _ _ rfl rfl (by assumption) (by (try simp only [List.length_set]); omega) sizeU8 ?_; intro w' hb1 hg1 hz1 hcl1; clear hz1; have hWW := hWW.trans (below_grown hg1 hWW.size (Nat.le_refl _))) | (at_builtin; refine wpList_append_own _ rfl _ _ 25 rfl W0.heap.size 27 iT (.slice none 0 0) 1 24 Tryd.underlying25 (unhide HT).1 (unhide HT).2.1 (unhide HT).2.2.1 (unhide HT).2.2.2 rfl (by decide) _ j _ rfl (((unhide HOWN).kept (grown_below hWW none) (by cases hv : u9.ownBlock <;> simp)).alloc _) ⟨w'.heap.size, 0, none⟩ 1 1 [.slice (some ⟨W1.heap.size, 0, none⟩) q q] rfl rfl (one_new' _ _ _ _ rfl) (fun x hx => by simp at hx; subst hx; rfl) (by unfold maxLen; omega) (by omega) (by have := hWW.size; first | omega | (simp; omega)) ?_; intro v5 w5 hown5 hgr5 hnil5))
            go_roundw
            case rel =>
              refine ⟨j + 1, _, by omega, by go_num, hown5, lists_push (unhide HOWN) (unhide HL) hWW hz (b := W1.heap.size) (c := q) ?_ _ ?_ hgr5, ?_⟩
              · rw [unhide HFJ]
                refine Beg.ofBlk ?_
                have e : rfr q p v j = l3.set p (1 + (r : Int)) := by unfold rfr; rw [if_neg (fun h => hj0 h.2), unhide HL3, unhide HRV]
                rw [e]; exact hb1
              · rw [unhide HFJ, rfr_len]
              · exact (((unhide HHB).trans (hWW.mono hz)).alloc (by have := hWW.size; omega) _).grown hgr5 (by have := hWW.size; simp; omega) (fun q hq => ((unhide HOWN).lt q hq).1)
            case measure => simp [intOf]; omega
    · have hdj : decide ((j : Int) < 16) = false := by simp; omega
      have hje : j = 16 := by omega
      have HFR : Hid (FrAt wr u9 (rfs n p v)) := hide (by
        refine frAt_of_lists (base := W0.heap.size) (xs := xs) ?_ ?_
        · rw [rfs_len, unhide HRC, ← hje]; exact hown
        · rw [rfs_len, unhide HRC, ← hje]; exact hl)
      clear hown hl hmk
      go_wp2_with fail
      refine (pplay_yes n (.slice none 0 0) [] wr hn2 hn4 (Or.inl ⟨rfl, rfl⟩) (by simp) (fun i => by simp) (fit_nil n) (fun i q => by simp)).mono ?_
      rintro e w2 ⟨g2, rfl, hg2, hbg2, hb2⟩
      have hz2 := hb2.size
      have HG2 := hide hbg2
      clear hbg2
      go_wp2_with fail
      refine (pplay_yes n u9 (rfs n p v) w2 hn2 hn4 ((unhide HFR).below hb2) (by rw [rfs_len, unhide HRC]; omega) (fun i => rfs_size n p v i hn4) (rfs_fit n p v) (fun i q => rfs_range n p v i q)).mono ?_
      rintro e w3 ⟨g3, rfl, hg3, hbg3, hb3⟩
      have hz3 := hb3.size
      have HB2 : Hid (Blk w3 g2 (nums .u8 (startTo n)) 5) := hide ((unhide HG2).below (unhide HG2).lt hb3)
      have HB3 := hide hbg3
      have hl2 := (unhide HB2).lt
      have hl3 := hbg3.lt
      clear hbg3 HG2
      have HCELL : Hid (∀ i, (playL n (rfs n p v)).getD i 0 = (startTo n).getD i 0 ∨ (i = 258 + 8 * p ∧ rcount v = 16)) := hide (fun i => round_cell n p v i hn2 hn4 hpn hv4)
      have HHEAD : Hid (rcount v = 16 → (playL n (rfs n p v)).getD (258 + 8 * p) 0 = 1 + 2 * (r : Int)) := hide (fun h => by rw [round_head n p v hn2 hn4 hpn hv4 h, unhide HRV])
      have HGOOD : Hid (Good (playL n (rfs n p v)) n) := hide (good_play n hn4 _ _)
      have HSTART : Hid (Good (startTo n) n) := hide (good_start n n hn4)
      obtain ⟨M, hM⟩ : ∃ M, M = playL n (rfs n p v) := ⟨_, rfl⟩
      obtain ⟨S, hS⟩ : ∃ S, S = startTo n := ⟨_, rfl⟩
      rw [← hM] at HB3 HCELL HHEAD HGOOD
      rw [← hS] at HB2 HCELL HSTART
      clear hM hS
      go_wp2_with fail
      go_loopw [18] (fun i wq => ∃ q : Nat, q ≤ 288 ∧ i = .int .i64 q ∧ Below w3.heap.size w3 wq) (fun i _ => 288 - (intOf i).toNat)
      case atStart => exact ⟨0, by omega, rfl, Below.refl _ _⟩
      case round =>
        obtain ⟨q, hq, rfl, hb4⟩ := hrel
        have hlenM := (unhide HGOOD).len
        have hlenS := (unhide HSTART).len
        by_cases hq2 : q < 288
        · have hq3 : (q : Int) < 288 := by omega
          have c2 : wr.cell? ⟨g2, q, none⟩ = some (.int .u8 (S.getD q 0)) := by
            rw [hb4.cell (p := ⟨g2, q, none⟩) hl2]; exact (unhide HB2).num q (by omega)
          have c3 : wr.cell? ⟨g3, q, none⟩ = some (.int .u8 (M.getD q 0)) := by
            rw [hb4.cell (p := ⟨g3, q, none⟩) hl3]; exact (unhide HB3).num q (by omega)
          have hcell := unhide HCELL q
          have HH4 := hide hb4
          clear hb4
          generalize S.getD q 0 = sv at *
          generalize M.getD q 0 = mv at *
          have hwp := i64_id (8 * (p : Int)) (by omega) (by omega)
          have hwp2 := i64_id (258 + 8 * (p : Int)) (by omega) (by omega)
          by_cases hqp : q = 258 + 8 * p
          · by_cases heq : mv = sv
            · have hqe : 258 + 8 * (p : Int) = (q : Int) := by omega
              clear hqp
              have hne : (mv != sv) = false := by rw [bne_eq_false_iff_eq]; exact heq
              clear heq
              clear hcell
              go_wp2_with fail
              go_quiet (fail)
              go_wp2_with fail
              go_roundw
              case rel => exact ⟨q + 1, by omega, by go_num, below_drewN (unhide HH4) _⟩
              case measure => simp [intOf]; omega
            · have hqe : 258 + 8 * (p : Int) = (q : Int) := by omega
              clear hqp
              have hne : (mv != sv) = true := by rw [bne_iff_ne]; exact heq
              clear heq
              clear hcell
              go_wp2_with fail
              go_quiet (fail)
              go_wp2_with fail
              go_roundw
              case rel => exact ⟨q + 1, by omega, by go_num, below_drewN (unhide HH4) _⟩
              case measure => simp [intOf]; omega
          · have heq : mv = sv := hcell.resolve_right (fun h => hqp h.1)
            have hqe : ((q : Int) == 258 + 8 * (p : Int)) = false := by rw [beq_eq_false_iff_ne]; omega
            have hne : (mv != sv) = false := by rw [bne_eq_false_iff_eq]; exact heq
            clear heq
            clear hcell
            go_wp2_with fail
            go_quiet (fail)
            go_wp2_with fail
            go_roundw
            case rel => exact ⟨q + 1, by omega, by go_num, below_drewN (unhide HH4) _⟩
            case measure => simp [intOf]; omega
        · have hdq : decide ((q : Int) < 288) = false := by simp; omega
          have c3 : wr.cell? ⟨g3, 258 + 8 * p, none⟩ = some (.int .u8 (1 + 2 * (r : Int))) := by
            rw [hb4.cell (p := ⟨g3, 258 + 8 * p, none⟩) hl3, (unhide HB3).num _ (by omega), unhide HHEAD (unhide HRC)]
          have hwp := i64_id (8 * (p : Int)) (by omega) (by omega)
          have hwp2 := i64_id (258 + 8 * (p : Int)) (by omega) (by omega)
          have htn : (258 + 8 * (p : Int)).toNat = 258 + 8 * p := by omega
          have hi0 : (0 : Int) ≤ 258 + 8 * (p : Int) := by omega
          have hi1 : 258 + 8 * (p : Int) < 288 := by omega
          have HPK : Hid (pickN way 2 = r) := HTWO
          have hwr := i64_id (2 * (r : Int)) (by omega) (by omega)
          have hwr2 := i64_id (1 + 2 * (r : Int)) (by omega) (by omega)
          have HH4 := hide hb4
          clear hb4
          have hpk : ∀ wq : World, Calls Tryd.prog 27 #[.int .i64 way, .int .i64 2] wq fun e w' => e = .returned (.int .i64 (r : Int)) ∧ w' = wq := fun wq => by
            have := pick_any way 2 wq (unhide HWAY) (by omega) (by omega)
            rw [unhide HPK] at this; exact this
          have HPC := hide hpk
          clear hpk
          go_wp2_with fail
          go_quiet ((go_at_call 27; exact Calls.quiet_of_same (unhide HPC _)))
          go_wp2
          go_ret
          exact ⟨rfl, hb.trans ((hb2.trans ((hb3.trans ((below_drewN (unhide HH4) _).mono (by omega))).mono hz2)).mono hz)⟩


set_option maxRecDepth 10000 in
set_option maxHeartbeats 1000000 in
theorem rounded_few (pl k way : Int) (w : World) (hpl : -9223372036854775808 ≤ pl ∧ pl ≤ 9223372036854775807) (hk : -9223372036854775808 ≤ k ∧ k ≤ 9223372036854775807) (hway : -9223372036854775808 ≤ way ∧ way ≤ 9223372036854775807) (hv0 : ¬ 1 < pickN way 4) :
    Calls Tryd.prog 8 #[.int .i64 pl, .int .i64 k, .int .i64 way] w fun ev w' => ev = .returned (.bool true) ∧ Below w.heap.size w w' := by
  have HPL := hide hpl
  have HKK := hide hk
  have HWAY := hide hway
  clear hpl hk hway
  have ha := pickN_lt pl 3 (by omega)
  have hv4 := pickN_lt way 4 (by omega)
  have HTWO := hide (pickN_two way)
  go_enter Tryd.func8, Tryd.ntmps8
  go_wp2_with fail
  refine (pick_any pl 3 w (unhide HPL) (by omega) (by omega)).mono ?_
  rintro e w0 ⟨rfl, rfl⟩
  obtain ⟨n, hn⟩ : ∃ n : Nat, n = 2 + pickN pl 3 := ⟨_, rfl⟩
  have hn2 : 2 ≤ n := by omega
  have hn4 : n ≤ 4 := by omega
  have HNI : Hid ((2 : Int) + (pickN pl 3 : Int) = (n : Int)) := hide (by omega)
  clear hn
  generalize pickN pl 3 = a0 at *
  go_wp2_with fail
  rw [unhide HNI]
  clear HNI ha
  refine (pick_any k n w0 (unhide HKK) (by omega) (by omega)).mono ?_
  rintro e w0 ⟨rfl, rfl⟩
  have hpn := pickN_lt k n (by omega)
  generalize pickN k n = p at *
  go_wp2_with fail
  refine (pick_any way 4 w0 (unhide HWAY) (by omega) (by omega)).mono ?_
  rintro e w0 ⟨rfl, rfl⟩
  generalize pickN way 4 = v at *
  have hv1 : ¬ (1 : Int) < (v : Int) := by omega
  have HRC : Hid (rcount v = 4) := hide (by unfold rcount; rw [if_neg hv0])
  obtain ⟨r, hr⟩ : ∃ r : Nat, r = v % 2 := ⟨_, rfl⟩
  have hr2 : r < 2 := by omega
  have HRV := hide hr
  rw [← hr] at HTWO
  clear hr
  obtain ⟨W0, hW0⟩ : ∃ x, x = w0 := ⟨_, rfl⟩
  subst hW0
  have hmk := make_bytes n hn4
  go_wp2_with fail
  go_loopw [9, 11] (fun l i wr => ∃ (j : Nat) (xs : List Value), j ≤ 4 ∧ i = .int .i64 j ∧ wr.ownsRow W0.heap.size 27 1 l j xs ∧ ListsAt wr W0.heap.size (rfs n p v) j xs ∧ Below W0.heap.size W0 wr) (fun _ i _ => 4 - (intOf i).toNat)
  case atStart => exact ⟨0, [], by omega, rfl, World.ownsRow_nil _ _ _ _, fun i hi => absurd hi (by omega), Below.refl _ _⟩
  case round =>
    obtain ⟨j, xs, hj, rfl, hown, hl, hb⟩ := hrel
    have hz := hb.size
    by_cases hlt : j < 4
    · have hlt' : (j : Int) < 4 := by omega
      have HFJ : Hid ((rfs n p v).getD j [] = rfr n p v j) := hide (rfs_get n p v j (by rw [unhide HRC]; exact hlt))
      have HOWN := hide hown
      have HL := hide hl
      clear hown hl
      obtain ⟨iT, hi1, hi2, hi3, hi4⟩ := info_parts Tryd.infoBytes
      have HT : Hid (Tryd.prog.info? 27 = some iT ∧ iT.zero = some (.slice none 0 0) ∧ iT.size = 1 ∧ iT.bytes = 24) := hide ⟨hi1, hi2, hi3, hi4⟩
      clear hi1 hi2 hi3 hi4
      obtain ⟨W1, hW1⟩ : ∃ x, x = wr := ⟨_, rfl⟩
      subst hW1
      go_wp2_with fail
      go_loopw [13] (fun i w5 => ∃ q : Nat, q ≤ n ∧ i = .int .i64 q ∧ Below W1.heap.size W1 w5 ∧ Blk w5 W1.heap.size (nums .u8 (inTo (List.replicate n 3) n q)) 5) (fun i _ => n - (intOf i).toNat)
      case atStart => exact ⟨0, by omega, rfl, (Below.refl _ _).alloc (Nat.le_refl _) _, by simpa [inTo] using Blk.new W1 (nums .u8 (List.replicate n 0)) 5⟩
      case round =>
        obtain ⟨q, hq, rfl, hb5, hbi⟩ := hrel
        have hz6 := hb5.size
        have hil := inTo_len (List.replicate n (3 : Int)) n q (by simp) hq
        by_cases hqn : q < n
        · have hqn' : (q : Int) < (n : Int) := by omega
          have HIS : Hid ((inTo (List.replicate n (3 : Int)) n q).set q 3 = inTo (List.replicate n 3) n (q + 1)) := hide (by
            have := inTo_succ (List.replicate n (3 : Int)) n q (by simp) hqn
            rwa [List.getD_eq_getElem?_getD, List.getElem?_replicate, if_pos hqn] at this)
          go_wp2_with (refine wpList_store_num rfl 5 _ _ rfl _ _ .u8 _ _ _ rfl rfl (by assumption) (by (try simp only [List.length_set]); omega) sizeU8 ?_; intro w' hb1 hg1 hz1 hcl1)
          go_roundw
          case rel => exact ⟨q + 1, by omega, by go_num, hb5.trans (below_grown hg1 hz6 (Nat.le_refl _)), by rw [← unhide HIS]; exact hb1⟩
          case measure => simp [intOf]; omega
        · have hqe : q = n := by omega
          have HIE : Hid (inTo (List.replicate n (3 : Int)) n n = List.replicate n 3) := hide (by simp [inTo])
          have hdq : decide ((q : Int) < (n : Int)) = false := by simp; omega
          subst hqe
          rw [unhide HIE] at hbi
          have hlr : (List.replicate q (3 : Int)).length = q := by simp
          have hpq : (p : Int) < (q : Int) := by omega
          have HBI := hide hbi
          clear hbi hil
          go_wp2_with fail
          refine (pick_any way 2 wr (unhide HWAY) (by omega) (by omega)).mono ?_
          rintro e wr ⟨rfl, rfl⟩
          rw [unhide HTWO]
          have hbi := unhide HBI
          have hr2' : (r : Int) < 2 := by omega
          obtain ⟨l3, hl3⟩ : ∃ l3, l3 = List.replicate q (3 : Int) := ⟨_, rfl⟩
          rw [← hl3] at hbi hlr
          have HL3 := hide hl3
          have HHB := hide hb
          have HHB5 := hide hb5
          clear hl3 HBI
          have hWW := unhide HHB5
          go_wp2_with (first | (refine wpList_store_num rfl 5 _ _ rfl _ _ .u8 _ _ _ rfl rfl (by assumption) (by (try simp only [List.length_set]); omega) sizeU8 ?_; intro w' hb1 hg1 hz1 hcl1; clear hz1; have hWW := hWW.trans (below_grown hg1 hWW.size (Nat.le_refl _))) | (at_builtin; refine wpList_append_own _ rfl _ _ 25 rfl W0.heap.size 27 iT (.slice none 0 0) 1 24 Tryd.underlying25 (unhide HT).1 (unhide HT).2.1 (unhide HT).2.2.1 (unhide HT).2.2.2 rfl (by decide) _ j _ rfl (((unhide HOWN).kept (grown_below hWW none) (by cases hv : u9.ownBlock <;> simp)).alloc _) ⟨w'.heap.size, 0, none⟩ 1 1 [.slice (some ⟨W1.heap.size, 0, none⟩) q q] rfl rfl (one_new' _ _ _ _ rfl) (fun x hx => by simp at hx; subst hx; rfl) (by unfold maxLen; omega) (by omega) (by have := hWW.size; first | omega | (simp; omega)) ?_; intro v5 w5 hown5 hgr5 hnil5))
          go_roundw
          case rel =>
            refine ⟨j + 1, _, by omega, by go_num, hown5, lists_push (unhide HOWN) (unhide HL) hWW hz (b := W1.heap.size) (c := q) ?_ _ ?_ hgr5, ?_⟩
            · rw [unhide HFJ]
              refine Beg.ofBlk ?_
              have e : rfr q p v j = l3.set p (1 + (r : Int)) := by unfold rfr; rw [if_neg (fun h => by have := unhide HRC; omega), unhide HL3, unhide HRV]
              rw [e]; exact hb1
            · rw [unhide HFJ, rfr_len]
            · exact (((unhide HHB).trans (hWW.mono hz)).alloc (by have := hWW.size; omega) _).grown hgr5 (by have := hWW.size; simp; omega) (fun q hq => ((unhide HOWN).lt q hq).1)
          case measure => simp [intOf]; omega
    · have hdj : decide ((j : Int) < 4) = false := by simp; omega
      have hje : j = 4 := by omega
      have HFR : Hid (FrAt wr u9 (rfs n p v)) := hide (by
        refine frAt_of_lists (base := W0.heap.size) (xs := xs) ?_ ?_
        · rw [rfs_len, unhide HRC, ← hje]; exact hown
        · rw [rfs_len, unhide HRC, ← hje]; exact hl)
      clear hown hl hmk
      go_wp2_with fail
      refine (pplay_yes n (.slice none 0 0) [] wr hn2 hn4 (Or.inl ⟨rfl, rfl⟩) (by simp) (fun i => by simp) (fit_nil n) (fun i q => by simp)).mono ?_
      rintro e w2 ⟨g2, rfl, hg2, hbg2, hb2⟩
      have hz2 := hb2.size
      have HG2 := hide hbg2
      clear hbg2
      go_wp2_with fail
      refine (pplay_yes n u9 (rfs n p v) w2 hn2 hn4 ((unhide HFR).below hb2) (by rw [rfs_len, unhide HRC]; omega) (fun i => rfs_size n p v i hn4) (rfs_fit n p v) (fun i q => rfs_range n p v i q)).mono ?_
      rintro e w3 ⟨g3, rfl, hg3, hbg3, hb3⟩
      have hz3 := hb3.size
      have HB2 : Hid (Blk w3 g2 (nums .u8 (startTo n)) 5) := hide ((unhide HG2).below (unhide HG2).lt hb3)
      have HB3 := hide hbg3
      have hl2 := (unhide HB2).lt
      have hl3 := hbg3.lt
      clear hbg3 HG2
      have HCELL : Hid (∀ i, (playL n (rfs n p v)).getD i 0 = (startTo n).getD i 0 ∨ (i = 258 + 8 * p ∧ rcount v = 16)) := hide (fun i => round_cell n p v i hn2 hn4 hpn hv4)
      have HHEAD : Hid (rcount v = 16 → (playL n (rfs n p v)).getD (258 + 8 * p) 0 = 1 + 2 * (r : Int)) := hide (fun h => by rw [round_head n p v hn2 hn4 hpn hv4 h, unhide HRV])
      have HGOOD : Hid (Good (playL n (rfs n p v)) n) := hide (good_play n hn4 _ _)
      have HSTART : Hid (Good (startTo n) n) := hide (good_start n n hn4)
      obtain ⟨M, hM⟩ : ∃ M, M = playL n (rfs n p v) := ⟨_, rfl⟩
      obtain ⟨S, hS⟩ : ∃ S, S = startTo n := ⟨_, rfl⟩
      rw [← hM] at HB3 HCELL HHEAD HGOOD
      rw [← hS] at HB2 HCELL HSTART
      clear hM hS
      go_wp2_with fail
      go_loopw [18] (fun i wq => ∃ q : Nat, q ≤ 288 ∧ i = .int .i64 q ∧ Below w3.heap.size w3 wq) (fun i _ => 288 - (intOf i).toNat)
      case atStart => exact ⟨0, by omega, rfl, Below.refl _ _⟩
      case round =>
        obtain ⟨q, hq, rfl, hb4⟩ := hrel
        have hlenM := (unhide HGOOD).len
        have hlenS := (unhide HSTART).len
        by_cases hq2 : q < 288
        · have hq3 : (q : Int) < 288 := by omega
          have c2 : wr.cell? ⟨g2, q, none⟩ = some (.int .u8 (S.getD q 0)) := by
            rw [hb4.cell (p := ⟨g2, q, none⟩) hl2]; exact (unhide HB2).num q (by omega)
          have c3 : wr.cell? ⟨g3, q, none⟩ = some (.int .u8 (M.getD q 0)) := by
            rw [hb4.cell (p := ⟨g3, q, none⟩) hl3]; exact (unhide HB3).num q (by omega)
          have hcell := unhide HCELL q
          have HH4 := hide hb4
          clear hb4
          generalize S.getD q 0 = sv at *
          generalize M.getD q 0 = mv at *
          have hwp := i64_id (8 * (p : Int)) (by omega) (by omega)
          have hwp2 := i64_id (258 + 8 * (p : Int)) (by omega) (by omega)
          have heq : mv = sv := hcell.resolve_right (fun h => by have := unhide HRC; omega)
          by_cases hqp : q = 258 + 8 * p
          · have hqe : 258 + 8 * (p : Int) = (q : Int) := by omega
            clear hqp
            have hne : (mv != sv) = false := by rw [bne_eq_false_iff_eq]; exact heq
            clear heq
            clear hcell
            go_wp2_with fail
            go_quiet (fail)
            go_wp2_with fail
            go_roundw
            case rel => exact ⟨q + 1, by omega, by go_num, below_drewN (unhide HH4) _⟩
            case measure => simp [intOf]; omega
          · have hqe : ((q : Int) == 258 + 8 * (p : Int)) = false := by rw [beq_eq_false_iff_ne]; omega
            have hne : (mv != sv) = false := by rw [bne_eq_false_iff_eq]; exact heq
            clear heq
            clear hcell
            go_wp2_with fail
            go_quiet (fail)
            go_wp2_with fail
            go_roundw
            case rel => exact ⟨q + 1, by omega, by go_num, below_drewN (unhide HH4) _⟩
            case measure => simp [intOf]; omega
        · have hdq : decide ((q : Int) < 288) = false := by simp; omega
          have HH4 := hide hb4
          clear hb4
          go_wp2_with fail
          go_quiet (fail)
          go_wp2
          go_ret
          exact ⟨rfl, hb.trans ((hb2.trans ((hb3.trans ((below_drewN (unhide HH4) _).mono (by omega))).mono hz2)).mono hz)⟩

end Go.Proofs.YtandblanpafjoaaDoor
