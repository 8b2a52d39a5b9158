import Derived.Test.YtandblanpafjoaaDoorPlaysGame
import Derived.Test.YtandblanpafjoaaDoorPaintP
import Derived.Test.YtandblanpafjoaaDoorLists
import Derived.Lib.ConvBytes
import Derived.BigQuiet
namespace Go.Proofs.YtandblanpafjoaaDoor
open Go.RowKit Go.Extern.Stop Go.Stop Go.Extern

def Z256 : List Int := List.replicate 256 0
theorem made256 (w : World) : (Instr.makeSlice 31 (.int .i64 256) (.int .i64 256)).run Tryd.prog w = .ok (.slice (some ⟨w.heap.size, 0, none⟩) 256 256) (w.alloc (.cells (nums .i64 Z256) 3)) := by kernel_rfl
theorem madeOf (s : ByteArray) (w : World) : ∃ W cap, (convert 9 27 (.string s)).run Tryd.prog w = .ok (.slice (some ⟨w.heap.size, 0, none⟩) s.size cap) W ∧ Below w.heap.size w W ∧ Beg W w.heap.size (bytesOf s) := by
  refine ⟨_, _, Lib.run_convert_string_bytes w 9 27 5 s Tryd.underlying9 Tryd.underlying27 Tryd.underlying5, ⟨rfl, rfl, rfl, by rw [Lib.bytesWorld_size]; omega, fun k hk => Lib.bytesWorld_at_old w _ s k hk⟩, _, _, Lib.bytesWorld_at_new w _ s, fun q hq => ?_⟩
  rw [bytesOf_len] at hq
  have h1 := Lib.bytesWorld_cell w 5 s q hq
  rw [cell_of_row _ _ _ _ _ _ (Lib.bytesWorld_at_new w _ s)] at h1
  rw [h1]
  have hj' : q < s.data.toList.length := by simpa using hq
  rw [List.getD_eq_getElem?_getD, List.getD_eq_getElem?_getD, bytesOf, List.getElem?_map, List.getElem?_eq_getElem hj']; rfl
theorem how_many (N n : Nat) (hn : 0 < n) : ∃ J, J ≤ 200 ∧ n * J ≤ N ∧ (J = 200 ∨ N < n * (J + 1)) := by
  by_cases h : N / n < 200
  · exact ⟨N / n, by omega, Nat.mul_div_le _ _, Or.inr (Nat.lt_mul_div_succ _ hn)⟩
  · exact ⟨200, Nat.le_refl _, Nat.le_trans (Nat.mul_le_mul_left n (by omega)) (Nat.mul_div_le N n), Or.inl rfl⟩
theorem cut_fit (S : ByteArray) (n J : Nat) (hJ : J ≤ 200) (hle : n * J ≤ S.size) : fitB (n : Int) (fsOf S n J) = true := by
  unfold fitB
  rw [Bool.and_eq_true]
  refine ⟨decide_eq_true (by rw [fsOf_len]; exact hJ), decide_eq_true (fun i hi => ?_)⟩
  rw [fsOf_len] at hi
  rw [fsOf_get S n J i hi, bytesOf_len]
  unfold chunk
  rw [ByteArray.size_extract]
  have h1 : (i + 1) * n ≤ J * n := Nat.mul_le_mul_right n hi
  rw [Nat.mul_comm J n] at h1
  rw [Nat.add_mul, Nat.one_mul] at h1 ⊢
  omega
theorem cut_size (S : ByteArray) (n J i : Nat) (hn : n ≤ 4) : ((fsOf S n J).getD i []).length ≤ 100000 := by
  by_cases hi : i < J
  · rw [fsOf_get S n J i hi, bytesOf_len]; unfold chunk; rw [ByteArray.size_extract, Nat.add_mul, Nat.one_mul]; omega
  · rw [fsOf_out S n J i hi]; simp

set_option maxRecDepth 10000 in
set_option maxHeartbeats 1000000 in
theorem painted_any (pl : Int) (S : ByteArray) (w : World) (hpl : -9223372036854775808 ≤ pl ∧ pl ≤ 9223372036854775807) :
    Calls Tryd.prog 9 #[.int .i64 pl, .string S] w fun ev w' => ev = .returned (.bool true) ∧ Below w.heap.size w w' := by
  have HPL := hide hpl
  clear hpl
  have ha := pickN_lt pl 3 (by omega)
  go_enter Tryd.func9, Tryd.ntmps9
  go_wp2_with fail
  refine (pick_any pl 3 w (unhide HPL) (by omega) (by omega)).mono ?_
  rintro e w0 ⟨rfl, rfl⟩
  obtain ⟨n, hn⟩ : ∃ n : Nat, n = 2 + pickN pl 3 := ⟨_, rfl⟩
  have hn2 : 2 ≤ n := by omega
  have hn4 : n ≤ 4 := by omega
  have HNI : Hid ((2 : Int) + (pickN pl 3 : Int) = (n : Int)) := hide (by omega)
  clear hn
  generalize pickN pl 3 = a0 at *
  go_wp2_with fail
  rw [unhide HNI]
  clear HNI ha
  obtain ⟨J, hJ, hJn, hJe⟩ := how_many S.size n (by omega)
  have HJN := hide hJn
  have HJE := hide hJe
  clear hJn hJe
  obtain ⟨W0, hW0⟩ : ∃ x, x = w0 := ⟨_, rfl⟩
  subst hW0
  go_loopw [6] (fun l wr => ∃ (j : Nat) (xs : List Value), j ≤ J ∧ wr.ownsRow W0.heap.size 27 1 l j xs ∧ ListsAt wr W0.heap.size (fsOf S n J) j xs ∧ Below W0.heap.size W0 wr) (fun l _ => 200 - lenOf l)
  case atStart => exact ⟨0, [], by omega, World.ownsRow_nil _ _ _ _, fun i hi => absurd hi (by omega), Below.refl _ _⟩
  case round =>
    obtain ⟨j, xs, hj, hown, hl, hb⟩ := hrel
    have hz := hb.size
    have hlo := owns_len hown
    obtain ⟨vp, vc, rfl⟩ : ∃ vp vc, u6 = .slice vp j vc := by
      rcases hown.2 with ⟨h1, h2⟩ | ⟨g, cap, cur, h1, _⟩
      · exact ⟨none, 0, by rw [h1, h2]⟩
      · exact ⟨_, _, h1⟩
    clear hlo
    obtain ⟨A, hA0⟩ : ∃ A : Nat, A = n * j := ⟨_, rfl⟩
    have hA : (n : Int) * (j : Int) = (A : Int) := by rw [hA0, Int.natCast_mul]
    have hB : (n : Int) * ((j : Int) + 1) = (A : Int) + (n : Int) := by rw [Int.mul_add, Int.mul_one, hA]
    have hA8 : A ≤ 800 := by rw [hA0]; exact Nat.mul_le_mul hn4 (show j ≤ 200 by omega)
    have hwA := i64_id (A : Int) (by omega) (by omega)
    have hwB := i64_id ((A : Int) + (n : Int)) (by omega) (by omega)
    by_cases hlt : j < J
    · have hlt' : (j : Int) < 200 := by omega
      have hAn : A + n ≤ S.size := by
        have h1 := Nat.le_trans (Nat.mul_le_mul_left n (show j + 1 ≤ J by omega)) (unhide HJN)
        rw [Nat.mul_add, Nat.mul_one, ← hA0] at h1; exact h1
      have hck : S.extract A (A + n) = chunk S n j := by
        unfold chunk; rw [Nat.add_mul, Nat.one_mul, Nat.mul_comm j n, ← hA0]
      have HCS : Hid ((chunk S n j).size = n) := hide (by rw [← hck, ByteArray.size_extract]; omega)
      have HFJ : Hid ((fsOf S n J).getD j [] = bytesOf (chunk S n j)) := hide (fsOf_get S n J j hlt)
      have HOWN := hide hown
      have HL := hide hl
      clear hown hl hA0
      obtain ⟨iT, hi1, hi2, hi3, hi4⟩ := info_parts Tryd.infoBytes
      have HT : Hid (Tryd.prog.info? 27 = some iT ∧ iT.zero = some (.slice none 0 0) ∧ iT.size = 1 ∧ iT.bytes = 24) := hide ⟨hi1, hi2, hi3, hi4⟩
      clear hi1 hi2 hi3 hi4
      generalize chunk S n j = ck at *
      obtain ⟨W1, cp, hcv, hWW, hbeg⟩ := madeOf ck wr
      rw [unhide HCS] at hcv
      have HBEG := hide hbeg
      clear hbeg
      have hi1 : (A : Int) ≤ (A : Int) + (n : Int) := by omega
      have hi2 : (A : Int) + (n : Int) ≤ (S.size : Int) := by omega
      have hi3 : ((A : Int) + (n : Int)).toNat = A + n := by omega
      have hi4 : (0 : Int) ≤ (A : Int) + (n : Int) := by omega
      have hwz := hWW.size
      go_wp2_with (at_builtin; refine wpList_append_own _ rfl _ _ 25 rfl W0.heap.size 27 iT (.slice none 0 0) 1 24 Tryd.underlying25 (unhide HT).1 (unhide HT).2.1 (unhide HT).2.2.1 (unhide HT).2.2.2 rfl (by decide) _ j _ rfl (((unhide HOWN).kept (grown_below hWW none) (by cases hv : (Value.slice vp j vc).ownBlock <;> simp)).alloc _) ⟨W1.heap.size, 0, none⟩ 1 1 [.slice (some ⟨wr.heap.size, 0, none⟩) n cp] rfl rfl (one_new' _ _ _ _ rfl) (fun x hx => by simp at hx; subst hx; rfl) (by unfold maxLen; omega) (by omega) (by first | omega | (simp; omega)) ?_; intro v5 w5 hown5 hgr5 hnil5)
      go_roundw
      case rel =>
        refine ⟨j + 1, _, by omega, hown5, lists_push (unhide HOWN) (unhide HL) hWW (b := wr.heap.size) (c := cp) hz ?_ _ ?_ hgr5, ?_⟩
        · rw [unhide HFJ]; exact unhide HBEG
        · rw [unhide HFJ, bytesOf_len, unhide HCS]
        · exact ((hb.trans (hWW.mono hz)).alloc (by omega) _).grown hgr5 (by simp; omega) (fun q hq => ((unhide HOWN).lt q hq).1)
      case measure =>
        rw [owns_len hown5]
        show 200 - (j + 1) < 200 - j
        omega
    · have hje : j = J := by omega
      have HFR : Hid (FrAt wr (.slice vp j vc) (fsOf S n J)) := hide (by
        refine frAt_of_lists (base := W0.heap.size) (xs := xs) ?_ ?_
        · rw [fsOf_len, ← hje]; exact hown
        · have e : (fsOf S n J).length = j := by rw [fsOf_len]; exact hje.symm
          rw [e]; exact hl)
      have hend : ¬ (j : Int) < 200 ∨ ((j : Int) < 200 ∧ ¬ (A : Int) + (n : Int) ≤ (S.size : Int)) := by
        rcases unhide HJE with h | h
        · exact Or.inl (by omega)
        · by_cases h2 : j = 200
          · exact Or.inl (by omega)
          · rw [← hje, Nat.mul_add, Nat.mul_one, ← hA0] at h
            exact Or.inr ⟨by omega, by omega⟩
      clear hown hl hA0 hje
      have HFAIR : Hid (Fair (playL n (fsOf S n J)) n (fun _ => J)) := hide (by
        have := fair_play n hn4 (fsOf S n J) J hJ
        unfold playL; rw [fsOf_len]; exact this)
      have HGOOD : Hid (Good (playL n (fsOf S n J)) n) := hide (good_play n hn4 _ _)
      have HFIT := hide (cut_fit S n J hJ (unhide HJN))
      rcases hend with hend | ⟨hend, hend2⟩
      all_goals
        go_wp2_with fail
        refine (pplay_yes n (.slice vp j vc) (fsOf S n J) wr hn2 hn4 (unhide HFR) (by rw [fsOf_len]; omega) (fun i => cut_size S n J i hn4) (unhide HFIT) (fun i q => fsOf_range S n J i q)).mono ?_
        rintro e w2 ⟨g, rfl, hg2, hbg, hb2⟩
        have hz2 := hb2.size
        have hgl := hbg.lt
        have HBG := hide hbg
        clear hbg
        obtain ⟨M, hM⟩ : ∃ M, M = playL n (fsOf S n J) := ⟨_, rfl⟩
        rw [← hM] at HBG HFAIR HGOOD
        clear hM
        have hlen := (unhide HGOOD).len
        have hmk := made256
        go_wp2_with fail
        clear hmk
        go_loopw [10] (fun i wq => ∃ q : Nat, q ≤ 256 ∧ i = .int .i64 q ∧ Below w2.heap.size w2 wq ∧ Blk wq w2.heap.size (nums .i64 (cellsTo M q)) 3) (fun i _ => 256 - (intOf i).toNat)
        case atStart => exact ⟨0, by omega, rfl, (Below.refl _ _).alloc (Nat.le_refl _) _, by rw [cellsTo_zero]; exact Blk.new w2 (nums .i64 Z256) 3⟩
        case round =>
          obtain ⟨q, hq, rfl, hb3, hbc⟩ := hrel
          have hz3 := hb3.size
          have hcl := cellsTo_len M q
          by_cases hq2 : q < 256
          · have hq3 : (q : Int) < 256 := by omega
            obtain ⟨v, hv⟩ : ∃ v : Nat, M.getD q 0 = (v : Int) := ⟨(M.getD q 0).toNat, by have := (unhide HGOOD).rng q; omega⟩
            have hvn : ¬ (n : Int) < (v : Int) := by have := (unhide HFAIR).cells q hq2; omega
            have hv8 : v < 256 := by omega
            have cm : wr.cell? ⟨g, q, none⟩ = some (.int .u8 (v : Int)) := by
              rw [hb3.cell (p := ⟨g, q, none⟩) hgl, (unhide HBG).num q (by omega), hv]
            have cc : wr.cell? ⟨w2.heap.size, v, none⟩ = some (.int .i64 ((cellsTo M q).getD v 0)) := hbc.num v (by omega)
            have hcr := cellsTo_range M q v (by omega)
            have HSC := hide (cellsTo_succ M q v hlen hq2 hv8 hv)
            clear hv
            obtain ⟨cv, hcv⟩ : ∃ cv, cv = (cellsTo M q).getD v 0 := ⟨_, rfl⟩
            rw [← hcv] at cc hcr HSC
            clear hcv
            go_wp2_with (refine wpList_store_num rfl 3 _ _ rfl _ _ .i64 _ _ _ rfl rfl (by assumption) (by (try simp only [List.length_set]); omega) sizeInt ?_; intro w' hb1 hg1 hz1 hcl1)
            go_roundw
            case rel => exact ⟨q + 1, by omega, by go_num, hb3.trans (below_grown hg1 hz3 (Nat.le_refl _)), by rw [← unhide HSC]; exact hb1⟩
            case measure => simp [intOf]; omega
          · have hqe : q = 256 := by omega
            have HC : Hid (Blk wr w2.heap.size (nums .i64 (cellsTo M 256)) 3) := hide (by rw [hqe] at hbc; exact hbc)
            have hdq : decide ((q : Int) < 256) = false := by simp; omega
            clear hqe hcl
            have HM : Hid (Blk wr g (nums .u8 M) 5) := hide ((unhide HBG).below hgl hb3)
            have hcl1 := hbc.lt
            have hgl3 := (unhide HM).lt
            clear hbc hq hq2
            obtain ⟨W3, hW3⟩ : ∃ x, x = wr := ⟨_, rfl⟩
            subst hW3
            go_wp2_with fail
            go_loopw [11] (fun i wq => ∃ k : Nat, k ≤ 4 ∧ i = .int .i64 k ∧ Below W3.heap.size W3 wq) (fun i _ => 4 - (intOf i).toNat)
            case atStart => exact ⟨0, by omega, rfl, Below.refl _ _⟩
            case round =>
              obtain ⟨k, hk, rfl, hb4⟩ := hrel
              have hz4 := hb4.size
              by_cases hk4 : k < 4
              · have hk4' : (k : Int) < 4 := by omega
                have hw1 := i64_id (8 * (k : Int)) (by omega) (by omega)
                have hw2 := i64_id (256 + 8 * (k : Int)) (by omega) (by omega)
                have hw3 := i64_id (264 + 8 * (k : Int)) (by omega) (by omega)
                have ht1 : (256 + 8 * (k : Int)).toNat = 256 + 8 * k := by omega
                have ht2 : (264 + 8 * (k : Int)).toNat = 264 + 8 * k := by omega
                have hs1 : (0 : Int) ≤ 256 + 8 * (k : Int) := by omega
                have hs2 : 256 + 8 * (k : Int) ≤ 264 + 8 * (k : Int) := by omega
                have hs3 : 264 + 8 * (k : Int) ≤ 288 := by omega
                have hs4 : (0 : Int) ≤ 264 + 8 * (k : Int) := by omega
                have hs5 : 264 + 8 * k - (256 + 8 * k) = 8 := by omega
                by_cases hkn : k < n
                · have hkn' : ¬ (n : Int) ≤ (k : Int) := by omega
                  have hsh := (unhide HGOOD).ship hkn
                  have hfs := (unhide HFAIR).score k hkn
                  have hfw := (unhide HFAIR).won k hkn
                  have HAP : Hid (∀ o, o < k → ¬ (gx M o = gx M k ∧ gy M o = gy M k)) := hide (fun o ho => (unhide HFAIR).apart o k (by omega) hkn (by omega))
                  have HCK : Hid ((cellsTo M 256).getD (k + 1) 0 = (cnt M ((k : Int) + 1) : Int)) := hide (by rw [cellsTo_all M (k + 1) (by omega)]; rfl)
                  unfold gs at hfs hfw
                  obtain ⟨X, hX⟩ : ∃ X, X = gx M k := ⟨_, rfl⟩
                  obtain ⟨Y, hY⟩ : ∃ Y, Y = gy M k := ⟨_, rfl⟩
                  obtain ⟨H, hH⟩ : ∃ H, H = gh M k := ⟨_, rfl⟩
                  obtain ⟨sa, hsa⟩ : ∃ sa, sa = ga M k := ⟨_, rfl⟩
                  obtain ⟨sb, hsb⟩ : ∃ sb, sb = gb M k := ⟨_, rfl⟩
                  obtain ⟨C, hC⟩ : ∃ C, C = cnt M ((k : Int) + 1) := ⟨_, rfl⟩
                  rw [← hX, ← hY, ← hH, ← hsa, ← hsb] at hsh
                  rw [← hX, ← hY] at HAP
                  rw [← hsa, ← hsb] at hfs hfw
                  rw [← hC] at HCK hfw
                  clear hX hY hH hsa hsb hC
                  have hb0 := hsh.hx
                  have hb1 := hsh.hy
                  have hb2' := hsh.hh
                  have hb3' := hsh.ha
                  have hb4' := hsh.hb
                  have HSH := hide hsh
                  clear hsh
                  have c3 : wr.cell? ⟨g, 256 + 8 * k + 3, none⟩ = some (.int .u8 (sa : Int)) := by rw [hb4.cell (p := ⟨g, 256 + 8 * k + 3, none⟩) hgl3, (unhide HM).num _ (by omega), (unhide HSH).ea]
                  have c4 : wr.cell? ⟨g, 256 + 8 * k + 4, none⟩ = some (.int .u8 (sb : Int)) := by rw [hb4.cell (p := ⟨g, 256 + 8 * k + 4, none⟩) hgl3, (unhide HM).num _ (by omega), (unhide HSH).eb]
                  have hwa := i64_id (256 * (sa : Int)) (by omega) (by omega)
                  have hwb := i64_id (256 * (sa : Int) + (sb : Int)) (by omega) (by omega)
                  have HB4 := hide hb4
                  clear hb4
                  go_wp2_with fail
                  go_quiet (fail)
                  obtain ⟨W4, hW4, hb5⟩ : ∃ W4, W4 = wr.drewN nq ∧ Below W3.heap.size W3 W4 := ⟨_, rfl, below_drewN (unhide HB4) _⟩
                  rw [← hW4]
                  clear hW4 c3 c4
                  have d0 : W4.cell? ⟨g, 256 + 8 * k, none⟩ = some (.int .u8 (X : Int)) := by rw [hb5.cell (p := ⟨g, 256 + 8 * k, none⟩) hgl3, (unhide HM).num _ (by omega), (unhide HSH).ex]
                  have d1 : W4.cell? ⟨g, 256 + 8 * k + 1, none⟩ = some (.int .u8 (Y : Int)) := by rw [hb5.cell (p := ⟨g, 256 + 8 * k + 1, none⟩) hgl3, (unhide HM).num _ (by omega), (unhide HSH).ey]
                  have d2 : W4.cell? ⟨g, 256 + 8 * k + 2, none⟩ = some (.int .u8 (H : Int)) := by rw [hb5.cell (p := ⟨g, 256 + 8 * k + 2, none⟩) hgl3, (unhide HM).num _ (by omega), (unhide HSH).eh]
                  have dc : W4.cell? ⟨w2.heap.size, k + 1, none⟩ = some (.int .i64 (C : Int)) := by rw [hb5.cell (p := ⟨w2.heap.size, k + 1, none⟩) hcl1, (unhide HC).num _ (by rw [cellsTo_len]; omega), unhide HCK]
                  have q0 : ¬ (15 : Int) < (X : Int) := by omega
                  have q1 : ¬ (15 : Int) < (Y : Int) := by omega
                  have q2 : ¬ (3 : Int) < (H : Int) := by omega
                  have q3 : ¬ 256 * (sa : Int) + (sb : Int) < (C : Int) := by omega
                  have q4 : ¬ (j : Int) < 256 * (sa : Int) + (sb : Int) := by omega
                  have HB5 := hide hb5
                  clear hb5
                  go_wp2_with fail
                  go_loopw [15] (fun i wq => ∃ o : Nat, o ≤ k ∧ i = .int .i64 o ∧ Below W3.heap.size W3 wq) (fun i _ => k - (intOf i).toNat)
                  case atStart => exact ⟨0, by omega, rfl, unhide HB5⟩
                  case round =>
                    clear d0 d1 d2 dc q0 q1 q2 q3 q4
                    obtain ⟨o, ho, rfl, hb6⟩ := hrel
                    by_cases hok : o < k
                    · have hok' : (o : Int) < (k : Int) := by omega
                      have d0 : wr.cell? ⟨g, 256 + 8 * k, none⟩ = some (.int .u8 (X : Int)) := by rw [hb6.cell (p := ⟨g, 256 + 8 * k, none⟩) hgl3, (unhide HM).num _ (by omega), (unhide HSH).ex]
                      have d1 : wr.cell? ⟨g, 256 + 8 * k + 1, none⟩ = some (.int .u8 (Y : Int)) := by rw [hb6.cell (p := ⟨g, 256 + 8 * k + 1, none⟩) hgl3, (unhide HM).num _ (by omega), (unhide HSH).ey]
                      have hso := (unhide HGOOD).ship (show o < n by omega)
                      have hap := unhide HAP o hok
                      have e0 : wr.cell? ⟨g, 256 + 8 * o, none⟩ = some (.int .u8 (gx M o : Int)) := by rw [hb6.cell (p := ⟨g, 256 + 8 * o, none⟩) hgl3, (unhide HM).num _ (by omega), hso.ex]
                      have e1 : wr.cell? ⟨g, 257 + 8 * o, none⟩ = some (.int .u8 (gy M o : Int)) := by rw [hb6.cell (p := ⟨g, 257 + 8 * o, none⟩) hgl3, (unhide HM).num _ (by omega), show 257 + 8 * o = 256 + 8 * o + 1 by omega, hso.ey]
                      clear hso
                      generalize gx M o = XO at *
                      generalize gy M o = YO at *
                      have v1 := i64_id (8 * (o : Int)) (by omega) (by omega)
                      have v2 := i64_id (256 + 8 * (o : Int)) (by omega) (by omega)
                      have v3 := i64_id (257 + 8 * (o : Int)) (by omega) (by omega)
                      have v4 : (256 + 8 * (o : Int)).toNat = 256 + 8 * o := by omega
                      have v5 : (257 + 8 * (o : Int)).toNat = 257 + 8 * o := by omega
                      have v6 : (0 : Int) ≤ 256 + 8 * (o : Int) := by omega
                      have v7 : (0 : Int) ≤ 257 + 8 * (o : Int) := by omega
                      have v8 : 256 + 8 * (o : Int) < 288 := by omega
                      have v9 : 257 + 8 * (o : Int) < 288 := by omega
                      have HB6 := hide hb6
                      clear hb6
                      by_cases hxe : XO = X
                      · rw [hxe] at e0 hap
                        have hye : ((YO : Int) == (Y : Int)) = false := by
                          rw [beq_eq_false_iff_ne]
                          exact fun h => hap ⟨rfl, by omega⟩
                        clear hap hxe
                        go_wp2_with fail
                        go_quiet (fail)
                        go_wp2_with fail
                        go_roundw
                        case rel => exact ⟨o + 1, by omega, by go_num, below_drewN (unhide HB6) _⟩
                        case measure => simp [intOf]; omega
                      · have hxf : ((XO : Int) == (X : Int)) = false := by
                          rw [beq_eq_false_iff_ne]
                          exact fun h => hxe (by omega)
                        clear hap hxe
                        go_wp2_with fail
                        go_quiet (fail)
                        go_wp2_with fail
                        go_roundw
                        case rel => exact ⟨o + 1, by omega, by go_num, below_drewN (unhide HB6) _⟩
                        case measure => simp [intOf]; omega
                    · have hdo : decide ((o : Int) < (k : Int)) = false := by simp; omega
                      go_wp2_with fail
                      go_roundw
                      case rel => exact ⟨k + 1, by omega, by go_num, hb6⟩
                      case measure => simp [intOf]; omega
                · have hkn' : (n : Int) ≤ (k : Int) := by omega
                  have HB4 := hide hb4
                  clear hb4
                  go_wp2_with fail
                  go_loopw [13] (fun i wq => ∃ o : Nat, o ≤ 8 ∧ i = .int .i64 o ∧ Below W3.heap.size W3 wq) (fun i _ => 8 - (intOf i).toNat)
                  case atStart => exact ⟨0, by omega, rfl, unhide HB4⟩
                  case round =>
                    obtain ⟨o, ho, rfl, hb6⟩ := hrel
                    by_cases hok : o < 8
                    · have hok' : (o : Int) < 8 := by omega
                      have e0 : wr.cell? ⟨g, 256 + 8 * k + o, none⟩ = some (.int .u8 0) := by rw [hb6.cell (p := ⟨g, 256 + 8 * k + o, none⟩) hgl3, (unhide HM).num _ (by omega), (unhide HFAIR).none k (by omega) hk4 o hok]
                      go_wp2_with fail
                      go_roundw
                      case rel => exact ⟨o + 1, by omega, by go_num, hb6⟩
                      case measure => simp [intOf]; omega
                    · have hdo : decide ((o : Int) < 8) = false := by simp; omega
                      go_wp2_with fail
                      go_roundw
                      case rel => exact ⟨k + 1, by omega, by go_num, hb6⟩
                      case measure => simp [intOf]; omega
              · have hke : ¬ (k : Int) < 4 := by omega
                go_wp2
                go_ret
                exact ⟨rfl, ((hb.trans (hb2.mono hz)).trans (hb3.mono (by omega))).trans (hb4.mono (by omega))⟩
end Go.Proofs.YtandblanpafjoaaDoor
