import Derived.Test.YtandblanpafjoaaDoorPlaysLaw
import Derived.Test.YtandblanpafjoaaDoorFits
namespace Go.Proofs.YtandblanpafjoaaDoor
open Go.RowKit Go.Extern.Stop Go.Stop Go.Extern

def inTo (l : List Int) (n k : Nat) : List Int := l.take k ++ List.replicate (n - k) 0
theorem inTo_len (l : List Int) (n k : Nat) (hl : l.length = n) (hk : k ≤ n) : (inTo l n k).length = n := by simp [inTo, hl]; omega
theorem inTo_succ (l : List Int) (n k : Nat) (hl : l.length = n) (hk : k < n) : (inTo l n k).set k (l.getD k 0) = inTo l n (k + 1) := by
  apply list_ext (by rw [List.length_set, inTo_len l n k hl (by omega), inTo_len l n (k + 1) hl (by omega)])
  intro j
  have hget : ∀ q, q ≤ n → (inTo l n q).getD j 0 = if j < q then l.getD j 0 else 0 := fun q hq => by
    unfold inTo
    by_cases hj : j < q
    · rw [if_pos hj, List.getD_eq_getElem?_getD, List.getElem?_append_left (by simp [hl]; omega), List.getElem?_take, if_pos hj]; rfl
    · rw [if_neg hj, List.getD_eq_getElem?_getD, List.getElem?_append_right (by simp [hl]; omega), List.getElem?_replicate]
      split <;> rfl
  rw [getD_set _ _ _ _ (by rw [inTo_len l n k hl (by omega)]; exact hk), hget k (by omega), hget (k + 1) (by omega)]
  by_cases hj : k = j
  · subst hj; rw [if_pos rfl, if_pos (by omega)]
  · rw [if_neg hj]
    by_cases hj2 : j < k
    · rw [if_pos hj2, if_pos (by omega)]
    · rw [if_neg hj2, if_neg (by omega)]

set_option maxRecDepth 10000 in
set_option maxHeartbeats 400000 in
theorem plays_game (n' : Nat) (S : ByteArray) (n : Int) (w : World) (hgL : Laid w) (hn : -9223372036854775808 ≤ n ∧ n ≤ 9223372036854775807) (hle : S.size ≤ 65536) (hn2 : 2 ≤ n') (hn4 : n' ≤ 4) :
    Calls Tryd.prog 4 #[.int .i64 (n' : Int), .string S, .int .i64 n] w fun ev w' => ev = .returned (.bool true) ∧ Below w.heap.size w w' := by
  have hle' : ¬ ((65536 : Int) < (S.size : Int)) := by omega
  have h2 : ¬ ((n' : Int) < 2) := by omega
  have h4 : ¬ ((4 : Int) < (n' : Int)) := by omega
  have hd2 : decide ((n' : Int) < 2) = false := by simp; omega
  have hd4 : decide ((4 : Int) < (n' : Int)) = false := by simp; omega
  have hnn := nil_nil
  obtain ⟨K, hK⟩ : ∃ K : Nat, K = if n < 1 then 1 else n.toNat := ⟨_, rfl⟩
  have HK := hide hK
  clear hK
  go_enter Tryd.func4, Tryd.ntmps4
  go_wp2_with fail
  refine (frames_any S n K w hle hn (unhide HK)).mono ?_
  rintro e w1 ⟨v, j, xs, rfl, ho, hr, hb1, hj1, hj2, hj3⟩
  have HFR := hide (frAt_of_room ho hr)
  have HO := hide ho
  have HR := hide hr
  have HJ3 := hide hj3
  have hz1 := hb1.size
  have hL1 := hgL.below hgL.lt hb1
  clear ho hr hj1 hj3
  cases hf : fitB (n' : Int) (fsOf S K j) with
  | false =>
    have HF := hide hf
    clear hf
    go_wp2_with fail
    refine (pplay_inputs n' v (fsOf S K j) w1 hL1 hn2 hn4 (unhide HFR) (by rw [fsOf_len]; omega) (fun i => fsOf_size S K j i hle) (unhide HF)).mono ?_
    rintro e w2 ⟨rfl, hb2⟩
    go_wp2_with fail
    refine (fits_any (n' : Int) v (fsOf S K j) w2 ((unhide HFR).below hb2) (by rw [fsOf_len]; omega) (fun i => fsOf_size S K j i hle)).mono ?_
    rintro e w3 ⟨rfl, rfl⟩
    rw [unhide HF]
    go_wp2
    go_ret
    exact ⟨rfl, hb1.trans (hb2.mono hz1)⟩
  | true =>
    have HF := hide hf
    clear hf
    have HSZ : Hid (∀ q, q < j → (chunk S K q).size = n') := hide (fun q hq => by
      have hf' := unhide HF
      unfold fitB at hf'
      rw [Bool.and_eq_true] at hf'
      have := of_decide_eq_true hf'.2 q (by rw [fsOf_len]; exact hq)
      rw [fsOf_get S K j q hq, bytesOf_len] at this
      omega)
    go_wp2_with fail
    refine (pplay_yes n' v (fsOf S K j) w1 hn2 hn4 (unhide HFR) (by rw [fsOf_len]; omega) (fun i => fsOf_size S K j i hle) (unhide HF) (fun i q => fsOf_range S K j i q)).mono ?_
    rintro e w2 ⟨gm, rfl, hgm, hbm, hb2⟩
    have hz2 := hb2.size
    go_wp2_with fail
    refine (fits_any (n' : Int) v (fsOf S K j) w2 ((unhide HFR).below hb2) (by rw [fsOf_len]; omega) (fun i => fsOf_size S K j i hle)).mono ?_
    rintro e w2 ⟨rfl, rfl⟩
    rw [unhide HF]
    go_wp2_with fail
    refine (begin_any n' w2 hn4).mono ?_
    rintro e w3 ⟨rfl, hbw, hb3⟩
    have hz3 := hb3.size
    have hlm := hbm.lt
    obtain ⟨W2, hW2⟩ : ∃ x, x = w2 := ⟨_, rfl⟩
    subst hW2
    have HBM := hide hbm
    have HBW := hide hbw
    clear hbm hbw
    have HV : Hid (∀ k, k < j → ∃ f b, v.ownBlock = some f ∧ w1.cell? ⟨f, k, none⟩ = some (.slice (some ⟨b, 0, none⟩) (chunk S K k).size ((chunk S K k).size + 2)) ∧ f < w1.heap.size ∧ Blk w1 b (nums .u8 (bytesOf (chunk S K k) ++ [77, 88])) 5) := hide (fun k hk => by
      obtain ⟨b, h1, h2, h3⟩ := unhide HR k hk
      rcases (unhide HO).2 with ⟨_, h0⟩ | ⟨g, cap, cur, h1', _, h3', _⟩
      · omega
      · have hob : v.ownBlock = some g := by rw [h1']; rfl
        have hc := (unhide HO).cells hob k _ h1
        rw [Addr.add_mid, Nat.zero_add] at hc
        exact ⟨g, b, hob, hc, Blk.lt h3', h3⟩)
    obtain ⟨vp, vc, hv, hvp⟩ : ∃ vp vc, v = .slice vp j vc ∧ (∀ f, v.ownBlock = some f → vp = some ⟨f, 0, none⟩) := by
      rcases (unhide HO).2 with ⟨h1, h2⟩ | ⟨g, cap, cur, h1, _⟩
      · exact ⟨none, 0, by rw [h1, h2], fun f hf => by rw [h1] at hf; cases hf⟩
      · exact ⟨_, _, h1, fun f hf => by rw [h1] at hf; have := Option.some.inj hf; rw [← this]⟩
    have HVP := hide hvp
    clear hvp
    have hmi := make_ints n' hn4
    have HG : Hid (∀ k, Good (playTo n' (fsOf S K j) k) n') := hide (good_play n' hn4 (fsOf S K j))
    subst hv
    go_wp2_with fail
    go_loopw [12, 13] (fun a i wr => ∃ (k A : Nat), k ≤ j ∧ i = .int .i64 k ∧ a = .int .i64 (A : Int) ∧ A = k * n' ∧ Below W2.heap.size W2 wr ∧ Blk wr W2.heap.size (nums .i64 (playTo n' (fsOf S K j) k)) 3) (fun _ i _ => j - (intOf i).toNat)
    case atStart => exact ⟨0, 0, by omega, rfl, rfl, by simp, hb3, unhide HBW⟩
    case round =>
      obtain ⟨k, A, hk, rfl, rfl, hA, hb4, hbk⟩ := hrel
      have hz4 := hb4.size
      by_cases hlt : k < j
      · have hlt' : (k : Int) < (j : Int) := by omega
        obtain ⟨f, b, hob, hcf, hfl, hbb⟩ := unhide HV k hlt
        have hvp := unhide HVP f hob
        subst hvp
        obtain ⟨hA1, hA2⟩ := chunk_is S K j n' k hlt (unhide HSZ) (unhide HJ3)
        rw [← hA] at hA1 hA2
        have hcs := unhide HSZ k hlt
        have b14 : Below w1.heap.size w1 wr := hb2.trans (hb4.mono hz2)
        have hcf4 : wr.cell? ⟨f, k, none⟩ = some (.slice (some ⟨b, 0, none⟩) (chunk S K k).size ((chunk S K k).size + 2)) := by rw [b14.cell (p := ⟨f, k, none⟩) hfl]; exact hcf
        have hbb4 := hbb.below hbb.lt b14
        have HFK : Hid ((fsOf S K j).getD k [] = bytesOf (chunk S K k)) := hide (fsOf_get S K j k hlt)
        have HA := hide hA
        have HCS := hide hcs
        have HBB := hide hbb4
        have HBK := hide hbk
        have hi1 : (A : Int) ≤ (A : Int) + (n' : Int) := by omega
        have hi2 : (A : Int) + (n' : Int) ≤ (S.size : Int) := by omega
        have hi3 : ((A : Int) + (n' : Int)).toNat = A + n' := by omega
        have hi4 : (0 : Int) ≤ (A : Int) + (n' : Int) := by omega
        have hw4 := i64_id ((A : Int) + (n' : Int)) (by omega) (by omega)
        have hck5 : (chunk S K k).size ≤ 65536 := by omega
        clear hA hcs hbb4 hbk hcf hbb b14
        generalize chunk S K k = ck at *
        go_wp2_with fail
        go_quiet ((go_at_call 15; exact Calls.quiet_of_same (still_any ck b _ hck5 (by exact unhide HBB))))
        obtain ⟨W4, hW4, hbd, hbb, hbk, hcl⟩ : ∃ W4, W4 = wr.drewN nq ∧ Below wr.heap.size wr W4 ∧ Blk W4 b (nums .u8 (bytesOf ck ++ [77, 88])) 5 ∧ Blk W4 W2.heap.size (nums .i64 (playTo n' (fsOf S K j) k)) 3 ∧ W4.cell? ⟨f, k, none⟩ = some (.slice (some ⟨b, 0, none⟩) ck.size (ck.size + 2)) :=
          ⟨_, rfl, below_drewN (Below.refl _ _) _, unhide HBB, unhide HBK, hcf4⟩
        have hz5a : W4.heap.size ≤ wr.heap.size := by rw [hW4]; exact Nat.le_refl _
        have hz5b := hbd.size
        rw [← hW4]
        have HBB4 := hide hbb
        have HBK4 := hide hbk
        have hbl := hbb.lt
        have hlw4 := hbk.lt
        clear hW4 HBB HBK hcf4 hbb hbk
        go_wp2_with fail
        go_loopw [16] (fun i w5 => ∃ q : Nat, q ≤ n' ∧ i = .int .i64 q ∧ Below W4.heap.size W4 w5 ∧ Blk w5 W4.heap.size (nums .i64 (inTo (bytesOf ck) n' q)) 3) (fun i _ => n' - (intOf i).toNat)
        case atStart => exact ⟨0, by omega, rfl, (Below.refl _ _).alloc (Nat.le_refl _) _, Blk.new _ _ _⟩
        case round =>
          obtain ⟨q, hq, rfl, hb5, hbi⟩ := hrel
          have hz6 := hb5.size
          have hlb : (bytesOf ck).length = n' := by rw [bytesOf_len, unhide HCS]
          have hil := inTo_len (bytesOf ck) n' q hlb hq
          have hfl4 : f < W4.heap.size := by omega
          have hcl5 : wr.cell? ⟨f, k, none⟩ = some (.slice (some ⟨b, 0, none⟩) ck.size (ck.size + 2)) := by rw [hb5.cell (p := ⟨f, k, none⟩) hfl4]; exact hcl
          by_cases hqn : q < n'
          · have hqn' : (q : Int) < (n' : Int) := by omega
            have hqc : (q : Int) < (ck.size : Int) := by rw [unhide HCS]; omega
            have hrq := bytesOf_range ck q
            have hcb : wr.cell? ⟨b, q, none⟩ = some (.int .u8 ((bytesOf ck).getD q 0)) := by
              rw [hb5.cell (p := ⟨b, q, none⟩) hbl, (unhide HBB4).num q (by simp [bytesOf_len]; have := unhide HCS; omega), List.getD_eq_getElem?_getD, List.getElem?_append_left (by omega)]; rfl
            have HIS := hide (inTo_succ (bytesOf ck) n' q hlb hqn)
            generalize (bytesOf ck).getD q 0 = cv at *
            go_wp2_with (refine wpList_store_num rfl 3 _ _ rfl _ _ .i64 _ _ _ rfl rfl (by assumption) (by (try simp only [List.length_set]); omega) sizeInt ?_; intro w' hb1 hg1 hz1 hcl1)
            go_roundw
            case rel => exact ⟨q + 1, by omega, by go_num, hb5.trans (below_grown hg1 hz6 (Nat.le_refl _)), by rw [← unhide HIS]; exact hb1⟩
            case measure => simp [intOf]; omega
          · have hqe : q = n' := by omega
            have HIE : Hid (inTo (bytesOf ck) n' n' = bytesOf ck) := hide (by simp [inTo, List.take_of_length_le (show (bytesOf ck).length ≤ n' by omega)])
            have hdq : decide ((q : Int) < (n' : Int)) = false := by simp; omega
            subst hqe
            rw [unhide HIE] at hbi
            have HBI := hide hbi
            clear hbi hil
            go_wp2_with fail
            refine (frame_any W2.heap.size W4.heap.size q (playTo q (fsOf S K j) k) (bytesOf ck) wr hn4 (unhide HG k) hlb (bytesOf_range ck) (by omega) ((unhide HBK4).below (by omega) hb5) (unhide HBI)).mono ?_
            rintro e w6 ⟨rfl, hb6, hg6⟩
            go_wp2_with fail
            go_roundw
            case rel =>
              refine ⟨k + 1, A + q, by omega, by go_num, by go_num, by rw [unhide HA, Nat.succ_mul], ((hb4.trans (hbd.mono hz4)).trans (hb5.mono (by omega))).trans (below_grown hg6 (by omega) (Nat.le_refl _)), ?_⟩
              show Blk w6 W2.heap.size (nums .i64 (frameL (playTo q (fsOf S K j) k) q ((fsOf S K j).getD k []))) 3
              rw [unhide HFK]; exact hb6
            case measure => simp [intOf]; omega
      · have hdk : decide ((k : Int) < (j : Int)) = false := by simp; omega
        have hkj : k = j := by omega
        have HPL : Hid (playTo n' (fsOf S K j) k = playL n' (fsOf S K j)) := hide (by rw [hkj]; unfold playL; rw [fsOf_len])
        have hlen := (unhide HG k).len
        have hrng := (unhide HG k).rng
        rw [unhide HPL] at hlen hrng hbk
        have HRN := hide hrng
        have HBK := hide hbk
        clear hrng hbk HPL
        obtain ⟨M, hM⟩ : ∃ M, playL n' (fsOf S K j) = M := ⟨_, rfl⟩
        have HPM := hide hM
        rw [hM] at hlen HRN HBK HBM
        clear hM
        go_wp2_with fail
        refine (rbytes_any W2.heap.size M wr hlen (unhide HRN) (unhide HBK)).mono ?_
        rintro e w5 ⟨rfl, hbb, hb5⟩
        have hz5 := hb5.size
        have hlb := hbb.lt
        have bm5 : Blk w5 gm (nums .u8 M) 5 := ((unhide HBM).below hlm hb4).below (by omega) hb5
        have cv1 := conv_bytes gm 288 288 M 5 w5 hlen bm5
        have cv2 := conv_bytes wr.heap.size 288 288 M 5 w5 hlen hbb
        have HBM5 := hide bm5
        have HBB5 := hide hbb
        have hgmne : wr.heap.size ≠ gm := by omega
        clear bm5 hbb
        obtain ⟨sm, hsm⟩ : ∃ sm, strOfNums M = sm := ⟨_, rfl⟩
        have HSM := hide hsm
        rw [hsm] at cv1 cv2
        clear hsm
        go_wp2_with fail
        refine (spoilt_any gm 288 288 M 5 w5 hlen (by omega) (Nat.le_refl _) (unhide HBM5)).mono ?_
        rintro e w6 ⟨rfl, hb6, hg6⟩
        have hz6 := hg6.size
        have b15 : Below w1.heap.size w1 w5 := (hb2.trans (hb4.mono hz2)).trans (hb5.mono (by omega))
        have b16 : Below w1.heap.size w1 w6 := b15.trans (below_grown hg6 b15.size hgm)
        have bb6 := (unhide HBB5).grown hg6 hgmne
        have HB6 := hide hb6
        have HBB6 := hide bb6
        clear cv1 cv2 hb6 bb6
        go_wp2_with fail
        refine (pplay_yes n' (.slice vp j vc) (fsOf S K j) w6 hn2 hn4 ((unhide HFR).below b16) (by rw [fsOf_len]; omega) (fun i => fsOf_size S K j i hle) (unhide HF) (fun i q => fsOf_range S K j i q)).mono ?_
        rintro e w7 ⟨g7, rfl, hg7, hb7, hb67⟩
        have b7m := (unhide HB6).below (unhide HB6).lt hb67
        have b7b := (unhide HBB6).below (unhide HBB6).lt hb67
        have cv1 := conv_bytes g7 288 288 (playL n' (fsOf S K j)) 5 w7 (by rw [unhide HPM]; exact hlen) hb7
        have cv2 := conv_bytes wr.heap.size 288 288 M 5 w7 hlen b7b
        rw [unhide HPM] at cv1
        rw [unhide HSM] at cv1 cv2
        have HB7 := hide b7m
        clear b7m b7b hb7
        go_wp2_with fail
        refine (stays_any gm 288 288 5 w7 (by omega) (Nat.le_refl _) (unhide HB7)).mono ?_
        rintro e w7 ⟨rfl, rfl⟩
        go_wp2
        go_ret
        exact ⟨rfl, (hb1.trans (b16.mono hz1)).trans (hb67.mono (by have := b16.size; omega))⟩
end Go.Proofs.YtandblanpafjoaaDoor
