import Derived.Test.YtandblanpafjoabDoorRepL
import Derived.Test.YtandblanpafjoabDoorUPkP
import Derived.Test.YtandblanpafjoabDoorPick
import Derived.RegionTactic
import Derived.BigRegion
import Derived.Deep.DeepCutAuto
namespace Go.Proofs.YtandblanpafjoabDoor
open Go.RowKit Go.Extern.Stop Go.Stop Go.Extern

theorem own_of_blk {w : World} {base g n : Nat} {e : TypeId} {l : List Int} (h : Blk w g (nums .u8 l) e) (hl : l.length = n) (hb : base ≤ g) (hn : n ≤ 1000000) : w.ownsRow base e 1 (.slice (some ⟨g, 0, none⟩) n n) n (l.map (Value.int .u8)) :=
  ⟨by simp [hl], .inr ⟨g, n, nums .u8 l, rfl, hb, h, Nat.le_refl _, by unfold maxLen; omega, by rw [nums_size, hl, Nat.mul_one], by rw [Nat.mul_one]; simp only [nums]; exact List.take_of_length_le (by simp [hl])⟩⟩

theorem bit_of (r : Nat) (hr : r < 8) : 0 < (2 : Int) ^ r % 256 ∧ (2 : Int) ^ r % 256 ≤ 255 := by
  match r, hr with
  | 0, _ | 1, _ | 2, _ | 3, _ | 4, _ | 5, _ | 6, _ | 7, _ => decide
  | n + 8, h => omega
theorem set_back (M : List Int) (q : Nat) (a p : Int) (ha : M.getD q 0 = a) (hq : q < M.length) (hr : 0 ≤ a ∧ a ≤ 255) (hp : 0 ≤ p ∧ p ≤ 255) : (M.set q (xstep a p)).set q (xstep (xstep a p) p) = M := by
  rw [List.set_set, xstep_back a p hr hp, ← ha, List.getD_eq_getElem?_getD, List.getElem?_eq_getElem hq]
  simp

set_option maxRecDepth 100000 in
set_option maxHeartbeats 4000000 in
theorem repacked_any (fr sr ar nr : Int) (S : ByteArray) (w : World) (hmax : S.size ≤ maxLen) (hgL : Laid w)
    (bf : -9223372036854775808 ≤ fr ∧ fr ≤ 9223372036854775807) (bs : -9223372036854775808 ≤ sr ∧ sr ≤ 9223372036854775807) (ba : -9223372036854775808 ≤ ar ∧ ar ≤ 9223372036854775807) (bn : -9223372036854775808 ≤ nr ∧ nr ≤ 9223372036854775807) :
    Calls Tryd.prog 3 #[.int .i64 fr, .int .i64 sr, .int .i64 ar, .string S, .int .i64 nr] w fun ev w' => ev = .returned (.bool true) ∧ Below w.heap.size w w' := by
  unfold maxLen at hmax
  obtain ⟨s, hs⟩ : ∃ s : ByteArray, s = if 64 < S.size then S.extract 0 64 else S := ⟨_, rfl⟩
  have h64 : s.size ≤ 64 := by
    rw [hs]
    split
    · rw [ByteArray.size_extract]; omega
    · omega
  have HSS := hide hs
  have hcv : ∀ W, (convert 9 23 (.string s)).run Tryd.prog W = .ok (.slice (some ⟨W.heap.size, 0, none⟩) s.size (grownCap W s.size 0 5)) (Lib.bytesWorld W 5 s) := fun W => Lib.run_convert_string_bytes W 9 23 5 s Tryd.underlying9 Tryd.underlying23 Tryd.underlying5
  have HBD := hide (And.intro bf (And.intro bs (And.intro ba bn)))
  clear bf bs ba bn hs
  go_enter Tryd.func3, Tryd.ntmps3
  go_upto_if 25 with fail
  go_cut [3] (fun s3 wx => s3 = .string s ∧ wx = w)
  case first =>
    by_cases hgt : 64 < S.size
    · have hgt' : (64 : Int) < (S.size : Int) := by omega
      have hgt2 : (64 : Int) ≤ (S.size : Int) := by omega
      have HE : Hid (S.extract 0 64 = s) := hide (by rw [unhide HSS, if_pos hgt])
      go_wp2_with fail
      go_meet
      case rel => exact ⟨by rw [unhide HE], rfl⟩
    · have hgt' : ¬ (64 : Int) < (S.size : Int) := by omega
      have HE : Hid (S = s) := hide (by rw [unhide HSS, if_neg hgt])
      go_wp2_with fail
      go_meet
      case rel => exact ⟨by rw [unhide HE], rfl⟩
  case rest =>
    obtain ⟨rfl, rfl⟩ := hcut
    go_wp2_with fail
    refine (pick_at fr 4 4 rfl _ (unhide HBD).1 (by omega) (by omega)).mono ?_
    rintro e w ⟨rfl, rfl⟩
    go_wp2_with fail
    refine (pick_at sr 65536 65536 rfl _ (unhide HBD).2.1 (by omega) (by omega)).mono ?_
    rintro e w ⟨rfl, rfl⟩
    go_wp2_with fail
    refine (pick_at ar 65536 65536 rfl _ (unhide HBD).2.2.1 (by omega) (by omega)).mono ?_
    rintro e w ⟨rfl, rfl⟩
    have HG : Hid (GoodP (pickN fr 4 : Int) (pickN sr 65536 : Int) (pickN ar 65536 : Int) s.size) := by
      have l1 := pickN_lt fr 4 (by omega)
      have l2 := pickN_lt sr 65536 (by omega)
      have l3 := pickN_lt ar 65536 (by omega)
      exact hide ⟨⟨by omega, by omega⟩, ⟨by omega, by omega⟩, ⟨by omega, by omega⟩, h64⟩
    obtain ⟨f, hf⟩ : ∃ f, (pickN fr 4 : Int) = f := ⟨_, rfl⟩
    obtain ⟨st, hst⟩ : ∃ st, (pickN sr 65536 : Int) = st := ⟨_, rfl⟩
    obtain ⟨ak, hak⟩ : ∃ ak, (pickN ar 65536 : Int) = ak := ⟨_, rfl⟩
    rw [hf, hst, hak] at HG
    rw [hf, hst, hak]
    clear hf hst hak
    obtain ⟨M, hM⟩ : ∃ M, packL f st ak (bytesOf s) = M := ⟨_, rfl⟩
    have hMl : M.length = 8 + s.size := by rw [← hM, packL_len, bytesOf_len]
    have HM := hide hM
    have HGB : Hid (GoodP f st ak (bytesOf s).length) := hide (by rw [bytesOf_len]; exact unhide HG)
    have HIN : Hid (InB M) := hide (by rw [← hM]; exact InB.pack (unhide HGB) (InB.bytes s))
    have HPO : Hid (OkP M ∧ fromL M = f ∧ startL M = st ∧ ackL M = ak ∧ inputsL M = bytesOf s) := hide (by rw [← hM]; exact pack_ok (unhide HGB))
    clear hM
    go_wp2_with fail
    have HBW := hide (bytesWorld_below w 5 s)
    have HSB := hide (src_bytes w s _ rfl)
    have hzW : w.heap.size < (Lib.bytesWorld w 5 s).heap.size := by rw [Lib.bytesWorld_size]; omega
    clear hcv
    generalize grownCap w s.size 0 5 = cp at *
    generalize Lib.bytesWorld w 5 s = W1 at *
    refine (ppack_yes f st ak _ s.size cp (bytesOf s) _ (unhide HG) (bytesOf_len s) (fun h => by cases h) ((unhide HSB).alloc _)).mono ?_
    rintro e w2 ⟨g1, rfl, hg1, hblk1, hb2⟩
    rw [unhide HM] at hblk1
    simp only [World.size_alloc] at hg1
    have hz2 := hb2.size
    simp only [World.size_alloc] at hz2
    have HBX2 := hide ((BoxAt.new W1 f st ak (.slice (some ⟨w.heap.size, 0, none⟩) s.size cp) 25).same (hb2.block W1.heap.size (by simp)))
    have HB2 := hide ((((unhide HBW).alloc (by omega) (.cells #[.int .i64 f, .int .i64 st, .int .i64 ak, .slice (some ⟨w.heap.size, 0, none⟩) s.size cp] 25))).trans (hb2.mono (by simp; omega)))
    have HK2 := hide hblk1
    have hgl1 := hblk1.lt
    have hL2 := hgL.below hgL.lt (unhide HB2)
    clear hb2 hblk1
    have e8 : 8 + s.size - 8 = s.size := by omega
    go_wp2_with fail
    refine (punpack_yes g1 0 (8 + s.size) (8 + s.size) M w2 hL2 hMl (by omega) (Nat.le_refl _) (unhide HIN).get (fun j hj => by rw [Nat.zero_add]; exact (unhide HK2).num j (by omega)) hgl1 (unhide HPO).1).mono ?_
    rw [(unhide HPO).2.1, (unhide HPO).2.2.1, (unhide HPO).2.2.2.1, (unhide HPO).2.2.2.2, e8]
    rintro e w3 ⟨g2, cap2, rfl, hown3, hg2, hb3⟩
    have hz3 := hb3.size
    have HP3 := hide (((unhide HBX2).same (hb3.block W1.heap.size (unhide HBX2).lt)).alloc (.cells #[.int .i64 f, .int .i64 st, .int .i64 ak, .slice (some ⟨g2, 0, none⟩) s.size cap2] 25))
    have HQ3 := hide (BoxAt.new w3 f st ak (.slice (some ⟨g2, 0, none⟩) s.size cap2) 25)
    have HK3 := hide (((unhide HK2).below hgl1 hb3).alloc (.cells #[.int .i64 f, .int .i64 st, .int .i64 ak, .slice (some ⟨g2, 0, none⟩) s.size cap2] 25))
    have HB3 := hide (((unhide HB2).trans (hb3.mono (unhide HB2).size)).alloc (by omega) (.cells #[.int .i64 f, .int .i64 st, .int .i64 ak, .slice (some ⟨g2, 0, none⟩) s.size cap2] 25))
    have hcq : (convert 23 9 (.slice (some ⟨g2, 0, none⟩) s.size cap2)).run Tryd.prog (w3.alloc (.cells #[.int .i64 f, .int .i64 st, .int .i64 ak, .slice (some ⟨g2, 0, none⟩) s.size cap2] 25)) = .ok (.string s) (w3.alloc (.cells #[.int .i64 f, .int .i64 st, .int .i64 ak, .slice (some ⟨g2, 0, none⟩) s.size cap2] 25)) := by
      have := conv_str g2 0 s.size cap2 (bytesOf s) (w3.alloc (.cells #[.int .i64 f, .int .i64 st, .int .i64 ak, .slice (some ⟨g2, 0, none⟩) s.size cap2] 25)) (bytesOf_len s) (fun j hj => own_num (hown3.alloc _) (bytesOf_len s) j hj)
      rw [strOf_bytes] at this
      exact this
    have hzz : W1.heap.size < w3.heap.size := by omega
    have hne1 : W1.heap.size ≠ w3.heap.size := by omega
    have hl0 : ((8 : Int) + (s.size : Int) == 0) = false := by rw [beq_eq_false_iff_ne]; omega
    have hw8 := i64_id (8 * (8 + (s.size : Int))) (by omega) (by omega)
    obtain ⟨b0, b1, b2, b3⟩ := unhide HP3
    obtain ⟨d0, d1, d2, d3⟩ := unhide HQ3
    clear hown3 hb3
    go_wp2_with fail
    clear hcq b0 b1 b2 b3 d0 d1 d2 d3 HP3 HQ3 hne1 hzz hl0 hw8
    generalize (w3.alloc (.cells #[.int .i64 f, .int .i64 st, .int .i64 ak, .slice (some ⟨g2, 0, none⟩) s.size cap2] 25)) = W3 at *
    refine (pick_at nr _ (8 * (8 + s.size)) (by push_cast; rfl) _ (unhide HBD).2.2.2 (by omega) (by omega)).mono ?_
    rintro e W3 ⟨rfl, rfl⟩
    obtain ⟨K, hK⟩ : ∃ K, pickN nr (8 * (8 + s.size)) = K := ⟨_, rfl⟩
    have hKl : K < 8 * (8 + s.size) := by rw [← hK]; exact pickN_lt _ _ (by omega)
    rw [hK]
    clear hK
    obtain ⟨q, hq⟩ : ∃ q, K / 8 = q := ⟨_, rfl⟩
    obtain ⟨r, hr⟩ : ∃ r, K % 8 = r := ⟨_, rfl⟩
    have e1 : (K : Int) / 8 = (q : Int) := by omega
    have e2 : (K : Int) % 8 = (r : Int) := by omega
    have e1t : (K : Int).tdiv 8 = (q : Int) := by rw [Int.tdiv_eq_ediv_of_nonneg (by omega)]; exact e1
    have e2t : (K : Int).tmod 8 = (r : Int) := by rw [Int.tmod_eq_emod_of_nonneg (by omega)]; exact e2
    have hq8 : (q : Int) < 8 + (s.size : Int) := by omega
    have hq9 : q < 8 + s.size := by omega
    have hr8 : r < 8 := by omega
    have hK0 : (0 : Int) ≤ (K : Int) := by omega
    clear hq hr
    obtain ⟨a, ha⟩ : ∃ a, M.getD q 0 = a := ⟨_, rfl⟩
    have hca : W3.cell? ⟨g1, q, none⟩ = some (.int .u8 a) := by rw [(unhide HK3).num q (by omega), ha]
    have hfz := (unhide HK3).frozen q
    have HA := hide ha
    clear ha
    obtain ⟨p, hp⟩ : ∃ p, (2 : Int) ^ r % 256 = p := ⟨_, rfl⟩
    have HP : Hid (0 < p ∧ p ≤ 255) := hide (by rw [← hp]; exact bit_of r hr8)
    have HAR : Hid (0 ≤ a ∧ a ≤ 255) := hide (by rw [← unhide HA]; exact (unhide HIN).get q)
    go_wp2_with fail
    go_region
    have HK5 : Hid (Blk (W3.setCell ⟨g1, q, none⟩ (.int .u8 (bits .xor .u8 a p))).drew g1 (nums .u8 (M.set q (xstep a p))) 5) := hide ((unhide HK3).put q _).drew
    have HB5 : Hid (Below w.heap.size w (W3.setCell ⟨g1, q, none⟩ (.int .u8 (bits .xor .u8 a p))).drew) := hide (((unhide HB3).setCell (by simp; omega) _).drew)
    have hz5 : W3.heap.size ≤ (W3.setCell ⟨g1, q, none⟩ (.int .u8 (bits .xor .u8 a p))).drew.heap.size := by simp
    clear hca hfz
    generalize (W3.setCell ⟨g1, q, none⟩ (.int .u8 (bits .xor .u8 a p))).drew = W5 at *
    have hgl5 := (unhide HK5).lt
    have hL5 := hgL.below hgL.lt (unhide HB5)
    have hM5 : (M.set q (xstep a p)).length = 8 + s.size := by rw [List.length_set]; exact hMl
    go_wp2_with fail
    refine (punpack_no g1 0 (8 + s.size) (8 + s.size) (M.set q (xstep a p)) W5 hL5 hM5 (by omega) (Nat.le_refl _) ((unhide HIN).set q _ (xstep_range _ _)).get (fun j hj => by rw [Nat.zero_add]; exact (unhide HK5).num j (by rw [hM5]; exact hj)) hgl5 (by
      have := bit_no (unhide HGB) (InB.bytes s) q (by rw [bytesOf_len]; exact hq9) p (unhide HP)
      rw [unhide HM, unhide HA] at this
      exact this)).mono ?_
    rintro e w6 ⟨rfl, hb6⟩
    unfold Z4
    have hz6 := hb6.size
    have HK6 := hide (((unhide HK5).below hgl5 hb6).alloc (.cells #[.int .i64 0, .int .i64 0, .int .i64 0, .slice none 0 0] 25))
    have HB6 := hide (((unhide HB5).trans (hb6.mono (unhide HB5).size)).alloc (by omega) (.cells #[.int .i64 0, .int .i64 0, .int .i64 0, .slice none 0 0] 25))
    clear hb6
    obtain ⟨a2, ha2⟩ : ∃ a2, xstep a p = a2 := ⟨_, rfl⟩
    have hca : (w6.alloc (.cells #[.int .i64 0, .int .i64 0, .int .i64 0, .slice none 0 0] 25)).cell? ⟨g1, q, none⟩ = some (.int .u8 a2) := by
      rw [(unhide HK6).num q (by rw [hM5]; exact hq9), List.getD_eq_getElem?_getD, List.getElem?_set_self (by omega), ← ha2]; rfl
    have hfz := (unhide HK6).frozen q
    have HA2 := hide ha2
    clear ha2
    go_wp2_with fail
    generalize (w6.alloc (.cells #[.int .i64 0, .int .i64 0, .int .i64 0, .slice none 0 0] 25)) = W6 at *
    go_region
    have HK8 : Hid (Blk (W6.setCell ⟨g1, q, none⟩ (.int .u8 (bits .xor .u8 a2 p))).drew g1 (nums .u8 M) 5) := by
      have := ((unhide HK6).put q (xstep a2 p)).drew
      rw [← unhide HA2, set_back M q a p (unhide HA) (by omega) (unhide HAR) ⟨by have := unhide HP; omega, (unhide HP).2⟩] at this
      rw [← unhide HA2]
      exact hide this
    have HB8 : Hid (Below w.heap.size w (W6.setCell ⟨g1, q, none⟩ (.int .u8 (bits .xor .u8 a2 p))).drew) := hide (((unhide HB6).setCell (by simp; omega) _).drew)
    clear hca hfz
    generalize (W6.setCell ⟨g1, q, none⟩ (.int .u8 (bits .xor .u8 a2 p))).drew = W8 at *
    have hgl8 := (unhide HK8).lt
    have hL8 := hgL.below hgL.lt (unhide HB8)
    have i1 : (8 : Int) + (s.size : Int) - 1 = 7 + (s.size : Int) := by omega
    have i2 := i64_id (7 + (s.size : Int)) (by omega) (by omega)
    have i3 : (7 + (s.size : Int)).toNat = 7 + s.size := by omega
    have i4 : (0 : Int) ≤ 7 + (s.size : Int) := by omega
    have i5 : 7 + (s.size : Int) ≤ 8 + (s.size : Int) := by omega
    go_wp2_with fail
    refine (punpack_no g1 0 (7 + s.size) (8 + s.size) (M.take (7 + s.size)) W8 hL8 (by rw [List.length_take, hMl]; omega) (by omega) (by omega) ((unhide HIN).take _).get (fun j hj => by rw [Nat.zero_add, (unhide HK8).num j (by omega), take_getD M _ _ hj]) hgl8 (by
      have := less_no f st ak (bytesOf s)
      rw [unhide HM, bytesOf_len] at this
      exact this)).mono ?_
    rintro e w9 ⟨rfl, hb9⟩
    unfold Z4
    have hz9 := hb9.size
    have HK9 := hide (((unhide HK8).below hgl8 hb9).alloc (.cells #[.int .i64 0, .int .i64 0, .int .i64 0, .slice none 0 0] 25))
    have HB9 := hide (((unhide HB8).trans (hb9.mono (unhide HB8).size)).alloc (by have := (unhide HB8).size; omega) (.cells #[.int .i64 0, .int .i64 0, .int .i64 0, .slice none 0 0] 25))
    clear hb9 i1 i2 i3 i4 i5
    obtain ⟨i8, hi8, hz8, hs8, hy8⟩ := info_parts Tryd.infoU8
    have HT := hide (And.intro hi8 (And.intro hz8 (And.intro hs8 hy8)))
    clear hi8 hz8 hs8 hy8
    go_wp2_with (at_builtin; refine wpList_append_src rfl _ _ 23 rfl w.heap.size 5 i8 (.int .u8 0) Tryd.underlying23 (unhide HT).1 (unhide HT).2.1 (unhide HT).2.2.1 (unhide HT).2.2.2 rfl _ (8 + s.size) _ rfl ((own_of_blk (unhide HK9) hMl (by omega) (by omega)).alloc _) _ 1 1 _ rfl (fun h => by cases h) rfl (src_new1 _ _ _ _ (by simp)) (by omega) (by have := (unhide HB9).size; simp only [World.size_alloc] at this ⊢; omega) ?_; intro v10 w10 hown10 hgr10 hnil10)
    have HB10 := hide (((unhide HB9).alloc (unhide HB9).size (.cells #[.int .u8 (nr % 256)] 5)).trans (below_grown hgr10 (by have := (unhide HB9).size; simp only [World.size_alloc] at this ⊢; omega) (by simp; omega)))
    obtain ⟨g10, c10, rfl, hbg10, hgl10, hcap10⟩ := own_some hown10 (by omega)
    have hown : w10.ownsRow w.heap.size 5 1 (.slice (some ⟨g10, 0, none⟩) (9 + s.size) c10) (9 + s.size) ((M ++ [nr % 256]).map (Value.int .u8)) := by
      rw [show 8 + s.size + 1 = 9 + s.size by omega] at hown10
      simpa using hown10
    rw [show 8 + s.size + 1 = 9 + s.size by omega] at *
    have hM10 : (M ++ [nr % 256]).length = 9 + s.size := by rw [List.length_append, hMl]; simp; omega
    have HO10 := hide hown
    have hL10 := hgL.below hgL.lt (unhide HB10)
    clear hown hown10 hgr10 hnil10
    go_wp2_with fail
    refine (punpack_no g10 0 (9 + s.size) c10 (M ++ [nr % 256]) w10 hL10 hM10 (by omega) hcap10 ((unhide HIN).app (fun x hx => by simp at hx; omega)).get (fun j hj => own_num (unhide HO10) hM10 j hj) hgl10 (by
      have := more_no f st ak (bytesOf s) (nr % 256)
      rw [unhide HM] at this
      exact this)).mono ?_
    rintro e w11 ⟨rfl, hb11⟩
    unfold Z4
    go_wp2
    go_ret
    exact ⟨rfl, ((unhide HB10).trans (hb11.mono (unhide HB10).size)).alloc (by have := (unhide HB10).size; have := hb11.size; omega) _⟩
end Go.Proofs.YtandblanpafjoabDoor
