import Derived.Test.YtandblanpafjoabGreatDoorPack38
namespace Go.Proofs.YtandblanpafjoabGreatDoor
open Go.RowKit Go.Extern.Stop Go.Stop Go.Extern

/-! Guessed: the beginning. -/
theorem Tryz.infoBs : (Tryz.prog.info? 35).map (fun i => (i.zero, i.size, i.bytes)) = some (some (.slice none 0 0), 1, 24) := by kernel_rfl
def hearR (c : Nat) (a : Int) : List (List Int) := (List.range c).map fun _ => [4, a]
def realR (c : Nat) (a b : Int) : List (List Int) := (List.range c).map fun i => [4, if i = 0 then a else b]
theorem hearR_get (c : Nat) (a : Int) (j : Nat) (h : j < c) : (hearR c a).getD j [] = [4, a] := by simp [hearR, List.getD_eq_getElem?_getD, h]
theorem realR_get (c : Nat) (a b : Int) (j : Nat) (h : j < c) : (realR c a b).getD j [] = [4, if j = 0 then a else b] := by simp [realR, List.getD_eq_getElem?_getD, h]
theorem two_rows (c : Nat) (f : Nat → Int) (hc : c ≤ 7) (hf : ∀ i, 0 ≤ f i ∧ f i ≤ 255) : ∀ fs, fs = ((List.range c).map fun i => [4, f i]) → fs.length = c ∧ fs.length ≤ 100000 ∧ (∀ i : Nat, (fs.getD i []).length ≤ 100000) ∧ fitB ((2 : Nat) : Int) fs = true ∧ ∀ i j : Nat, 0 ≤ (fs.getD i []).getD j 0 ∧ (fs.getD i []).getD j 0 ≤ 255 := by
  rintro fs rfl
  have hl : ((List.range c).map fun i => [4, f i]).length = c := by simp
  have hg : ∀ i, i < c → ((List.range c).map fun i => [4, f i]).getD i [] = [4, f i] := fun i hi => by simp [List.getD_eq_getElem?_getD, hi]
  have hg2 : ∀ i, ¬ i < c → ((List.range c).map fun i => [4, f i]).getD i [] = [] := fun i hi => by
    rw [List.getD_eq_getElem?_getD, List.getElem?_eq_none (by simp; omega)]; rfl
  refine ⟨hl, by omega, fun i => ?_, ?_, fun i j => ?_⟩
  · by_cases hi : i < c
    · rw [hg i hi]; simp
    · rw [hg2 i hi]; simp
  · unfold fitB
    rw [hl]
    simp only [Bool.and_eq_true, decide_eq_true_eq]
    exact ⟨by omega, fun i hi => by rw [hg i hi]; rfl⟩
  · by_cases hi : i < c
    · rw [hg i hi]
      rcases j with _ | _ | j
      · simp
      · simpa using hf i
      · simp
    · rw [hg2 i hi]; simp
theorem u8_id (x : Nat) (h : x < 256) : IntKind.u8.wrap (x : Int) = (x : Int) := by simp [IntKind.wrap, IntKind.bits, IntKind.signed]; omega

theorem gs_step {w1 wr w' : World} {F F' : Nat → Prop} (hb : Below w1.heap.size w1 wr) (hF : ∀ k, F k → w1.heap.size ≤ k) (hC : Chg F wr w') (hF' : ∀ k, F' k → F k ∨ wr.heap.size ≤ k) : Below w1.heap.size w1 w' ∧ ∀ k, F' k → w1.heap.size ≤ k :=
  ⟨hb.trans (hC.toBelow hb.size hF), fun k hk => (hF' k hk).elim (hF k) (fun h => Nat.le_trans hb.size h)⟩
/-- One more row at the end of one of two lists beside a net. -/
theorem gpush {w0 w w5 : World} {F : Nat → Prop} {v v' u : Value} {fs gs : List (List Int)} {j j' : Nat} {xs ys : List Value} {p q : Int} {g : Nat} {pv : Value} {pb : Nat → Nat} {m : NetM} (hv : RowsF w w0.heap.size F v fs j xs) (hu : RowsF w w0.heap.size F u gs j' ys) (hQ : NetQ w g pv pb F m) (hB : Below w0.heap.size w0 w) (hne : ∀ k, v.ownBlock = some k → u.ownBlock ≠ some k) (hfs : fs.getD j [] = [p, q])
    (hown : w5.ownsRow w0.heap.size 35 1 v' (j + 1) (xs ++ [Value.slice (some ⟨w.heap.size, 0, none⟩) 2 2])) (hg : ((w.alloc (.cells #[.int .u8 p, .int .u8 q] 5)).alloc (.cells #[.slice (some ⟨w.heap.size, 0, none⟩) 2 2] 35)).grownBy w5 v.ownBlock) (hloc : v'.ownBlock = v.ownBlock ∨ v'.ownBlock = some (w.heap.size + 1 + 1)) :
    RowsF w5 w0.heap.size F v' fs (j + 1) (xs ++ [Value.slice (some ⟨w.heap.size, 0, none⟩) 2 2]) ∧ RowsF w5 w0.heap.size F u gs j' ys ∧ NetQ w5 g pv pb F m ∧ Below w0.heap.size w0 w5 ∧ ∀ k, v'.ownBlock = some k → u.ownBlock ≠ some k := by
  have hz : ((w.alloc (.cells #[.int .u8 p, .int .u8 q] 5)).alloc (.cells #[.slice (some ⟨w.heap.size, 0, none⟩) 2 2] 35)).heap.size = w.heap.size + 2 := by simp
  have hW2 : Below w.heap.size w ((w.alloc (.cells #[.int .u8 p, .int .u8 q] 5)).alloc (.cells #[.slice (some ⟨w.heap.size, 0, none⟩) 2 2] 35)) := ((Below.refl _ w).alloc (Nat.le_refl _) _).alloc (by simp) _
  have hloc' : v'.ownBlock = v.ownBlock ∨ ∃ k, v'.ownBlock = some k ∧ w.heap.size ≤ k := hloc.imp id (fun e => ⟨_, e, by omega⟩)
  refine ⟨hv.push hB.size (fun k hk => hQ.lt k hk) hfs hown hg hloc', hu.other hv hW2 hg (fun k hk e => hne k e hk), hQ.same (fun k hk => (hg.block k (by have := hQ.lt k hk; omega) (fun e => hv.2.2.1 k e.symm hk)).trans (hW2.block k (hQ.lt k hk))), ?_, fun k hk => ?_⟩
  · refine ⟨(hg.os.trans hW2.os).trans hB.os, (hg.tape.trans hW2.tape).trans hB.tape, (hg.output.trans hW2.output).trans hB.output, by have := hg.size; have := hB.size; omega, fun k hk => ?_⟩
    have h1 := hB.size
    exact ((hg.block k (by omega) (fun e => by have := (hv.1.lt k e.symm).1; omega)).trans (hW2.block k (by omega))).trans (hB.block k hk)
  · rcases hloc' with e | ⟨k', e, hk'⟩
    · exact hne k (by rw [← e]; exact hk)
    · rw [e] at hk
      injection hk with hk
      intro e2
      have := (hu.1.lt k e2).2
      omega
set_option maxRecDepth 10000 in
set_option maxHeartbeats 4000000 in
theorem guessed_any (s0 a0 b0 k0 : Int) (w : World) (hs0 : -9223372036854775808 ≤ s0 ∧ s0 ≤ 9223372036854775807) (ha0 : -9223372036854775808 ≤ a0 ∧ a0 ≤ 9223372036854775807) (hb0 : -9223372036854775808 ≤ b0 ∧ b0 ≤ 9223372036854775807) (hk0 : -9223372036854775808 ≤ k0 ∧ k0 ≤ 9223372036854775807) :
    Calls Tryz.prog 8 #[.int .i64 s0, .int .i64 a0, .int .i64 b0, .int .i64 k0] w fun e w' => e = .returned (.bool true) ∧ Below w.heap.size w w' := by
  obtain ⟨a, ha⟩ : ∃ a, pickN a0 256 = a := ⟨_, rfl⟩
  obtain ⟨b, hb⟩ : ∃ b, pickN b0 256 = b := ⟨_, rfl⟩
  obtain ⟨kd, hkd⟩ : ∃ kd, pickN s0 2 = kd := ⟨_, rfl⟩
  have ha2 : a < 256 := by rw [← ha]; exact pickN_lt _ _ (by omega)
  have hb2 : b < 256 := by rw [← hb]; exact pickN_lt _ _ (by omega)
  have hkd2 : kd < 2 := by rw [← hkd]; exact pickN_lt _ _ (by omega)
  have hcv1 := u8_id a ha2
  have hcv2 := u8_id b hb2
  have HB := hide (And.intro hs0 (And.intro ha0 (And.intro hb0 hk0)))
  clear hs0 ha0 hb0 hk0
  go_enter Tryz.func8, Tryz.ntmps8
  go_wp2_with fail
  refine (pick_at s0 2 2 rfl w (unhide HB).1 (by omega) (by omega)).mono ?_
  rintro e w1 ⟨rfl, rfl⟩
  rw [hkd]
  have bL : Below w1.heap.size w1 (w1.alloc (.cells #[.int .i64 0] 3)) := (Below.refl _ w1).alloc (Nat.le_refl _) _
  have hL : LagSrc (w1.alloc (.cells #[.int .i64 0] 3)) (.slice (some ⟨w1.heap.size, 0, none⟩) 1 1) [0] := .inr ⟨w1.heap.size, 1, rfl, by simp, by simp, fun j hj => by
    have : j = 0 := by simp at hj; omega
    subst this; simp⟩
  have HL := hide (And.intro bL hL)
  clear bL hL
  go_wp2_with fail
  refine (ppnew_any 2 8 0 kd _ [0] _ (unhide HL).2 (by simp) (fun x hx => by rw [List.mem_singleton.1 hx]; omega) (by omega) (by omega) (by omega) (by omega) (by omega) (by omega) ⟨_, _, _, rfl⟩).mono ?_
  rintro e w2 ⟨g, pv, pb, F, rfl, hQ, hF, hb2'⟩
  have z1 := (unhide HL).1.size
  have hBel2 : Below w1.heap.size w1 w2 := (unhide HL).1.trans (hb2'.mono z1)
  have H2 := hide (And.intro hQ (And.intro (show ∀ k, F k → w1.heap.size ≤ k from fun k hk => Nat.le_trans z1 (hF k hk)) hBel2))
  clear hQ hF hb2' hBel2
  go_wp2_with fail
  refine (pick_at a0 256 256 rfl w2 (unhide HB).2.1 (by omega) (by omega)).mono ?_
  rintro e w3 ⟨rfl, rfl⟩
  rw [ha]
  go_wp2_with fail
  refine (pick_at b0 256 256 rfl w3 (unhide HB).2.2.1 (by omega) (by omega)).mono ?_
  rintro e w4 ⟨rfl, rfl⟩
  rw [hb]
  go_wp2_with fail
  obtain ⟨kk, hkk⟩ : ∃ kk, pickN k0 7 = kk := ⟨_, rfl⟩
  have hkk7 : kk < 7 := by rw [← hkk]; exact pickN_lt _ _ (by omega)
  obtain ⟨c, hc⟩ : ∃ c, 1 + kk = c := ⟨_, rfl⟩
  have hG := guessed (a : Int) (b : Int) ⟨by omega, by omega⟩ ⟨by omega, by omega⟩ c (by omega) (by omega)
  obtain ⟨hG1, hG2, hG3, hG4, hG5, hG6⟩ := hG
  obtain ⟨hQ, hF, hBel⟩ := unhide H2
  have hB0 := Bnd.new 2 8 0 [0]
  have hadv := ppadv_yes g 1 (a : Int) pv pb F (newM 2 8 0 [0]) w4 hQ (by simp [newM]) ⟨by omega, by omega⟩ (by simp [newM]) (by simp [newM]) hG1
  rw [show ((1 : Nat) : Int) = 1 from rfl] at hadv
  refine hadv.mono ?_
  clear hadv
  rintro e w5 ⟨rfl, hC5, F5, hQ5, hF5⟩
  obtain ⟨hBel5, hFB5⟩ := gs_step hBel hF hC5 hF5
  have hB1 := hB0.adv 1 (a : Int)
  obtain ⟨M1, hM1⟩ : ∃ M1, ((newM 2 8 0 [0]).advance 1 (a : Int)).2 = M1 := ⟨_, rfl⟩
  rw [hM1] at hQ5 hB1 hG2 hG3 hG4 hG5 hG6
  have H5 := hide (And.intro hQ5 (And.intro hFB5 (And.intro hBel5 hB1)))
  have HG := hide (And.intro hG2 (And.intro hG3 (And.intro hG4 (And.intro hG5 hG6))))
  clear hQ hF hBel hC5 hF5 hQ5 hFB5 hBel5 hB0 hB1 hG1 hG2 hG3 hG4 hG5 hG6 hM1
  go_wp2_with fail
  obtain ⟨hQ5, hFB5, hBel5, hB1⟩ := unhide H5
  refine (ntick_any g pv pb F5 M1 w5 hQ5 (by have := hB1.sent; omega) (by have := hB1.now; omega) (fun p _ => by have := hB1.drop p; have := hQ5.few; have := hB1.sent; omega)).mono ?_
  rintro e w6 ⟨rfl, hC6, F6, hQ6, hF6⟩
  obtain ⟨hBel6, hFB6⟩ := gs_step hBel5 hFB5 hC6 hF6
  have hB2 := hB1.tick hQ5.few
  obtain ⟨G, hGd⟩ : ∃ G, M1.tick = G := ⟨_, rfl⟩
  rw [hGd] at hQ6 hB2
  have HG' : Hid (_) := hide (hGd ▸ unhide HG)
  have H6 := hide (And.intro hQ6 (And.intro hFB6 (And.intro hBel6 hB2)))
  clear hQ5 hFB5 hBel5 hB1 hC6 hQ6 hF6 hBel6 hFB6 hB2 HG hGd
  go_wp2_with fail
  refine (pick_at k0 7 7 rfl w6 (unhide HB).2.2.2 (by omega) (by omega)).mono ?_
  rintro e w7 ⟨rfl, rfl⟩
  rw [hkk]
  have hwc : IntKind.i64.wrap (1 + (kk : Int)) = (c : Int) := by rw [i64_id _ (by omega) (by omega)]; omega
  go_wp2_with fail
  go_loopw [15, 16, 18] (fun s15 s16 s18 wr => ∃ (j : Nat) (F1 : Nat → Prop) (xs ys : List Value), j ≤ c ∧ s18 = .int .i64 (j : Int) ∧ NetQ wr g pv pb F1 (goes G 0 (fun _ => 4) j) ∧ (∀ k, F1 k → w1.heap.size ≤ k) ∧ Below w1.heap.size w1 wr ∧ RowsF wr w1.heap.size F1 s15 (hearR c a) j xs ∧ RowsF wr w1.heap.size F1 s16 (realR c a b) j ys ∧ (∀ k, s15.ownBlock = some k → s16.ownBlock ≠ some k)) (fun _ _ s18 _ => c - (intOf s18).toNat)
  case atStart =>
    obtain ⟨hQ6, hFB6, hBel6, _⟩ := unhide H6
    exact ⟨0, F6, [], [], by omega, rfl, hQ6, hFB6, hBel6, ⟨⟨rfl, .inl ⟨rfl, rfl⟩⟩, fun i hi => by omega, fun k hk => by simp [Value.ownBlock] at hk, fun i b n c e => by simp at e⟩, ⟨⟨rfl, .inl ⟨rfl, rfl⟩⟩, fun i hi => by omega, fun k hk => by simp [Value.ownBlock] at hk, fun i b n c e => by simp at e⟩, fun k hk => by simp [Value.ownBlock] at hk⟩
  case round =>
    obtain ⟨j, F1, xs, ys, hj, rfl, hQr, hFr, hBr, hX, hY, hne⟩ := hrel
    have HR := hide (And.intro hQr (And.intro hFr (And.intro hBr (And.intro hX (And.intro hY hne)))))
    clear hQr hFr hBr hX hY hne
    by_cases hlt : j < c
    · have hd : decide (j < c) = true := by simp; omega
      have hadd := i64_id ((j : Int) + 1) (by omega) (by omega)
      go_wp2_with fail
      obtain ⟨hQr, hFr, hBr, hX, hY, hne⟩ := unhide HR
      have hBj := (unhide H6).2.2.2.goes 0 (fun _ => 4) j
      have hj7 : j * 2 ≤ 14 := by omega
      have hadv := ppadv_yes g 0 4 pv pb F1 (goes G 0 (fun _ => 4) j) wr hQr (by rw [hBj.players]; omega) ⟨by omega, by omega⟩ (by have := hBj.sent; omega) (by have := hBj.now; omega) ((unhide HG').1 j hlt)
      rw [show ((0 : Nat) : Int) = 0 from rfl] at hadv
      refine hadv.mono ?_
      clear hadv
      rintro e w8 ⟨rfl, hC8, F8, hQ8, hF8⟩
      obtain ⟨hB8, hFB8⟩ := gs_step hBr hFr hC8 hF8
      have hX8 : RowsF w8 w1.heap.size F8 u15 (hearR c a) j xs := hX.keep (fun k hk hn => hC8.block k hk hn) hF8
      have hY8 : RowsF w8 w1.heap.size F8 u16 (realR c a b) j ys := hY.keep (fun k hk hn => hC8.block k hk hn) hF8
      have HF8 := hide hFB8
      have H8 := hide (And.intro hX8 (And.intro hY8 (And.intro hQ8 (And.intro hB8 hne))))
      obtain ⟨iT, hiT, hT0, hT1, hT2⟩ := info_parts Tryz.infoBs
      have hB8' := hB8
      clear hQr hFr hBr hX hY hne hC8 hF8 hX8 hY8 hQ8 hFB8
      have hW2 : Below w8.heap.size w8 ((w8.alloc (.cells #[.int .u8 4, .int .u8 (a : Int)] 5)).alloc (.cells #[.slice (some ⟨w8.heap.size, 0, none⟩) 2 2] 35)) := ((Below.refl _ w8).alloc (Nat.le_refl _) _).alloc (by simp) _
      have hzW : ((w8.alloc (.cells #[.int .u8 4, .int .u8 (a : Int)] 5)).alloc (.cells #[.slice (some ⟨w8.heap.size, 0, none⟩) 2 2] 35)).heap.size = w8.heap.size + 2 := by simp
      have hownA : ((w8.alloc (.cells #[.int .u8 4, .int .u8 (a : Int)] 5)).alloc (.cells #[.slice (some ⟨w8.heap.size, 0, none⟩) 2 2] 35)).ownsRow w1.heap.size 35 1 u15 j xs := (unhide H8).1.1.kept (grown_below hW2 none) (by cases e : (u15).ownBlock <;> simp)
      have hnew : ∀ i u, [Value.slice (some ⟨w8.heap.size, 0, none⟩) 2 2][i]? = some u → ((w8.alloc (.cells #[.int .u8 4, .int .u8 (a : Int)] 5)).alloc (.cells #[.slice (some ⟨w8.heap.size, 0, none⟩) 2 2] 35)).cell? ((⟨w8.heap.size + 1, 0, none⟩ : Addr).add i) = some u := by
        have := cell_one_new (w8.alloc (.cells #[.int .u8 4, .int .u8 (a : Int)] 5)) (.slice (some ⟨w8.heap.size, 0, none⟩) 2 2) 35
        rw [show (w8.alloc (.cells #[.int .u8 4, .int .u8 (a : Int)] 5)).heap.size = w8.heap.size + 1 by simp] at this
        exact this
      have hbse : w1.heap.size ≤ ((w8.alloc (.cells #[.int .u8 4, .int .u8 (a : Int)] 5)).alloc (.cells #[.slice (some ⟨w8.heap.size, 0, none⟩) 2 2] 35)).heap.size := by have := hB8.size; omega
      have HA := hide (And.intro hownA (And.intro hnew hbse))
      clear hW2 hzW hownA hnew hbse
      go_wp2_with (at_builtin; refine wpList_append_own_at ((w8.alloc (.cells #[.int .u8 4, .int .u8 (a : Int)] 5)).alloc (.cells #[.slice (some ⟨w8.heap.size, 0, none⟩) 2 2] 35)) rfl (.tmp 76) (.tmp 79) 33 rfl w1.heap.size 35 iT (.slice none 0 0) 1 24 Tryz.underlying33 hiT hT0 hT1 hT2 rfl (by decide) _ j xs rfl (unhide HA).1 ⟨w8.heap.size + 1, 0, none⟩ 1 1 [.slice (some ⟨w8.heap.size, 0, none⟩) 2 2] rfl rfl (unhide HA).2.1 (by simp [Value.oneCell']) (by unfold maxLen; omega) (by omega) (unhide HA).2.2 ?_)
      intro v15 w9 hown9 hg9 hnil9 hloc9
      obtain ⟨hX8, hY8, hQ8, _, hne⟩ := unhide H8
      obtain ⟨hX9, hY9, hQ9, hB9, hne9⟩ := gpush hX8 hY8 hQ8 hB8 hne (p := 4) (q := (a : Int)) (hearR_get c a j hlt) hown9 hg9 hloc9
      have H9 := hide (And.intro hX9 (And.intro hY9 (And.intro hQ9 (And.intro trivial hne9))))
      clear hX8 hY8 hQ8 hne hown9 hg9 hnil9 hloc9 hX9 hY9 hQ9 hne9 HA hB8 hB8'
      by_cases hj0 : j = 0
      · have e1 : decide ((0 : Int) < (j : Int)) = false := by simp [hj0]
        have e2 : decide (0 < j) = false := by simp [hj0]
        have HJ0 := hide hj0
        clear hj0
        have hW2 : Below w9.heap.size w9 ((w9.alloc (.cells #[.int .u8 4, .int .u8 (a : Int)] 5)).alloc (.cells #[.slice (some ⟨w9.heap.size, 0, none⟩) 2 2] 35)) := ((Below.refl _ w9).alloc (Nat.le_refl _) _).alloc (by simp) _
        have hzW : ((w9.alloc (.cells #[.int .u8 4, .int .u8 (a : Int)] 5)).alloc (.cells #[.slice (some ⟨w9.heap.size, 0, none⟩) 2 2] 35)).heap.size = w9.heap.size + 2 := by simp
        have hownA : ((w9.alloc (.cells #[.int .u8 4, .int .u8 (a : Int)] 5)).alloc (.cells #[.slice (some ⟨w9.heap.size, 0, none⟩) 2 2] 35)).ownsRow w1.heap.size 35 1 u16 j ys := (unhide H9).2.1.1.kept (grown_below hW2 none) (by cases e : (u16).ownBlock <;> simp)
        have hnew : ∀ i u, [Value.slice (some ⟨w9.heap.size, 0, none⟩) 2 2][i]? = some u → ((w9.alloc (.cells #[.int .u8 4, .int .u8 (a : Int)] 5)).alloc (.cells #[.slice (some ⟨w9.heap.size, 0, none⟩) 2 2] 35)).cell? ((⟨w9.heap.size + 1, 0, none⟩ : Addr).add i) = some u := by
          have := cell_one_new (w9.alloc (.cells #[.int .u8 4, .int .u8 (a : Int)] 5)) (.slice (some ⟨w9.heap.size, 0, none⟩) 2 2) 35
          rw [show (w9.alloc (.cells #[.int .u8 4, .int .u8 (a : Int)] 5)).heap.size = w9.heap.size + 1 by simp] at this
          exact this
        have hbse : w1.heap.size ≤ ((w9.alloc (.cells #[.int .u8 4, .int .u8 (a : Int)] 5)).alloc (.cells #[.slice (some ⟨w9.heap.size, 0, none⟩) 2 2] 35)).heap.size := by have := hB9.size; omega
        have HA := hide (And.intro hownA (And.intro hnew hbse))
        clear hW2 hzW hownA hnew hbse
        go_wp2_with (at_builtin; refine wpList_append_own_at ((w9.alloc (.cells #[.int .u8 4, .int .u8 (a : Int)] 5)).alloc (.cells #[.slice (some ⟨w9.heap.size, 0, none⟩) 2 2] 35)) rfl (.tmp 85) (.tmp 88) 33 rfl w1.heap.size 35 iT (.slice none 0 0) 1 24 Tryz.underlying33 hiT hT0 hT1 hT2 rfl (by decide) _ j ys rfl (unhide HA).1 ⟨w9.heap.size + 1, 0, none⟩ 1 1 [.slice (some ⟨w9.heap.size, 0, none⟩) 2 2] rfl rfl (unhide HA).2.1 (by simp [Value.oneCell']) (by unfold maxLen; omega) (by omega) (unhide HA).2.2 ?_)
        intro v16 w10 hown10 hg10 hnil10 hloc10
        obtain ⟨hX9, hY9, hQ9, _, hne9⟩ := unhide H9
        obtain ⟨hY10, hX10, hQ10, hB10, hne10⟩ := gpush hY9 hX9 hQ9 hB9 (fun k hk e => hne9 k e hk) (p := 4) (q := ((a : Int) : Int)) (by rw [realR_get c a b j hlt]; simp [unhide HJ0]) hown10 hg10 hloc10
        have H10 := hide (And.intro hX10 (And.intro hY10 (And.intro hQ10 (And.intro hB10 hne10))))
        clear hX9 hY9 hQ9 hne9 hown10 hg10 hnil10 hloc10 hY10 hX10 hQ10 hB10 hne10
        go_wp2
        obtain ⟨hX10, hY10, hQ10, hB10, hne10⟩ := unhide H10
        exact ⟨⟨j + 1, F8, _, _, by omega, by go_num, hQ10, unhide HF8, hB10, hX10, hY10, fun k hk e => hne10 k e hk⟩, by simp [intOf]; omega⟩
      · have e1 : decide ((0 : Int) < (j : Int)) = true := by simp; omega
        have e2 : decide (0 < j) = true := by simp; omega
        have HJ0 := hide hj0
        clear hj0
        have hW2 : Below w9.heap.size w9 ((w9.alloc (.cells #[.int .u8 4, .int .u8 (b : Int)] 5)).alloc (.cells #[.slice (some ⟨w9.heap.size, 0, none⟩) 2 2] 35)) := ((Below.refl _ w9).alloc (Nat.le_refl _) _).alloc (by simp) _
        have hzW : ((w9.alloc (.cells #[.int .u8 4, .int .u8 (b : Int)] 5)).alloc (.cells #[.slice (some ⟨w9.heap.size, 0, none⟩) 2 2] 35)).heap.size = w9.heap.size + 2 := by simp
        have hownA : ((w9.alloc (.cells #[.int .u8 4, .int .u8 (b : Int)] 5)).alloc (.cells #[.slice (some ⟨w9.heap.size, 0, none⟩) 2 2] 35)).ownsRow w1.heap.size 35 1 u16 j ys := (unhide H9).2.1.1.kept (grown_below hW2 none) (by cases e : (u16).ownBlock <;> simp)
        have hnew : ∀ i u, [Value.slice (some ⟨w9.heap.size, 0, none⟩) 2 2][i]? = some u → ((w9.alloc (.cells #[.int .u8 4, .int .u8 (b : Int)] 5)).alloc (.cells #[.slice (some ⟨w9.heap.size, 0, none⟩) 2 2] 35)).cell? ((⟨w9.heap.size + 1, 0, none⟩ : Addr).add i) = some u := by
          have := cell_one_new (w9.alloc (.cells #[.int .u8 4, .int .u8 (b : Int)] 5)) (.slice (some ⟨w9.heap.size, 0, none⟩) 2 2) 35
          rw [show (w9.alloc (.cells #[.int .u8 4, .int .u8 (b : Int)] 5)).heap.size = w9.heap.size + 1 by simp] at this
          exact this
        have hbse : w1.heap.size ≤ ((w9.alloc (.cells #[.int .u8 4, .int .u8 (b : Int)] 5)).alloc (.cells #[.slice (some ⟨w9.heap.size, 0, none⟩) 2 2] 35)).heap.size := by have := hB9.size; omega
        have HA := hide (And.intro hownA (And.intro hnew hbse))
        clear hW2 hzW hownA hnew hbse
        go_wp2_with (at_builtin; refine wpList_append_own_at ((w9.alloc (.cells #[.int .u8 4, .int .u8 (b : Int)] 5)).alloc (.cells #[.slice (some ⟨w9.heap.size, 0, none⟩) 2 2] 35)) rfl (.tmp 85) (.tmp 88) 33 rfl w1.heap.size 35 iT (.slice none 0 0) 1 24 Tryz.underlying33 hiT hT0 hT1 hT2 rfl (by decide) _ j ys rfl (unhide HA).1 ⟨w9.heap.size + 1, 0, none⟩ 1 1 [.slice (some ⟨w9.heap.size, 0, none⟩) 2 2] rfl rfl (unhide HA).2.1 (by simp [Value.oneCell']) (by unfold maxLen; omega) (by omega) (unhide HA).2.2 ?_)
        intro v16 w10 hown10 hg10 hnil10 hloc10
        obtain ⟨hX9, hY9, hQ9, _, hne9⟩ := unhide H9
        obtain ⟨hY10, hX10, hQ10, hB10, hne10⟩ := gpush hY9 hX9 hQ9 hB9 (fun k hk e => hne9 k e hk) (p := 4) (q := ((b : Int) : Int)) (by rw [realR_get c a b j hlt]; simp [unhide HJ0]) hown10 hg10 hloc10
        have H10 := hide (And.intro hX10 (And.intro hY10 (And.intro hQ10 (And.intro hB10 hne10))))
        clear hX9 hY9 hQ9 hne9 hown10 hg10 hnil10 hloc10 hY10 hX10 hQ10 hB10 hne10
        go_wp2
        obtain ⟨hX10, hY10, hQ10, hB10, hne10⟩ := unhide H10
        exact ⟨⟨j + 1, F8, _, _, by omega, by go_num, hQ10, unhide HF8, hB10, hX10, hY10, fun k hk e => hne10 k e hk⟩, by simp [intOf]; omega⟩
    · have hd : decide (j < c) = false := by simp; omega
      have hje : j = c := by omega
      obtain ⟨hQr, hFr, hBr, hX, hY, hne⟩ := unhide HR
      rw [hje] at hQr hX hY
      have hBc := (unhide H6).2.2.2.goes 0 (fun _ => 4) c
      obtain ⟨m2, hm2⟩ : ∃ m2, goes G 0 (fun _ => 4) c = m2 := ⟨_, rfl⟩
      rw [hm2] at hQr hBc
      have hG2 := (unhide HG').2
      rw [hm2] at hG2
      have hHr := two_rows c (fun _ => (a : Int)) (by omega) (fun _ => ⟨by omega, by omega⟩) (hearR c a) rfl
      have hFrH : FrAt wr u15 (hearR c a) := frAt_of_lists (base := w1.heap.size) (xs := xs) (by rw [hHr.1]; exact hX.1) (by rw [hHr.1]; exact hX.2.1)
      have HR2 := hide (And.intro hQr (And.intro hFr (And.intro hBr (And.intro hY (And.intro hFrH (And.intro hHr (And.intro hG2 hBc)))))))
      have hpl2 := hBc.players
      clear hQr hFr hBr hX hY hne hG2 hBc hFrH hHr hje HR
      go_wp2_with fail
      have hmem := ppmem_any g 0 pv pb F1 m2 wr (unhide HR2).1 (by omega)
      rw [show ((0 : Nat) : Int) = 0 from rfl, hpl2] at hmem
      refine hmem.mono ?_
      clear hmem
      rintro e w8 ⟨g8, rfl, hg8, hB8, hb8⟩
      have H8 := hide (And.intro hB8 hb8)
      have hz8 := hb8.size
      have hg8l := hB8.lt
      clear hB8 hb8
      go_wp2_with fail
      obtain ⟨_, _, _, _, hFrH, hHr, hG2, _⟩ := unhide HR2
      have hpp := pplay_yes 2 u15 (hearR c a) w8 (by omega) (by omega) (hFrH.below (unhide H8).2) hHr.2.1 hHr.2.2.1 hHr.2.2.2.1 hHr.2.2.2.2
      rw [show ((2 : Nat) : Int) = 2 from rfl] at hpp
      refine hpp.mono ?_
      clear hpp
      rintro e w9 ⟨g9, rfl, hg9, hB9, hb9⟩
      have hst := play_frames (m2.peers 0) 2 (hearR c a) (by rw [hHr.1]; exact hG2.2.1) (by rw [hHr.1]; exact hG2.1)
      rw [← hst] at hB9
      obtain ⟨SL, hSL⟩ : ∃ SL, stF 2 (insM (m2.peers 0) 2) (m2.peers 0).frame = SL := ⟨_, rfl⟩
      have hSLl : SL.length = 288 := by rw [← hSL]; exact stF_len (by omega) _ _
      rw [hSL] at hB9
      have hB8 := (unhide H8).1
      rw [hSL] at hB8
      have hB89 : Blk w9 g8 (nums .u8 SL) 5 := (hb9.block g8 hg8l).trans hB8
      have hcA := conv_str g8 0 288 288 SL w9 hSLl (fun j hj => by rw [Nat.zero_add]; exact hB89.num j (by omega))
      have hcB := conv_str g9 0 288 288 SL w9 hSLl (fun j hj => by rw [Nat.zero_add]; exact hB9.num j (by omega))
      generalize strOfNums SL = SS at *
      have hb19 : Below wr.heap.size wr w9 := (unhide H8).2.trans (hb9.mono hz8)
      have H9 := hide hb19
      clear hB89 hB8 hB9 hFrH hHr hG2 hst hb9 hb19 hSL hSLl
      go_wp2_with fail
      go_loopw [27] (fun s27 wi => ∃ (i : Nat) (F2 : Nat → Prop), 1 ≤ i ∧ i ≤ c ∧ s27 = .int .i64 (i : Int) ∧ NetQ wi g pv pb F2 (goes m2 1 (fun _ => (b : Int)) (i - 1)) ∧ (∀ k, F2 k → w1.heap.size ≤ k) ∧ Below w1.heap.size w1 wi ∧ RowsF wi w1.heap.size F2 u16 (realR c a b) c ys) (fun s27 _ => c - (intOf s27).toNat)
      case atStart =>
        obtain ⟨hQr, hFr, hBr, hY, _⟩ := unhide HR2
        have hb := unhide H9
        exact ⟨1, F1, Nat.le_refl _, by omega, rfl, hQr.below hb, hFr, hBr.trans (hb.mono hBr.size), hY.keep (fun k hk _ => hb.block k hk) (fun k hk => .inl hk)⟩
      case round =>
        obtain ⟨i, F2, hi1, hic, rfl, hQi, hFi, hBi, hYi⟩ := hrel
        have HI := hide (And.intro hQi (And.intro hFi (And.intro hBi hYi)))
        clear hQi hFi hBi hYi
        by_cases hil : i < c
        · have hdi : decide (i < c) = true := by simp; omega
          have haddi := i64_id ((i : Int) + 1) (by omega) (by omega)
          go_wp2_with fail
          obtain ⟨hQi, hFi, hBi, hYi⟩ := unhide HI
          have hBi1 := (unhide HR2).2.2.2.2.2.2.2.goes 1 (fun _ => (b : Int)) (i - 1)
          have hadv := ppadv_yes g 1 (b : Int) pv pb F2 (goes m2 1 (fun _ => (b : Int)) (i - 1)) wr hQi (by rw [hBi1.players]; omega) ⟨by omega, by omega⟩ (by have := hBi1.sent; omega) (by have := hBi1.now; omega) ((unhide HR2).2.2.2.2.2.2.1.2.2.1 (i - 1) (by omega))
          rw [show ((1 : Nat) : Int) = 1 from rfl] at hadv
          refine hadv.mono ?_
          clear hadv
          rintro e w10 ⟨rfl, hC10, F10, hQ10, hF10⟩
          obtain ⟨hB10, hFB10⟩ := gs_step hBi hFi hC10 hF10
          have hY10 := hYi.keep (F' := F10) (fun k hk hn => hC10.block k hk hn) hF10
          have hQ10' : NetQ w10 g pv pb F10 (goes m2 1 (fun _ => (b : Int)) (i + 1 - 1)) := by
            rw [show i + 1 - 1 = (i - 1) + 1 by omega]; exact hQ10
          have H10 := hide (And.intro hQ10' (And.intro hFB10 (And.intro hB10 hY10)))
          clear hQi hFi hBi hYi hBi1 hC10 hF10 hQ10 hQ10' hB10 hFB10 hY10
          go_wp2
          obtain ⟨hQ10, hFB10, hB10, hY10⟩ := unhide H10
          exact ⟨⟨i + 1, F10, by omega, by omega, by go_num, hQ10, hFB10, hB10, hY10⟩, by simp [intOf]; omega⟩
        · have hdi : decide (i < c) = false := by simp; omega
          have hie : i = c := by omega
          obtain ⟨hQi, hFi, hBi, hYi⟩ := unhide HI
          rw [hie] at hQi
          have hBi1 := (unhide HR2).2.2.2.2.2.2.2.goes 1 (fun _ => (b : Int)) (c - 1)
          obtain ⟨m3, hm3⟩ : ∃ m3, goes m2 1 (fun _ => (b : Int)) (c - 1) = m3 := ⟨_, rfl⟩
          rw [hm3] at hQi hBi1
          have hG6 := (unhide HR2).2.2.2.2.2.2.1.2.2.2
          rw [hm3] at hG6
          have HI2 := hide (And.intro hQi (And.intro hFi (And.intro hBi (And.intro hYi (And.intro hBi1 hG6)))))
          clear hQi hFi hBi hYi hBi1 hG6 hie HI
          go_wp2_with fail
          obtain ⟨hQi, hFi, hBi, hYi, hBi1, hG6⟩ := unhide HI2
          have hcs : (c - 1) * 2 ≤ 12 := by omega
          have hcs2 : c * 2 ≤ 14 := by omega
          refine (ntick_any g pv pb F2 m3 wr hQi (by have := hBi1.sent; omega) (by have := hBi1.now; omega) (fun p _ => by have := hBi1.drop p; have := hQi.few; have := hBi1.sent; omega)).mono ?_
          rintro e w11 ⟨rfl, hC11, F11, hQ11, hF11⟩
          obtain ⟨hB11, hFB11⟩ := gs_step hBi hFi hC11 hF11
          have hY11 := hYi.keep (F' := F11) (fun k hk hn => hC11.block k hk hn) hF11
          have hpl3 := (hBi1.tick hQi.few).players
          obtain ⟨m4, hm4⟩ : ∃ m4, m3.tick = m4 := ⟨_, rfl⟩
          rw [hm4] at hQ11 hpl3 hG6
          have hRr := two_rows c (fun i => if i = 0 then (a : Int) else (b : Int)) (by omega) (fun i => by split <;> exact ⟨by omega, by omega⟩) (realR c a b) rfl
          have hFrR : FrAt w11 u16 (realR c a b) := frAt_of_lists (base := w1.heap.size) (xs := ys) (by rw [hRr.1]; exact hY11.1) (by rw [hRr.1]; exact hY11.2.1)
          have H11 := hide (And.intro hQ11 (And.intro hB11 (And.intro hFrR (And.intro hRr hG6))))
          clear hQi hFi hBi hYi hBi1 hG6 hC11 hF11 hQ11 hB11 hFB11 hY11 hRr hFrR HI2
          go_wp2_with fail
          have hmem := ppmem_any g 0 pv pb F11 m4 w11 (unhide H11).1 (by omega)
          rw [show ((0 : Nat) : Int) = 0 from rfl, hpl3] at hmem
          refine hmem.mono ?_
          clear hmem
          rintro e w12 ⟨g12, rfl, hg12, hB12, hb12⟩
          have H12 := hide (And.intro hB12 hb12)
          have hz12 := hb12.size
          have hg12l := hB12.lt
          clear hB12 hb12
          go_wp2_with fail
          have hmem := ppmem_any g 1 pv pb F11 m4 w12 ((unhide H11).1.below (unhide H12).2) (by omega)
          rw [show ((1 : Nat) : Int) = 1 from rfl, hpl3] at hmem
          refine hmem.mono ?_
          clear hmem
          rintro e w13 ⟨g13, rfl, hg13, hB13, hb13⟩
          have H13 := hide (And.intro hB13 hb13)
          have hz13 := hb13.size
          have hg13l := hB13.lt
          clear hB13 hb13
          go_wp2_with fail
          obtain ⟨_, hB11, hFrR, hRr, hG6⟩ := unhide H11
          have hpp := pplay_yes 2 u16 (realR c a b) w13 (by omega) (by omega) ((hFrR.below (unhide H12).2).below (unhide H13).2) hRr.2.1 hRr.2.2.1 hRr.2.2.2.1 hRr.2.2.2.2
          rw [show ((2 : Nat) : Int) = 2 from rfl] at hpp
          refine hpp.mono ?_
          clear hpp
          rintro e w14 ⟨g14, rfl, hg14, hB14, hb14⟩
          have hst0 := play_frames (m4.peers 0) 2 (realR c a b) (by rw [hRr.1]; exact (hG6 0 (by omega)).2) (by rw [hRr.1]; exact (hG6 0 (by omega)).1)
          have hst1 := play_frames (m4.peers 1) 2 (realR c a b) (by rw [hRr.1]; exact (hG6 1 (by omega)).2) (by rw [hRr.1]; exact (hG6 1 (by omega)).1)
          have hB12 := (unhide H12).1
          have hB13 := (unhide H13).1
          rw [hst0] at hB12
          rw [hst1] at hB13
          have hRl : (playL 2 (realR c a b)).length = 288 := by rw [← hst0]; exact stF_len (by omega) _ _
          have hC12 : Blk w14 g12 (nums .u8 (playL 2 (realR c a b))) 5 := (hb14.block g12 (by omega)).trans (((unhide H13).2.block g12 hg12l).trans hB12)
          have hC13 : Blk w14 g13 (nums .u8 (playL 2 (realR c a b))) 5 := (hb14.block g13 hg13l).trans hB13
          have hcA := conv_str g12 0 288 288 _ w14 hRl (fun j hj => by rw [Nat.zero_add]; exact hC12.num j (by omega))
          have hcB := conv_str g13 0 288 288 _ w14 hRl (fun j hj => by rw [Nat.zero_add]; exact hC13.num j (by omega))
          have hcC := conv_str g14 0 288 288 _ w14 hRl (fun j hj => by rw [Nat.zero_add]; exact hB14.num j (by omega))
          generalize strOfNums (playL 2 (realR c a b)) = SS at *
          have hfin : Below w1.heap.size w1 w14 := ((hB11.trans ((unhide H12).2.mono hB11.size)).trans ((unhide H13).2.mono (by have := hB11.size; omega))).trans (hb14.mono (by have := hB11.size; omega))
          have H14 := hide hfin
          clear hB11 hFrR hRr hG6 hB14 hb14 hst0 hst1 hB12 hB13 hRl hC12 hC13 hfin
          go_wp2
          go_ret
          exact ⟨rfl, unhide H14⟩
end Go.Proofs.YtandblanpafjoabGreatDoor
