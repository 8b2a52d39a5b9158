import Derived.Test.YtandblanpafjoaaGreatDoorPack47
namespace Go.Proofs.YtandblanpafjoaaGreatDoor
open Go.RowKit Go.Extern.Stop Go.Stop Go.Extern
set_option maxRecDepth 10000 in
set_option maxHeartbeats 16000000 in
theorem lstep_any (wb i : Nat) (lo : Nat → LR) (K A B C D : Int) (s : ByteArray) (w : World) (hgL : Laid w) (h : LSt w lo wb i) (hi : i ≤ 65536) (hs : s.size ≤ 65536) (hA : -9223372036854775808 ≤ A ∧ A ≤ 9223372036854775807) (hC : -9223372036854775808 ≤ C ∧ C ≤ 9223372036854775807) (hD : -9223372036854775808 ≤ D ∧ D ≤ 9223372036854775807) :
    Calls Tryz.prog 10 #[.pointer (some ⟨wb, 0, none⟩), .agg #[.int .i64 K, .int .i64 A, .int .i64 B, .int .i64 C, .int .i64 D, .string s]] w fun e w' => e = .returned (.bool true) ∧ ∃ lo', LSt w' lo' wb (i + 1) ∧ LTo w lo w' lo' := by
  obtain ⟨nsv, outv, n, ps, outs, hLw, hni, hol, hbd⟩ := h
  have bB : Below w.heap.size w (w.alloc (.cells #[.int .i64 K, .int .i64 A, .int .i64 B, .int .i64 C, .int .i64 D, .string s] 32)) := (Below.refl _ w).alloc (Nat.le_refl _) _
  have xB : Blk (w.alloc (.cells #[.int .i64 K, .int .i64 A, .int .i64 B, .int .i64 C, .int .i64 D, .string s] 32)) w.heap.size #[.int .i64 K, .int .i64 A, .int .i64 B, .int .i64 C, .int .i64 D, .string s] 32 := Blk.new _ _ _
  have hsO := Tryz.sizeOp
  have hwl := hLw.blk.lt
  have HL := hide (And.intro hLw (And.intro hol hbd))
  have HR := hide (And.intro hA (And.intro hC hD))
  clear hLw hol hbd hA hC hD
  go_enter Tryz.func10, Tryz.ntmps10
  go_upto_region 1 with fail
  generalize w.alloc (.cells #[.int .i64 K, .int .i64 A, .int .i64 B, .int .i64 C, .int .i64 D, .string s] 32) = W at *
  have hxl := xB.lt
  have m0 : W.cell? ⟨w.heap.size, 0, none⟩ = some (.int .i64 K) := xB.cell 0
  have hLW := (unhide HL).1.below bB
  have hgW := hgL.below hgL.lt bB
  have hzW := bB.size
  have HB := hide (And.intro bB (And.intro hLW hgW))
  have hwW : wb < W.heap.size := hLW.blk.lt
  by_cases k1 : K = 1
  · subst k1
    have hcall := lopen_any wb n nsv outv lo ps outs 1 A B C D s W hgW hLW hs (by omega)
    clear hLW hgW bB
    go_wp2_with (refine wpList_load_blk rfl 32 _ rfl w.heap.size rfl 32 #[.int .i64 1, .int .i64 A, .int .i64 B, .int .i64 C, .int .i64 D, .string s] _ xB Tryz.underlying32 rfl hsO ?_)
    refine hcall.mono ?_
    clear hcall
    rintro e w2 ⟨rfl, lo', nsv', n', ps', hA', hT', hn1, hn2, hup, hnew⟩
    have H2 := hide (And.intro hA' (And.intro hT' (And.intro hup hnew)))
    clear hA' hT' hup hnew
    go_wp2
    go_ret
    obtain ⟨hA', hT', hup, hnew⟩ := unhide H2
    obtain ⟨_, hol, hbd⟩ := unhide HL
    refine ⟨rfl, lo', ⟨nsv', outv, n', ps', outs, hA', by omega, Nat.le_trans hol (Nat.mul_le_mul_right _ (Nat.le_succ _)), fun j hj => ?_⟩, (LTo.ofBelow (unhide HB).1).trans hT'⟩
    by_cases hjn : j < n
    · obtain ⟨pl, hpl, hB⟩ := hbd j hjn
      exact ⟨pl, hpl, (hup j hjn pl _ _ _ hpl hB).mono (by omega) (Nat.le_refl _) (Nat.le_refl _)⟩
    · obtain ⟨pl, hpl, hB⟩ := hnew j (by omega) hj
      exact ⟨pl, hpl, hB.mono (by omega) (by omega) (by omega)⟩
  · have hk1 : (K == 1) = false := by rw [beq_eq_false_iff_ne]; exact k1
    have hk1' : (K = 1) = False := by simp; exact k1
    obtain ⟨na, nc, hnv⟩ := own_nil hLW.ns
    subst hnv
    have c0 : W.cell? ⟨wb, 0, none⟩ = some (.slice na n nc) := hLW.blk.cell 0
    by_cases hn0 : n = 0
    · have hd0 : ((n : Int) == 0) = true := by rw [beq_iff_eq]; omega
      subst hn0
      clear hLW hgW bB xB
      go_wp2
      go_ret
      obtain ⟨hLw, hol, hbd⟩ := unhide HL
      exact ⟨rfl, lst_same (unhide HB).2.1 (LTo.ofBelow (unhide HB).1) hni (Nat.le_trans hol (Nat.mul_le_mul_right _ (Nat.le_succ _))) hbd⟩
    have hd0 : ((n : Int) == 0) = false := by rw [beq_eq_false_iff_ne]; omega
    have hd0' : ((n : Int) = 0) = False := by simp only [eq_iff_iff, iff_false]; omega
    have hd0'' : (n = 0) = False := by simp only [eq_iff_iff, iff_false]; exact hn0
    obtain ⟨nk, ncap, hv, _, hnk, _⟩ := own4_some hLW.ns (by omega)
    injection hv with e1 _ e3
    subst e1
    subst e3
    have hA := (unhide HR).1
    have hn1 : 1 ≤ n := by omega
    have hn2 : n ≤ 1000000 := by omega
    have hq := pickN_lt A n (by omega)
    obtain ⟨q, hqq⟩ : ∃ q, pickN A n = q := ⟨_, rfl⟩
    rw [hqq] at hq
    obtain ⟨g, hg⟩ : ∃ x, (ps q).g = x := ⟨_, rfl⟩
    obtain ⟨nb, hnb⟩ : ∃ x, (ps q).nb = x := ⟨_, rfl⟩
    have c1 : W.cell? ⟨w.heap.size, 1, none⟩ = some (.int .i64 A) := xB.cell 1
    have c2 : W.cell? ⟨nk, q * 2, none⟩ = some (.pointer (some ⟨g, 0, none⟩)) := by rw [hLW.ns.cellAt (q * 2) (by omega), ← hg]; exact pairsC_get ps n q 0 hq (by omega)
    have c3 : W.cell? ⟨nk, q * 2 + 1, none⟩ = some (.pointer (some ⟨nb, 0, none⟩)) := by rw [hLW.ns.cellAt (q * 2 + 1) (by omega), ← hnb]; exact pairsC_get ps n q 1 hq (by omega)
    have q0 : (0 : Int) ≤ (q : Int) := by omega
    have q1 : (q : Int) < (n : Int) := by omega
    have hlw : IntKind.i64.wrap (n : Int) = (n : Int) := i64_id _ (by omega) (by omega)
    have hzp := Tryz.zeroPair
    have xA : Blk (W.drew.alloc (.cells #[.pointer none, .pointer none] 38)) W.heap.size #[.pointer none, .pointer none] 38 := Blk.new W.drew _ _
    have bA : Below W.heap.size W (W.drew.alloc (.cells #[.pointer none, .pointer none] 38)) := (Below.refl _ W).drew.alloc (Nat.le_refl _) _
    have xS : Blk ((W.drew.alloc (.cells #[.pointer none, .pointer none] 38)).setRow W.heap.size #[.pointer (some ⟨g, 0, none⟩), .pointer (some ⟨nb, 0, none⟩)]) W.heap.size #[.pointer (some ⟨g, 0, none⟩), .pointer (some ⟨nb, 0, none⟩)] 38 := xA.setRow _
    have bS : Below W.heap.size W ((W.drew.alloc (.cells #[.pointer none, .pointer none] 38)).setRow W.heap.size #[.pointer (some ⟨g, 0, none⟩), .pointer (some ⟨nb, 0, none⟩)]) := below_setRow bA (Nat.le_refl _) _
    have S0 : (fun (W' : World) => W'.cell? ⟨wb, 0, none⟩ = some (.slice (some ⟨nk, 0, none⟩) n nc) ∧ W'.cell? ⟨w.heap.size, 1, none⟩ = some (.int .i64 A) ∧ W'.cell? ⟨nk, q * 2, none⟩ = some (.pointer (some ⟨g, 0, none⟩)) ∧ W'.cell? ⟨nk, q * 2 + 1, none⟩ = some (.pointer (some ⟨nb, 0, none⟩))) W.drew := ⟨c0, c1, c2, c3⟩
    have S1 : (fun (W' : World) => W'.cell? ⟨wb, 0, none⟩ = some (.slice (some ⟨nk, 0, none⟩) n nc) ∧ W'.cell? ⟨w.heap.size, 1, none⟩ = some (.int .i64 A) ∧ W'.cell? ⟨nk, q * 2, none⟩ = some (.pointer (some ⟨g, 0, none⟩)) ∧ W'.cell? ⟨nk, q * 2 + 1, none⟩ = some (.pointer (some ⟨nb, 0, none⟩))) (W.drew.alloc (.cells #[.pointer none, .pointer none] 38)) := ⟨(bA.cell (p := ⟨wb, 0, none⟩) hwW).trans c0, (bA.cell (p := ⟨w.heap.size, 1, none⟩) hxl).trans c1, (bA.cell (p := ⟨nk, q * 2, none⟩) hnk).trans c2, (bA.cell (p := ⟨nk, q * 2 + 1, none⟩) hnk).trans c3⟩
    have S2 : (fun (W' : World) => W'.cell? ⟨wb, 0, none⟩ = some (.slice (some ⟨nk, 0, none⟩) n nc) ∧ W'.cell? ⟨w.heap.size, 1, none⟩ = some (.int .i64 A) ∧ W'.cell? ⟨nk, q * 2, none⟩ = some (.pointer (some ⟨g, 0, none⟩)) ∧ W'.cell? ⟨nk, q * 2 + 1, none⟩ = some (.pointer (some ⟨nb, 0, none⟩))) ((W.drew.alloc (.cells #[.pointer none, .pointer none] 38)).setRow W.heap.size #[.pointer (some ⟨g, 0, none⟩), .pointer (some ⟨nb, 0, none⟩)]) := ⟨(bS.cell (p := ⟨wb, 0, none⟩) hwW).trans c0, (bS.cell (p := ⟨w.heap.size, 1, none⟩) hxl).trans c1, (bS.cell (p := ⟨nk, q * 2, none⟩) hnk).trans c2, (bS.cell (p := ⟨nk, q * 2 + 1, none⟩) hnk).trans c3⟩
    have hrg : ∀ W' : World, (fun (W' : World) => W'.cell? ⟨wb, 0, none⟩ = some (.slice (some ⟨nk, 0, none⟩) n nc) ∧ W'.cell? ⟨w.heap.size, 1, none⟩ = some (.int .i64 A) ∧ W'.cell? ⟨nk, q * 2, none⟩ = some (.pointer (some ⟨g, 0, none⟩)) ∧ W'.cell? ⟨nk, q * 2 + 1, none⟩ = some (.pointer (some ⟨nb, 0, none⟩))) W' → W'.rangeAt nk (q * 2) [.pointer (some ⟨g, 0, none⟩), .pointer (some ⟨nb, 0, none⟩)] := fun W' hS j u hj => by
      match j, hj with
      | 0, hj => simp at hj; subst hj; exact hS.2.2.1
      | 1, hj => simp at hj; subst hj; exact hS.2.2.2
      | j + 2, hj => simp at hj
    have HX := hide (And.intro xS bS)
    have HG := hide (And.intro hg hnb)
    clear hLW hgW bB xS bS bA hg hnb
    go_upto_region 5 with fail
    go_cut [5] from 19 (fun s5 wx => s5 = .pointer (some ⟨W.heap.size, 0, none⟩) ∧ Blk wx W.heap.size #[.pointer (some ⟨g, 0, none⟩), .pointer (some ⟨nb, 0, none⟩)] 38 ∧ Below W.heap.size W wx)
    case first =>
      refine wp_region_noPanic ?_
      refine wp_held_reads 11 (fun (W' : World) => W'.cell? ⟨wb, 0, none⟩ = some (.slice (some ⟨nk, 0, none⟩) n nc) ∧ W'.cell? ⟨w.heap.size, 1, none⟩ = some (.int .i64 A) ∧ W'.cell? ⟨nk, q * 2, none⟩ = some (.pointer (some ⟨g, 0, none⟩)) ∧ W'.cell? ⟨nk, q * 2 + 1, none⟩ = some (.pointer (some ⟨nb, 0, none⟩))) (by kernel_rfl) (by simp) (by kernel_rfl) (by kernel_rfl) (fun _ _ _ _ _ h => h) S0 ?_
      simp only [List.take_succ_cons, List.take_zero]
      refine wpHeld_op ?y0 rfl ?z0 ?_
      case z0 => intro w' hS; obtain ⟨hS1, hS2, hS3, hS4⟩ := hS; go_simp; rfl
      refine wpHeld_op ?y1 rfl ?z1 ?_
      case z1 => intro w' hS; obtain ⟨hS1, hS2, hS3, hS4⟩ := hS; go_simp; rfl
      refine wpHeld_op ?y2 rfl ?z2 ?_
      case z2 => intro w' hS; obtain ⟨hS1, hS2, hS3, hS4⟩ := hS; go_simp; rfl
      refine wpHeld_op ?y3 rfl ?z3 ?_
      case z3 => intro w' hS; obtain ⟨hS1, hS2, hS3, hS4⟩ := hS; go_simp; rfl
      refine wpHeld_op ?y4 rfl ?z4 ?_
      case z4 => intro w' hS; obtain ⟨hS1, hS2, hS3, hS4⟩ := hS; go_simp; rfl
      refine wpHeld_op ?y5 rfl ?z5 ?_
      case z5 => intro w' hS; obtain ⟨hS1, hS2, hS3, hS4⟩ := hS; go_simp; rfl
      refine wpHeld_op ?y6 rfl ?z6 ?_
      case z6 => intro w' hS; obtain ⟨hS1, hS2, hS3, hS4⟩ := hS; go_simp; rfl
      refine wpHeld_op ?y7 rfl ?z7 ?_
      case z7 => intro w' hS; obtain ⟨hS1, hS2, hS3, hS4⟩ := hS; go_simp; rfl
      refine wpHeld_op ?y8 rfl ?z8 ?_
      case z8 => intro w' hS; obtain ⟨hS1, hS2, hS3, hS4⟩ := hS; go_simp; rfl
      refine wpHeld_op ?y9 rfl ?z9 ?_
      case z9 => intro w' hS; obtain ⟨hS1, hS2, hS3, hS4⟩ := hS; go_simp; rfl
      refine wpHeld_op ?y10 rfl ?z10 ?_
      case z10 => intro w' hS; obtain ⟨hS1, hS2, hS3, hS4⟩ := hS; go_simp; rfl
      unfold wpHeld
      refine wpAnyH_all (rs := [11, 14]) (by kernel_rfl) (by simp) ?_
      intro jj hjj
      have hj2 : jj = 11 ∨ jj = 14 := by simpa using hjj
      clear hjj
      rcases hj2 with rfl | rfl
      · refine wpOp_of_list _ rfl rfl ?_
        go_wp2_with fail
        refine (pick_any A n _ hA hn1 hn2).mono ?_
        rw [hqq]
        rintro e w' ⟨rfl, rfl⟩
        go_wp2_with fail
        refine ⟨S0, ?_⟩
        refine wpAnyH_take (i := 12) (v := .pointer (some ⟨nk, q * 2, none⟩)) rfl (by kernel_rfl) (by kernel_rfl) (by kernel_rfl) (fun _ _ _ h => h) (Or.inl ⟨by rfl, ?ta⟩) S0 ?_
        case ta => intro w' hS; go_simp
        refine wpAnyH_all (rs := [13, 14]) (by kernel_rfl) (by simp) ?_
        intro jj hjj
        have hj2 : jj = 13 ∨ jj = 14 := by simpa using hjj
        clear hjj
        rcases hj2 with rfl | rfl
        · refine wpOp_of_list _ rfl rfl ?_
          go_simp
          refine wpList_load_mid rfl 38 _ rfl nk (q * 2) rfl [.pointer (some ⟨g, 0, none⟩), .pointer (some ⟨nb, 0, none⟩)] _ (hrg _ S0) Tryz.underlying38 rfl Tryz.sizePair ?_
          go_wp2_with fail
          refine ⟨S0, ?_⟩
          refine wpAnyH_all (rs := [14]) (by kernel_rfl) (by simp) ?_
          intro jj hjj
          obtain rfl : jj = 14 := by simpa using hjj
          refine wpOp_of_list _ rfl rfl ?_
          go_wp2_with fail
          refine ⟨S1, ?_⟩
          refine wpAnyH_all (rs := [15]) (by kernel_rfl) (by simp) ?_
          intro jj hjj
          obtain rfl : jj = 15 := by simpa using hjj
          refine wpOp_of_list _ rfl rfl ?_
          go_simp
          refine wpList_store_blk rfl 38 _ _ rfl W.heap.size 38 #[.pointer none, .pointer none] #[.pointer (some ⟨g, 0, none⟩), .pointer (some ⟨nb, 0, none⟩)] rfl rfl xA Tryz.sizePair rfl (by simp [Value.oneCell']) ?_
          go_wp2_with fail
          refine ⟨S2, ⟨by kernel_rfl, ?_⟩⟩
          refine NoPanic.normal ?_
          go_wp2_with fail
          go_meet
          case rel => exact ⟨rfl, unhide HX⟩
        · refine wpOp_of_list _ rfl rfl ?_
          go_wp2_with fail
          refine ⟨S1, ?_⟩
          refine wpAnyH_all (rs := [13]) (by kernel_rfl) (by simp) ?_
          intro jj hjj
          obtain rfl : jj = 13 := by simpa using hjj
          refine wpOp_of_list _ rfl rfl ?_
          go_simp
          refine wpList_load_mid rfl 38 _ rfl nk (q * 2) rfl [.pointer (some ⟨g, 0, none⟩), .pointer (some ⟨nb, 0, none⟩)] _ (hrg _ S1) Tryz.underlying38 rfl Tryz.sizePair ?_
          go_wp2_with fail
          refine ⟨S1, ?_⟩
          refine wpAnyH_all (rs := [15]) (by kernel_rfl) (by simp) ?_
          intro jj hjj
          obtain rfl : jj = 15 := by simpa using hjj
          refine wpOp_of_list _ rfl rfl ?_
          go_simp
          refine wpList_store_blk rfl 38 _ _ rfl W.heap.size 38 #[.pointer none, .pointer none] #[.pointer (some ⟨g, 0, none⟩), .pointer (some ⟨nb, 0, none⟩)] rfl rfl xA Tryz.sizePair rfl (by simp [Value.oneCell']) ?_
          go_wp2_with fail
          refine ⟨S2, ⟨by kernel_rfl, ?_⟩⟩
          refine NoPanic.normal ?_
          go_wp2_with fail
          go_meet
          case rel => exact ⟨rfl, unhide HX⟩
      · refine wpOp_of_list _ rfl rfl ?_
        go_wp2_with fail
        refine ⟨S1, ?_⟩
        refine wpAnyH_all (rs := [11]) (by kernel_rfl) (by simp) ?_
        intro jj hjj
        obtain rfl : jj = 11 := by simpa using hjj
        refine wpOp_of_list _ rfl rfl ?_
        go_wp2_with fail
        refine (pick_any A n _ hA hn1 hn2).mono ?_
        rw [hqq]
        rintro e w' ⟨rfl, rfl⟩
        go_wp2_with fail
        refine ⟨S1, ?_⟩
        refine wpAnyH_take (i := 12) (v := .pointer (some ⟨nk, q * 2, none⟩)) rfl (by kernel_rfl) (by kernel_rfl) (by kernel_rfl) (fun _ _ _ h => h) (Or.inl ⟨by rfl, ?tb⟩) S1 ?_
        case tb => intro w' hS; go_simp
        refine wpAnyH_all (rs := [13]) (by kernel_rfl) (by simp) ?_
        intro jj hjj
        obtain rfl : jj = 13 := by simpa using hjj
        refine wpOp_of_list _ rfl rfl ?_
        go_simp
        refine wpList_load_mid rfl 38 _ rfl nk (q * 2) rfl [.pointer (some ⟨g, 0, none⟩), .pointer (some ⟨nb, 0, none⟩)] _ (hrg _ S1) Tryz.underlying38 rfl Tryz.sizePair ?_
        go_wp2_with fail
        refine ⟨S1, ?_⟩
        refine wpAnyH_all (rs := [15]) (by kernel_rfl) (by simp) ?_
        intro jj hjj
        obtain rfl : jj = 15 := by simpa using hjj
        refine wpOp_of_list _ rfl rfl ?_
        go_simp
        refine wpList_store_blk rfl 38 _ _ rfl W.heap.size 38 #[.pointer none, .pointer none] #[.pointer (some ⟨g, 0, none⟩), .pointer (some ⟨nb, 0, none⟩)] rfl rfl xA Tryz.sizePair rfl (by simp [Value.oneCell']) ?_
        go_wp2_with fail
        refine ⟨S2, ⟨by kernel_rfl, ?_⟩⟩
        refine NoPanic.normal ?_
        go_wp2_with fail
        go_meet
        case rel => exact ⟨rfl, unhide HX⟩
    case rest =>
      obtain ⟨rfl, xP, bX⟩ := hcut
      obtain ⟨X, hX⟩ : ∃ x, x = wc := ⟨_, rfl⟩
      subst hX
      have hholn := (unhide HL).2.1
      have hol9 : outs.length ≤ 900000000000 := Nat.le_trans hholn (Nat.le_trans (Nat.mul_le_mul_right _ hi) (by decide))
      have bwX : Below w.heap.size w X := (unhide HB).1.trans (bX.mono hzW)
      have hLX := (unhide HB).2.1.below bX
      have hgX : Laid X := (unhide HB).2.2.below (unhide HB).2.2.lt bX
      have xO : Blk X w.heap.size #[.int .i64 K, .int .i64 A, .int .i64 B, .int .i64 C, .int .i64 D, .string s] 32 := (bX.block _ hxl).trans xB
      have o0 : X.cell? ⟨w.heap.size, 0, none⟩ = some (.int .i64 K) := xO.cell 0
      have o2 : X.cell? ⟨w.heap.size, 2, none⟩ = some (.int .i64 B) := xO.cell 2
      have o3 : X.cell? ⟨w.heap.size, 3, none⟩ = some (.int .i64 C) := xO.cell 3
      have o4 : X.cell? ⟨w.heap.size, 4, none⟩ = some (.int .i64 D) := xO.cell 4
      have o5 : X.cell? ⟨w.heap.size, 5, none⟩ = some (.string s) := xO.cell 5
      obtain ⟨m, hm⟩ : ∃ x, (ps q).m = x := ⟨_, rfl⟩
      have hBo := hLX.pairs q hq
      rw [(unhide HG).1, (unhide HG).2, hm] at hBo
      obtain ⟨pl, hpl, hBd⟩ := (unhide HL).2.2 q hq
      rw [hm] at hBd
      have b1 := hBd.sent
      have b2 := hBd.now
      have b3 := hBd.drop
      have b30 := b3 0
      have hf1 : ∀ k, (ps q).f k → 1 ≤ k := fun k hk => hLX.pos k (by rw [hLX.rp q k hq hk]; simp)
      have hdr : ∀ j, (m.peers j).dropped + 1 ≤ 1000000000 := fun j => by have := b3 j; omega
      have hfn : ∀ k, (ps q).f k → k < w.heap.size := fun k hk => (unhide HL).1.lt k (by rw [hLX.rp q k hq hk]; simp)
      have HX2 := hide (And.intro bwX (And.intro hf1 (And.intro hdr hfn)))
      have HMM := hide hm
      have HBD := hide hBd
      have HLX := hide (And.intro hLX (And.intro hgX hBo))
      have hxP := xP.lt
      clear bwX hf1 hdr hfn hm hBd b3 bX xO c0 c1 c2 c3 m0 S0 S1 S2 hrg xA xB HX hzp hd0 hd0' hd0'' hlw hholn
      by_cases k2 : K = 2
      · subst k2
        have hcall := ladv_any g nb B C (ps q).f m X hgX hBo (by omega) (by omega) (by omega)
        clear hBo hgX hLX
        go_wp2_with (refine wpList_load_blk rfl 38 _ rfl W.heap.size rfl 38 #[.pointer (some ⟨g, 0, none⟩), .pointer (some ⟨nb, 0, none⟩)] _ xP Tryz.underlying38 rfl Tryz.sizePair ?_)
        refine hcall.mono ?_
        clear hcall
        rintro e w2 ⟨rfl, hpost⟩
        have H2 := hide hpost
        clear hpost
        go_wp2
        go_ret
        obtain ⟨m', hU, hT⟩ := unhide H2
        obtain ⟨hLw, hol, hbd⟩ := unhide HL
        exact ⟨rfl, lst_pair hLw (unhide HX2).1 hni hol hbd hq (by rw [(unhide HG).1, (unhide HG).2]; exact hT) (by rw [unhide HMM]; exact hU)⟩
      have hk2 : (K == 2) = false := by rw [beq_eq_false_iff_ne]; exact k2
      have hk2' : (K = 2) = False := by simp; exact k2
      by_cases k3 : K = 3
      · subst k3
        obtain ⟨pv, pb, F, ro, hN, hR, hd, hf⟩ := hBo
        have hok := hN.rok
        have hcall := ntick_any g pv pb F m X hN (by omega) (by omega) (fun p _ => by have := (unhide HBD).drop p; omega)
        have p0 : X.cell? ⟨W.heap.size, 0, none⟩ = some (.pointer (some ⟨g, 0, none⟩)) := xP.cell 0
        have HD := hide (And.intro hR (And.intro hd (And.intro hf hok)))
        clear hgX hLX hN hR hd hf hok
        go_wp2_with fail
        refine hcall.mono ?_
        clear hcall
        rintro e w2 ⟨rfl, hC2, F2, hN2, hF2⟩
        obtain ⟨hR, hd, hf, hok⟩ := unhide HD
        have hFn : ¬ F W.heap.size := fun e => by have := (unhide HX2).2.2.2 _ ((hf _).2 (.inl e)); omega
        have xP2 := xP.chg hC2 hFn
        have p1 : w2.cell? ⟨W.heap.size, 1, none⟩ = some (.pointer (some ⟨nb, 0, none⟩)) := xP2.cell 1
        have hplm : m.players = pl := (unhide HBD).players
        have hcall2 := rtick_any nb (12 * i) i i ro m w2 (hR.chg hd hC2) hok (by rw [hplm]; exact unhide HBD) (by omega) (by omega) (by omega)
        have H2 := hide (And.intro hC2 (And.intro hN2 hF2))
        clear hC2 hN2 hF2 hR hd hf hok hFn xP2 p0 xP
        go_wp2_with fail
        refine hcall2.mono ?_
        clear hcall2
        rintro e w3 ⟨rfl, ro3, hR3, hT3⟩
        have H3 := hide (And.intro hR3 hT3)
        clear hR3 hT3 p1
        go_wp2
        go_ret
        obtain ⟨hR, hd, hf, hok⟩ := unhide HD
        obtain ⟨hC2, hN2, hF2⟩ := unhide H2
        have hT := both_step hR hd hf hC2 hN2 hF2 (unhide H3).1 (unhide H3).2
        obtain ⟨hLw, hol, hbd⟩ := unhide HL
        exact ⟨rfl, lst_pair hLw (unhide HX2).1 hni hol hbd hq (by rw [(unhide HG).1, (unhide HG).2]; exact hT) (by rw [unhide HMM]; exact Up.tick m)⟩
      have hk3 : (K == 3) = false := by rw [beq_eq_false_iff_ne]; exact k3
      have hk3' : (K = 3) = False := by simp; exact k3
      by_cases k4 : K = 4
      · subst k4
        have hcall := lhand_any g nb B s (ps q).f m X hgX hBo (unhide HX2).2.1 (by omega) (unhide HX2).2.2.1
        clear hBo hgX hLX
        go_wp2_with (refine wpList_load_blk rfl 38 _ rfl W.heap.size rfl 38 #[.pointer (some ⟨g, 0, none⟩), .pointer (some ⟨nb, 0, none⟩)] _ xP Tryz.underlying38 rfl Tryz.sizePair ?_)
        refine hcall.mono ?_
        clear hcall
        rintro e w2 ⟨rfl, hpost⟩
        have H2 := hide hpost
        clear hpost
        go_wp2
        go_ret
        obtain ⟨m', hU, hT⟩ := unhide H2
        obtain ⟨hLw, hol, hbd⟩ := unhide HL
        exact ⟨rfl, lst_pair hLw (unhide HX2).1 hni hol hbd hq (by rw [(unhide HG).1, (unhide HG).2]; exact hT) (by rw [unhide HMM]; exact hU)⟩
      have hk4 : (K == 4) = false := by rw [beq_eq_false_iff_ne]; exact k4
      have hk4' : (K = 4) = False := by simp; exact k4
      by_cases k5 : K = 5
      · subst k5
        have hcall := lbytes_any g nb C D (ps q).f m X hBo (unhide HR).2.1 (unhide HR).2.2 (by omega)
        clear hBo hgX hLX
        go_wp2_with (refine wpList_load_blk rfl 38 _ rfl W.heap.size rfl 38 #[.pointer (some ⟨g, 0, none⟩), .pointer (some ⟨nb, 0, none⟩)] _ xP Tryz.underlying38 rfl Tryz.sizePair ?_)
        refine hcall.mono ?_
        clear hcall
        rintro e w1 ⟨s', rfl, hs', hb1⟩
        have xP1 : Blk w1 W.heap.size #[.pointer (some ⟨g, 0, none⟩), .pointer (some ⟨nb, 0, none⟩)] 38 := (hb1.block _ hxP).trans xP
        have hoX : w.heap.size < X.heap.size := by omega
        have o21 : w1.cell? ⟨w.heap.size, 2, none⟩ = some (.int .i64 B) := (hb1.cell (p := ⟨w.heap.size, 2, none⟩) hoX).trans o2
        have hcall2 := lhand_any g nb B s' (ps q).f m w1 ((unhide HLX).2.1.below (unhide HLX).2.1.lt hb1) ((unhide HLX).2.2.below hb1) (unhide HX2).2.1 hs' (unhide HX2).2.2.1
        have H1 := hide hb1
        clear hb1 o2 xP
        go_wp2_with (refine wpList_load_blk rfl 38 _ rfl W.heap.size rfl 38 #[.pointer (some ⟨g, 0, none⟩), .pointer (some ⟨nb, 0, none⟩)] _ xP1 Tryz.underlying38 rfl Tryz.sizePair ?_)
        refine hcall2.mono ?_
        clear hcall2
        rintro e w2 ⟨rfl, hpost⟩
        have H2 := hide hpost
        clear hpost
        go_wp2
        go_ret
        obtain ⟨m', hU, hT⟩ := unhide H2
        obtain ⟨hLw, hol, hbd⟩ := unhide HL
        exact ⟨rfl, lst_pair hLw (unhide HX2).1 hni hol hbd hq (by rw [(unhide HG).1, (unhide HG).2]; exact BTo.after (unhide H1) hT) (by rw [unhide HMM]; exact hU)⟩
      have hk5 : (K == 5) = false := by rw [beq_eq_false_iff_ne]; exact k5
      have hk5' : (K = 5) = False := by simp; exact k5
      by_cases k6 : K = 6
      · subst k6
        have hcall := lmem_any wb n q B _ outv lo ps outs X hgX hLX hq (by omega)
        rw [(unhide HG).1, (unhide HG).2] at hcall
        clear hBo hgX hLX
        go_wp2_with (refine wpList_load_blk rfl 38 _ rfl W.heap.size rfl 38 #[.pointer (some ⟨g, 0, none⟩), .pointer (some ⟨nb, 0, none⟩)] _ xP Tryz.underlying38 rfl Tryz.sizePair ?_)
        refine hcall.mono ?_
        clear hcall
        rintro e w2 ⟨rfl, lo', outv', outs', hA', hT', ho'⟩
        have H2 := hide (And.intro hA' hT')
        clear hA' hT'
        go_wp2
        go_ret
        obtain ⟨hA', hT'⟩ := unhide H2
        obtain ⟨hLw, hol, hbd⟩ := unhide HL
        exact ⟨rfl, lst_same hA' ((LTo.ofBelow (unhide HX2).1).trans hT') hni (by rw [Nat.succ_mul]; omega) hbd⟩
      have hk6 : (K == 6) = false := by rw [beq_eq_false_iff_ne]; exact k6
      have hk6' : (K = 6) = False := by simp; exact k6
      by_cases k7 : K = 7
      · subst k7
        have hcall := lstood_any g nb B (ps q).f m X hgX hBo
        clear hBo hgX hLX
        go_wp2_with (refine wpList_load_blk rfl 38 _ rfl W.heap.size rfl 38 #[.pointer (some ⟨g, 0, none⟩), .pointer (some ⟨nb, 0, none⟩)] _ xP Tryz.underlying38 rfl Tryz.sizePair ?_)
        refine hcall.mono ?_
        clear hcall
        rintro e w2 ⟨rfl, hpost⟩
        have H2 := hide hpost
        clear hpost
        go_wp2
        go_ret
        obtain ⟨m', hU, hT⟩ := unhide H2
        obtain ⟨hLw, hol, hbd⟩ := unhide HL
        exact ⟨rfl, lst_pair hLw (unhide HX2).1 hni hol hbd hq (by rw [(unhide HG).1, (unhide HG).2]; exact hT) (by rw [unhide HMM]; exact hU)⟩
      have hk7 : (K == 7) = false := by rw [beq_eq_false_iff_ne]; exact k7
      have hk7' : (K = 7) = False := by simp; exact k7
      by_cases k8 : K = 8
      · subst k8
        have hcall := lsum_any g nb B C (ps q).f m X hgX hBo
        clear hBo hgX hLX
        go_wp2_with (refine wpList_load_blk rfl 38 _ rfl W.heap.size rfl 38 #[.pointer (some ⟨g, 0, none⟩), .pointer (some ⟨nb, 0, none⟩)] _ xP Tryz.underlying38 rfl Tryz.sizePair ?_)
        refine hcall.mono ?_
        clear hcall
        rintro e w2 ⟨rfl, hpost⟩
        have H2 := hide hpost
        clear hpost
        go_wp2
        go_ret
        obtain ⟨m', hU, hT⟩ := unhide H2
        obtain ⟨hLw, hol, hbd⟩ := unhide HL
        exact ⟨rfl, lst_pair hLw (unhide HX2).1 hni hol hbd hq (by rw [(unhide HG).1, (unhide HG).2]; exact hT) (by rw [unhide HMM]; exact hU)⟩
      have hk8 : (K == 8) = false := by rw [beq_eq_false_iff_ne]; exact k8
      have hk8' : (K = 8) = False := by simp; exact k8
      by_cases k9 : K = 9
      · subst k9
        have hcall := lflown_any wb n q _ outv lo ps outs X hLX hq (by rw [unhide HMM]; omega) (by rw [unhide HMM]; omega) hol9
        rw [(unhide HG).1, (unhide HG).2] at hcall
        clear hBo hgX hLX
        go_wp2_with (refine wpList_load_blk rfl 38 _ rfl W.heap.size rfl 38 #[.pointer (some ⟨g, 0, none⟩), .pointer (some ⟨nb, 0, none⟩)] _ xP Tryz.underlying38 rfl Tryz.sizePair ?_)
        refine hcall.mono ?_
        clear hcall
        rintro e w2 ⟨rfl, lo', outv', outs', hA', hT', ho'⟩
        have H2 := hide (And.intro hA' hT')
        clear hA' hT'
        go_wp2
        go_ret
        obtain ⟨hA', hT'⟩ := unhide H2
        obtain ⟨hLw, hol, hbd⟩ := unhide HL
        exact ⟨rfl, lst_same hA' ((LTo.ofBelow (unhide HX2).1).trans hT') hni (by rw [Nat.succ_mul]; omega) hbd⟩
      have hk9 : (K == 9) = false := by rw [beq_eq_false_iff_ne]; exact k9
      have hk9' : (K = 9) = False := by simp; exact k9
      clear hBo hgX hLX xP
      go_wp2
      go_ret
      obtain ⟨hLw, hol, hbd⟩ := unhide HL
      exact ⟨rfl, lst_same (unhide HLX).1 (LTo.ofBelow (unhide HX2).1) hni (Nat.le_trans hol (Nat.mul_le_mul_right _ (Nat.le_succ _))) hbd⟩
end Go.Proofs.YtandblanpafjoaaGreatDoor

namespace Go.Proofs.YtandblanpafjoaaGreatDoor
open Go.RowKit Go.Extern.Stop Go.Stop Go.Extern
structure OpL where
  k : Int
  a : Int
  b : Int
  c : Int
  d : Int
  s : ByteArray
def opC (x : OpL) : List Value := [.int .i64 x.k, .int .i64 x.a, .int .i64 x.b, .int .i64 x.c, .int .i64 x.d, .string x.s]
def i64r (x : Int) : Prop := -9223372036854775808 ≤ x ∧ x ≤ 9223372036854775807
def Scr (w : World) (ao : Option Addr) (N : Nat) (os : Nat → OpL) : Prop := N ≠ 0 → ∃ sb o, ao = some ⟨sb, o, none⟩ ∧ sb < w.heap.size ∧ ∀ i, i < N → w.rangeAt sb (o + i * 6) (opC (os i))
theorem Scr.below {w w' : World} {ao : Option Addr} {N : Nat} {os : Nat → OpL} (h : Scr w ao N os) (hb : Below w.heap.size w w') : Scr w' ao N os := fun hN => by
  obtain ⟨sb, o, e, hl, hc⟩ := h hN
  exact ⟨sb, o, e, Nat.lt_of_lt_of_le hl hb.size, fun i hi j v hv => (hb.cell (p := ⟨sb, o + i * 6 + j, none⟩) hl).trans (hc i hi j v hv)⟩
theorem Scr.chg {F : Nat → Prop} {w w' : World} {ao : Option Addr} {N : Nat} {os : Nat → OpL} (h : Scr w ao N os) (hc : Chg F w w') (hF : ∀ b, ao.map (·.block) = some b → ¬ F b) : Scr w' ao N os := fun hN => by
  obtain ⟨sb, o, e, hl, hr⟩ := h hN
  refine ⟨sb, o, e, Nat.lt_of_lt_of_le hl hc.size, fun i hi j v hv => ?_⟩
  rw [← hr i hi j v hv]
  exact World.cell?_of_block (a := ⟨sb, o + i * 6 + j, none⟩) (hc.block sb hl (hF sb (by rw [e]; rfl)))
set_option maxRecDepth 10000 in
set_option maxHeartbeats 4000000 in
theorem lsmall_any (ao : Option Addr) (N cap : Nat) (os : Nat → OpL) (w : World) (h : Scr w ao N os) (hN : N ≤ 1000000000000000000) (hs : ∀ i, i < N → (os i).s.size ≤ 1000000000000000000) :
    Calls Tryz.prog 9 #[.slice ao N cap] w fun e w' => w' = w ∧ ∃ b, e = .returned (.bool b) ∧ (b = true → N ≤ 65536 ∧ ∀ i, i < N → (os i).s.size ≤ 65536) := by
  have HS := hide hs
  have HC := hide h
  have hlw : IntKind.i64.wrap (N : Int) = (N : Int) := i64_big _ (by omega) (by omega)
  clear h hs
  go_enter Tryz.func9, Tryz.ntmps9
  by_cases h0 : N ≤ 65536
  · have hd : decide ((65536 : Int) < (N : Int)) = false := decide_eq_false (by omega)
    have hd' : decide (65536 < N) = false := decide_eq_false (by omega)
    go_wp2_with fail
    go_loopw [3, 4] (fun s3 s4 wr => ∃ (i n : Nat), i ≤ N ∧ n ≤ 65536 ∧ s3 = .int .i64 (n : Int) ∧ s4 = .int .i64 (i : Int) ∧ wr = w ∧ ∀ j, j < i → (os j).s.size ≤ 65536) (fun _ s4 _ => N - (intOf s4).toNat)
    case atStart => exact ⟨0, N, by omega, h0, rfl, rfl, rfl, fun j hj => by omega⟩
    case round =>
      obtain ⟨i, n, hi, hn, rfl, rfl, rfl, hg⟩ := hrel
      have HG := hide hg
      clear hg
      by_cases hlt : i < N
      · have hdl : decide ((i : Int) < (N : Int)) = true := decide_eq_true (by omega)
        have hdl' : decide (i < N) = true := decide_eq_true hlt
        have hadd := i64_id ((i : Int) + 1) (by omega) (by omega)
        have i0 : (0 : Int) ≤ (i : Int) := by omega
        have i1 : (i : Int) < (N : Int) := by omega
        obtain ⟨sb, o, e, _, hr⟩ := unhide HC (by omega)
        subst e
        have c5 : wr.cell? ⟨sb, o + i * 6 + 5, none⟩ = some (.string (os i).s) := hr i hlt 5 _ rfl
        have hsz := unhide HS i hlt
        obtain ⟨S, hS⟩ : ∃ S, (os i).s = S := ⟨_, rfl⟩
        rw [hS] at c5 hsz
        have hls : IntKind.i64.wrap (S.size : Int) = (S.size : Int) := i64_big _ (by omega) (by omega)
        have hsum : IntKind.i64.wrap ((n : Int) + (S.size : Int)) = (n : Int) + (S.size : Int) := i64_big _ (by omega) (by omega)
        have HSS := hide hS
        clear hr hS
        by_cases hbig : n + S.size ≤ 65536
        · have hdb : decide ((65536 : Int) < (n : Int) + (S.size : Int)) = false := decide_eq_false (by omega)
          go_wp2_with fail
          go_roundw
          case rel =>
            refine ⟨i + 1, n + S.size, by omega, hbig, by go_num, by go_num, trivial, fun j hj => ?_⟩
            by_cases e : j = i
            · rw [e, unhide HSS]; omega
            · exact unhide HG j (by omega)
          case measure => simp [intOf]; omega
        · have hdb : decide ((65536 : Int) < (n : Int) + (S.size : Int)) = true := decide_eq_true (by omega)
          go_wp2
          go_ret
          exact ⟨rfl, false, rfl, fun e => by cases e⟩
      · have hdl : decide ((i : Int) < (N : Int)) = false := decide_eq_false (by omega)
        have hdl' : decide (i < N) = false := decide_eq_false hlt
        go_wp2
        go_ret
        exact ⟨rfl, true, rfl, fun _ => ⟨h0, fun j hj => unhide HG j (by omega)⟩⟩
  · have hd : decide ((65536 : Int) < (N : Int)) = true := decide_eq_true (by omega)
    have hd' : decide (65536 < N) = true := decide_eq_true (by omega)
    go_wp2
    go_ret
    exact ⟨rfl, false, rfl, fun e => by cases e⟩
end Go.Proofs.YtandblanpafjoaaGreatDoor

