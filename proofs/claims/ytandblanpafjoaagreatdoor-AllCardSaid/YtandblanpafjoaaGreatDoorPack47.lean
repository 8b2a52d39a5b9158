import Derived.Test.YtandblanpafjoaaGreatDoorPack43
import Derived.Test.YtandblanpafjoaaGreatDoorPack46
import Derived.Test.YtandblanpafjoaaGreatDoorPack41
import Derived.Test.YtandblanpafjoaaGreatDoorPack17
import Derived.Test.YtandblanpafjoaaGreatDoorPack42
namespace Go.Proofs.YtandblanpafjoaaGreatDoor
open Go.RowKit Go.Extern.Stop Go.Stop Go.Extern
theorem LawAt.aside {w w' : World} {lo : Nat → LR} {wb n g : Nat} {nsv outv : Value} {ps : Nat → LN} {outs : List Value} (h : LawAt w lo wb nsv outv n ps outs) (hc : Chg (fun j => j = g) w w') (hg : lo g = .none) : LawAt w' lo wb nsv outv n ps outs := by
  have K : LKeep lo lo (fun _ => False) w w' := fun k hk hne => ⟨rfl, fun _ => hc.block k hk (fun e => hne (by rw [e]; exact hg))⟩
  exact { lt := fun k hk => Nat.lt_of_lt_of_le (h.lt k hk) hc.size, pos := h.pos, blk := h.blk.chg hc (fun e => by have h1 := h.rb; rw [show wb = g from e, hg] at h1; cases h1), rb := h.rb, ns := (K.own h.ns h.rn (by simp) (by simp)).1, rn := h.rn, out := (K.own h.out h.ro (by simp) (by simp)).1, ro := h.ro, byt := fun v hv => K.byt (h.byt v hv) (by simp), pairs := fun i hi => (K.both hc.size (h.pairs i hi) (h.rp i · hi) (by simp)).1, rp := h.rp }
set_option maxHeartbeats 800000 in
theorem nnow_any (g : Nat) (pv : Value) (pb : Nat → Nat) (F : Nat → Prop) (m : NetM) (w : World) (h : NetQ w g pv pb F m) :
    Calls Tryz.prog 54 #[.pointer (some ⟨g, 0, none⟩)] w fun e w' => e = .returned (.int .i64 (m.now : Int)) ∧ w' = w := by
  have c2 : w.cell? ⟨g, 2, none⟩ = some (.int .i64 (m.now : Int)) := by
    obtain ⟨lv, wv, bl, l, Fp, hN, _⟩ := h
    exact hN.wire.blk.cell 2
  clear h
  have hin : Calls Tryz.prog 77 #[.pointer (some ⟨g, 1, none⟩)] w fun e w' => e = .returned (.int .i64 (m.now : Int)) ∧ w' = w := by
    go_enter Tryz.func77, Tryz.ntmps77
    go_wp2
    go_ret
    exact ⟨rfl, rfl⟩
  clear c2
  go_enter Tryz.func54, Tryz.ntmps54
  go_wp2_with fail
  refine hin.mono ?_
  clear hin
  rintro e w1 ⟨rfl, rfl⟩
  go_wp2
  go_ret
  exact ⟨rfl, rfl⟩
theorem Tryz.zeroFlR (w : World) : (zeroValue 91).run Tryz.prog w = .ok (.agg #[.int .i64 0, .int .i64 0, .slice none 0 0]) w := by kernel_rfl
theorem Tryz.sizeFlR : (Tryz.prog.info? 91).map (·.size) = some 3 := by kernel_rfl
set_option maxRecDepth 10000 in
set_option maxHeartbeats 8000000 in
theorem lflown_any (wb n i : Nat) (nsv outv : Value) (lo : Nat → LR) (ps : Nat → LN) (outs : List Value) (w : World) (h : LawAt w lo wb nsv outv n ps outs) (hi : i < n) (hs : (ps i).m.sent ≤ 900000) (hfl : (ps i).m.flights.length ≤ 1000000) (hol : outs.length ≤ 900000000000) :
    Calls Tryz.prog 22 #[.pointer (some ⟨wb, 0, none⟩), .agg #[.pointer (some ⟨(ps i).g, 0, none⟩), .pointer (some ⟨(ps i).nb, 0, none⟩)]] w fun e w' => e = .returned (.bool true) ∧ ∃ lo' outv' outs', LawAt w' lo' wb nsv outv' n ps outs' ∧ LTo w lo w' lo' ∧ outs'.length ≤ outs.length + 1000000 := by
  obtain ⟨g, hg⟩ : ∃ x, (ps i).g = x := ⟨_, rfl⟩
  obtain ⟨nb, hnb⟩ : ∃ x, (ps i).nb = x := ⟨_, rfl⟩
  obtain ⟨m, hm⟩ : ∃ x, (ps i).m = x := ⟨_, rfl⟩
  have hBo := h.pairs i hi
  rw [hg, hnb, hm] at hBo
  rw [hm] at hs hfl
  rw [hg, hnb]
  have HL := hide h
  have hwl := h.blk.lt
  clear h hg hnb hm
  obtain ⟨pv, pb, F, ro, hN, ⟨L, hR⟩, _, _⟩ := hBo
  have bB : Below w.heap.size w (w.alloc (.cells #[.pointer (some ⟨g, 0, none⟩), .pointer (some ⟨nb, 0, none⟩)] 38)) := (Below.refl _ w).alloc (Nat.le_refl _) _
  have xB : Blk (w.alloc (.cells #[.pointer (some ⟨g, 0, none⟩), .pointer (some ⟨nb, 0, none⟩)] 38)) w.heap.size #[.pointer (some ⟨g, 0, none⟩), .pointer (some ⟨nb, 0, none⟩)] 38 := Blk.new _ _ _
  replace hN := hN.below bB
  replace hR := hR.below bB
  have hzs : (outM m.flights).length ≤ 1000000 := by rw [(outM_perm m.flights).length_eq]; exact hfl
  have hmem : ∀ f, f ∈ outM m.flights → f ∈ m.flights := fun f hf => (outM_perm m.flights).mem_iff.1 hf
  obtain ⟨zs, hzz⟩ : ∃ zs, outM m.flights = zs := ⟨_, rfl⟩
  have hc1 := nflights_any g pv pb F m (w.alloc (.cells #[.pointer (some ⟨g, 0, none⟩), .pointer (some ⟨nb, 0, none⟩)] 38)) hN hs
  rw [hzz] at hzs hmem hc1
  have HZZ := hide hzz
  have HMM := hide hmem
  clear hzz hmem
  go_enter Tryz.func22, Tryz.ntmps22
  go_upto_region 1 with fail
  generalize w.alloc (.cells #[.pointer (some ⟨g, 0, none⟩), .pointer (some ⟨nb, 0, none⟩)] 38) = W at *
  have x0 : W.cell? ⟨w.heap.size, 0, none⟩ = some (.pointer (some ⟨g, 0, none⟩)) := xB.cell 0
  have hxl := xB.lt
  have HB := hide (And.intro bB (And.intro xB (And.intro hN hR)))
  clear bB xB hN hR
  go_wp2_with fail
  refine hc1.mono ?_
  clear hc1
  rintro e w2 ⟨fb, cl, cc, rfl, hfb, hFl, hb2⟩
  have hc2 := rflights_any nb ro m L w2 ((unhide HB).2.2.2.below hb2) hfl
  rw [unhide HZZ] at hc2
  have y1 : w2.cell? ⟨w.heap.size, 1, none⟩ = some (.pointer (some ⟨nb, 0, none⟩)) := (hb2.cell (p := ⟨w.heap.size, 1, none⟩) hxl).trans ((unhide HB).2.1.cell 1)
  have hz2 := hb2.size
  have H2 := hide (And.intro hFl hb2)
  clear hFl hb2 x0
  go_wp2_with fail
  refine hc2.mono ?_
  clear hc2
  rintro e w3 ⟨v, rfl, hv3, hb3⟩
  obtain ⟨va, vc, hvv⟩ := own_nil hv3
  subst hvv
  have b23 : Below W.heap.size W w3 := (unhide H2).2.trans (hb3.mono hz2)
  have hc3 := nnow_any g pv pb F m w3 ((unhide HB).2.2.1.below b23)
  have xB3 : Blk w3 w.heap.size #[.pointer (some ⟨g, 0, none⟩), .pointer (some ⟨nb, 0, none⟩)] 38 := (b23.block _ hxl).trans (unhide HB).2.1
  have p0 : w3.cell? ⟨w.heap.size, 0, none⟩ = some (.pointer (some ⟨g, 0, none⟩)) := xB3.cell 0
  have p1 : w3.cell? ⟨w.heap.size, 1, none⟩ = some (.pointer (some ⟨nb, 0, none⟩)) := xB3.cell 1
  have hR3 := (unhide HB).2.2.2.below b23
  have p7 : w3.cell? ⟨nb, 7, none⟩ = some (.int .i64 (m.now : Int)) := hR3.cell 7
  have bw3 : Below w.heap.size w w3 := (unhide HB).1.trans (b23.mono (unhide HB).1.size)
  have hFl3 := (unhide H2).1.below hb3
  have H3 := hide (And.intro hv3 (And.intro hR3 (And.intro hFl3 (And.intro bw3 ((unhide HB).1.size)))))
  have hz3 := hb3.size
  clear hv3 hb3 b23 xB3 hR3 bw3 hFl3 y1
  go_wp2_with fail
  refine hc3.mono ?_
  clear hc3
  rintro e w3' ⟨rfl, rfl⟩
  obtain ⟨X, hX⟩ : ∃ x, x = w3' := ⟨_, rfl⟩
  subst hX
  have hlw : IntKind.i64.wrap (zs.length : Int) = (zs.length : Int) := i64_id _ (by omega) (by omega)
  go_wp2_with fail
  clear p0 p1 p7
  go_loopw [8] (fun s8 wr => ∃ k : Nat, k ≤ zs.length ∧ s8 = .int .i64 (k : Int) ∧ Below X.heap.size X wr) (fun s8 _ => zs.length - (intOf s8).toNat)
  case atStart => exact ⟨0, by omega, rfl, Below.refl _ _⟩
  case round =>
    obtain ⟨k, hk, rfl, hbr⟩ := hrel
    obtain ⟨Y, hY⟩ : ∃ x, x = wr := ⟨_, rfl⟩
    subst hY
    by_cases hlt : k < zs.length
    · have hd : decide ((k : Int) < (zs.length : Int)) = true := by simp; omega
      have hd2 : decide (k < zs.length) = true := by simp; omega
      have hadd := i64_id ((k : Int) + 1) (by omega) (by omega)
      have k0 : (0 : Int) ≤ (k : Int) := by omega
      have k1 : (k : Int) < (zs.length : Int) := by omega
      obtain ⟨hv3, hR3, hFl3, bw3, _⟩ := unhide H3
      have hvr : Y.ownsRow w2.heap.size 91 3 (.slice va zs.length vc) zs.length (rous L zs) := owns_same hv3 (fun q hq => hbr.block q (hv3.lt q hq).2)
      obtain ⟨vb, vcap, hv, _, _, _⟩ := own4_some hvr (by omega)
      injection hv with e1 _ e3
      subst e1
      subst e3
      have hFr := hFl3.below hbr
      have hRr := hR3.below hbr
      obtain ⟨l0, l1, l2⟩ := hFr.cells k hlt
      have v0 : Y.cell? ⟨vb, k * 3, none⟩ = some (.int .i64 ((fl zs k).to : Int)) := by rw [hvr.cellAt (k * 3) (by omega)]; exact rous_get L zs k 0 hlt (by omega)
      have v1 : Y.cell? ⟨vb, k * 3 + 1, none⟩ = some (.int .i64 ((fl zs k).due : Int)) := by rw [hvr.cellAt (k * 3 + 1) (by omega)]; exact rous_get L zs k 1 hlt (by omega)
      have v2 : Y.cell? ⟨vb, k * 3 + 2, none⟩ = some (L.fb (fl zs k).num) := by rw [hvr.cellAt (k * 3 + 2) (by omega)]; exact rous_get L zs k 2 hlt (by omega)
      have hxm : fl zs k ∈ m.flights := unhide HMM _ (getD_mem zs k hlt)
      obtain ⟨bg, bc, hbv, hbc, hbytes, hbgl, _⟩ := hRr.bytes _ hxm
      rw [hbv] at v2
      have hcv1 : ∀ q, (convert 46 9 (.slice (some ⟨cl k, 0, none⟩) (fl zs k).bytes.length (cc k))).run Tryz.prog (Y.drewN q) = .ok (.string (strOfNums (fl zs k).bytes)) (Y.drewN q) := fun q => conv_str (cl k) 0 _ (cc k) _ _ rfl (fun j hj => by rw [Nat.zero_add]; exact hFr.byte k j hlt hj)
      have hcv2 : ∀ q, (convert 46 9 (.slice (some ⟨bg, 0, none⟩) (fl zs k).bytes.length bc)).run Tryz.prog (Y.drewN q) = .ok (.string (strOfNums (fl zs k).bytes)) (Y.drewN q) := fun q => conv_str bg 0 _ bc _ _ rfl (fun j hj => by rw [Nat.zero_add]; exact hbytes j hj)
      have hcv3 : (convert 46 9 (.slice (some ⟨cl k, 0, none⟩) (fl zs k).bytes.length (cc k))).run Tryz.prog Y.drew = .ok (.string (strOfNums (fl zs k).bytes)) Y.drew := hcv1 1
      have hcv4 : (convert 46 9 (.slice (some ⟨bg, 0, none⟩) (fl zs k).bytes.length bc)).run Tryz.prog Y.drew = .ok (.string (strOfNums (fl zs k).bytes)) Y.drew := hcv2 1
      have hcv5 : (convert 46 9 (.slice (some ⟨cl k, 0, none⟩) (fl zs k).bytes.length (cc k))).run Tryz.prog Y = .ok (.string (strOfNums (fl zs k).bytes)) Y := hcv1 0
      have hcv6 : (convert 46 9 (.slice (some ⟨bg, 0, none⟩) (fl zs k).bytes.length bc)).run Tryz.prog Y = .ok (.string (strOfNums (fl zs k).bytes)) Y := hcv2 0
      unfold clV at l2
      obtain ⟨x, hx⟩ : ∃ x, fl zs k = x := ⟨_, rfl⟩
      rw [hx] at l0 l1 l2 v0 v1 v2 hcv1 hcv2 hcv3 hcv4 hcv5 hcv6
      obtain ⟨ss, hss⟩ : ∃ ss, strOfNums x.bytes = ss := ⟨_, rfl⟩
      rw [hss] at hcv1 hcv2 hcv3 hcv4 hcv5 hcv6
      have HBR := hide hbr
      clear hv3 hR3 hFl3 bw3 hvr hFr hRr hxm hbv hbc hbytes hbgl hbr hx hss
      go_upto_region 9 with fail
      go_quiet (fail)
      go_wp2_with fail
      go_roundw
      case rel => exact ⟨k + 1, by omega, by go_num, (unhide HBR).trans ⟨rfl, rfl, rfl, Nat.le_refl _, fun _ _ => rfl⟩⟩
      case measure => simp [intOf]; omega
    · have hd : decide ((k : Int) < (zs.length : Int)) = false := by simp; omega
      have hd2 : decide (k < zs.length) = false := by simp; omega
      obtain ⟨hv3, hR3, hFl3, bw3, hzW⟩ := unhide H3
      have bwY : Below w.heap.size w Y := bw3.trans (hbr.mono bw3.size)
      have hFY := hFl3.below hbr
      have hAY := (unhide HL).below bwY
      have HY := hide (And.intro bwY (And.intro hFY hAY))
      clear hv3 hR3 hFl3 bw3 bwY hFY hAY hbr
      go_wp2_with fail
      go_loopw [9] (fun s9 wr => ∃ (k : Nat) (lo2 : Nat → LR) (outv2 : Value) (outs2 : List Value), k ≤ zs.length ∧ s9 = .int .i64 (k : Int) ∧ LawAt wr lo2 wb nsv outv2 n ps outs2 ∧ outs2.length = outs.length + k ∧ LTo w lo wr lo2 ∧ Y.heap.size ≤ wr.heap.size ∧ lo2 fb = .none ∧ wr.heap[fb]? = Y.heap[fb]? ∧ ∀ j, k ≤ j → j < zs.length → lo2 (cl j) = .none ∧ wr.heap[cl j]? = Y.heap[cl j]?) (fun s9 _ => zs.length - (intOf s9).toNat)
      case atStart =>
        obtain ⟨bwY, hFY, hAY⟩ := unhide HY
        have hnone : ∀ q, w.heap.size ≤ q → lo q = .none := fun q hq => Classical.byContradiction fun e => by have := (unhide HL).lt q e; omega
        exact ⟨0, lo, outv, outs, by omega, rfl, hAY, by omega, LTo.ofBelow bwY, Nat.le_refl _, hnone fb (by omega), rfl, fun j _ hj => ⟨hnone _ (by have := (hFY.lt j hj).1; omega), rfl⟩⟩
      case round =>
        obtain ⟨V, hV⟩ : ∃ x, x = wr := ⟨_, rfl⟩
        subst hV
        obtain ⟨k2, lo2, outv2, outs2, hk2, rfl, hA2, hol2, hT2, hz2', hlf, hbf, hcl⟩ := hrel
        obtain ⟨bwY, hFY, hAY⟩ := unhide HY
        obtain ⟨csf, hBf, hszf, hrf⟩ := hFY.blk
        have hfl' : fb < Y.heap.size := hBf.lt
        have hBfV : Blk V fb csf 91 := hbf.trans hBf
        by_cases hlt2 : k2 < zs.length
        · have hd3 : decide ((k2 : Int) < (zs.length : Int)) = true := by simp; omega
          have hd4 : decide (k2 < zs.length) = true := by simp; omega
          have hadd := i64_id ((k2 : Int) + 1) (by omega) (by omega)
          have k0 : (0 : Int) ≤ (k2 : Int) := by omega
          have k1 : (k2 : Int) < (zs.length : Int) := by omega
          have l2 : V.cell? ⟨fb, k2 * 3 + 2, none⟩ = some (clV cl cc zs k2) := (hBfV.cell _).trans (hrf k2 hlt2).2.2
          obtain ⟨cur, hcs, hcm, hlc, hBc⟩ := own_row (hFY.own k2 hlt2)
          have hBcV : Blk V (cl k2) cur 5 := (hcl k2 (Nat.le_refl _) hlt2).2.trans hBc
          have hclge := hFY.lt k2 hlt2
          have hmc := lmine_any wb n (cl k2) (fl zs k2).bytes.length (cc k2) nsv outv2 lo2 ps outs2 cur V hA2 hBcV hcs hlc hcm (hcl k2 (Nat.le_refl _) hlt2).1 (by omega) (by omega)
          have hap := hFY.apart
          have hof := hFY.off
          have hge := fun j (hj : j < zs.length) => hFY.lt j hj
          have H5 := hide (And.intro hT2 (And.intro hlf (And.intro hbf (And.intro hcl (And.intro hap (And.intro hof hge))))))
          unfold clV at l2
          clear hA2 hT2 hlf hbf hcl bwY hFY hAY hBf hrf hBfV hcs hcm hlc hBc hBcV hap hof hge
          go_wp2_with fail
          refine hmc.mono ?_
          clear hmc
          rintro e w6 ⟨rfl, lo6, outv6, hA6, ho6, hc6⟩
          have H6 := hide (And.intro hA6 (And.intro ho6 hc6))
          clear hA6 ho6 hc6
          go_wp2_with fail
          go_roundw
          case rel =>
            obtain ⟨hT2, hlf, hbf, hcl, hap, hof, hge⟩ := unhide H5
            obtain ⟨hA6, ho6, hc6⟩ := unhide H6
            have hfbV : fb < V.heap.size := by omega
            refine ⟨k2 + 1, lo6, outv6, _, by omega, by go_num, hA6, by simp; omega, ⟨hT2.chg.trans hc6 (fun x hx e => e.elim (fun e => hT2.old x hx e) (fun e => by have := (hge k2 hlt2).1; omega)), fun x hx hne => hT2.old x hx (ho6 x (by have := hT2.chg.size; omega) (by have := (hge k2 hlt2).1; omega) hne)⟩, by have := hc6.size; omega, Classical.byContradiction fun e => ho6 fb hfbV (Ne.symm (hof k2 hlt2)) e hlf, (hc6.block fb hfbV (fun e => e.elim (fun e => e hlf) (fun e => hof k2 hlt2 e.symm))).trans hbf, fun j hj1 hj2 => ?_⟩
            have hne : cl j ≠ cl k2 := fun e => by have := hap j k2 hj2 hlt2 e; omega
            obtain ⟨q1, q2⟩ := hcl j (by omega) hj2
            have hjl : cl j < V.heap.size := by have := (hge j hj2).2; omega
            exact ⟨Classical.byContradiction fun e => ho6 _ hjl hne e q1, (hc6.block _ hjl (fun e => e.elim (fun e => e q1) hne)).trans q2⟩
          case measure => simp [intOf]; omega
        · have hd3 : decide ((k2 : Int) < (zs.length : Int)) = false := by simp; omega
          have hd4 : decide (k2 < zs.length) = false := by simp; omega
          have H5 := hide (And.intro hA2 (And.intro hT2 (And.intro hlf (And.intro hBfV hszf))))
          have hzf := Tryz.zeroFlR
          have hol3 : outs2.length ≤ outs.length + 1000000 := by omega
          clear hA2 hT2 hlf hbf hcl bwY hFY hAY hBf hrf hBfV hszf hol2
          go_wp2_with fail
          go_loopw [11] (fun s11 wr => ∃ (k : Nat) (cs : Array Value), k ≤ zs.length ∧ s11 = .int .i64 (k : Int) ∧ Chg (fun j => j = fb) V wr ∧ Blk wr fb cs 91 ∧ cs.size = zs.length * 3) (fun s11 _ => zs.length - (intOf s11).toNat)
          case atStart => exact ⟨0, csf, by omega, rfl, Chg.refl _ _, (unhide H5).2.2.2.1, (unhide H5).2.2.2.2⟩
          case round =>
            obtain ⟨k3, cs, hk3, rfl, hch, hB, hsz⟩ := hrel
            by_cases hlt3 : k3 < zs.length
            · have hd5 : decide ((k3 : Int) < (zs.length : Int)) = true := by simp; omega
              have hd6 : decide (k3 < zs.length) = true := by simp; omega
              have hadd := i64_id ((k3 : Int) + 1) (by omega) (by omega)
              have k0 : (0 : Int) ≤ (k3 : Int) := by omega
              have k1 : (k3 : Int) < (zs.length : Int) := by omega
              have hth : wr.there fb (k3 * 3) 3 := hB.there (by omega)
              have hB' := hB.setCells (#[.int .i64 77, .int .i64 0, .slice none 0 0] : Array Value).toList (k3 * 3)
              have HR := hide (And.intro hch (And.intro hB' hsz))
              clear hch hB hsz hB'
              go_wp2_with (refine wpList_store_mid rfl 91 _ _ rfl fb (k3 * 3) #[.int .i64 77, .int .i64 0, .slice none 0 0] rfl rfl hth Tryz.sizeFlR (by simp [Value.oneCell']) ?_)
              go_roundw
              case rel =>
                obtain ⟨hch, hB', hsz⟩ := unhide HR
                exact ⟨k3 + 1, _, by omega, by go_num, hch.thenCells fb (k3 * 3) _ rfl, hB', by rw [putA_toList]; exact hsz⟩
              case measure => simp [intOf]; omega
            · have hd5 : decide ((k3 : Int) < (zs.length : Int)) = false := by simp; omega
              have hd6 : decide (k3 < zs.length) = false := by simp; omega
              have HR := hide hch
              clear hch hB hsz
              go_wp2
              go_ret
              obtain ⟨hA2, hT2, hlf, _, _⟩ := unhide H5
              have hch := unhide HR
              exact ⟨rfl, lo2, outv2, outs2, hA2.aside hch hlf, ⟨hT2.chg.trans hch (fun x hx e => by have : x = fb := e; omega), hT2.old⟩, hol3⟩
end Go.Proofs.YtandblanpafjoaaGreatDoor

namespace Go.Proofs.YtandblanpafjoaaGreatDoor
open Go.RowKit Go.Extern.Stop Go.Stop Go.Extern
theorem strOf_len (l : List Int) : (strOfNums l).size = l.length := strOfNums_size l
theorem src_own {w : World} {base : Nat} {ao : Option Addr} {n c : Nat} {l : List Int} (h : w.ownsRow base 5 1 (.slice ao n c) n (l.map (Value.int .u8))) : l.length = n ∧ (ao = none → c = 0) ∧ SrcAt w ao l := by
  have hl : l.length = n := by have := h.1; simpa using this
  rcases h.2 with ⟨h1, h2⟩ | ⟨g, cap, cur, h1, _⟩
  · injection h1 with e1 _ e3
    exact ⟨hl, fun _ => e3, .inl ⟨e1, List.length_eq_zero_iff.1 (by omega)⟩⟩
  · injection h1 with e1 _ e3
    subst e1
    refine ⟨hl, (fun e => by cases e), .inr ⟨g, 0, rfl, (h.lt g rfl).2, fun j hj => ?_⟩⟩
    rw [Nat.zero_add, h.cellAt j (by omega), List.getElem?_map, List.getElem?_eq_getElem hj, List.getD_eq_getElem?_getD, List.getElem?_eq_getElem hj]; rfl
set_option maxRecDepth 10000 in
set_option maxHeartbeats 8000000 in
theorem lbytes_any (g nb : Nat) (k t : Int) (f : Nat → Prop) (m : NetM) (w : World) (h : Both w g nb f m) (hk : -9223372036854775808 ≤ k ∧ k ≤ 9223372036854775807) (ht : -9223372036854775808 ≤ t ∧ t ≤ 9223372036854775807) (hfl : m.flights.length ≤ 1000000) :
    Calls Tryz.prog 18 #[.agg #[.pointer (some ⟨g, 0, none⟩), .pointer (some ⟨nb, 0, none⟩)], .int .i64 k, .int .i64 t] w fun e w' => ∃ s, e = .returned (.string s) ∧ s.size ≤ 70000 ∧ Below w.heap.size w w' := by
  obtain ⟨pv, pb, F, ro, hN, ⟨L, hR⟩, _, _⟩ := h
  have hok := hN.rok
  have bB : Below w.heap.size w (w.alloc (.cells #[.pointer (some ⟨g, 0, none⟩), .pointer (some ⟨nb, 0, none⟩)] 38)) := (Below.refl _ w).alloc (Nat.le_refl _) _
  have xB : Blk (w.alloc (.cells #[.pointer (some ⟨g, 0, none⟩), .pointer (some ⟨nb, 0, none⟩)] 38)) w.heap.size #[.pointer (some ⟨g, 0, none⟩), .pointer (some ⟨nb, 0, none⟩)] 38 := Blk.new _ _ _
  replace hR := hR.below bB
  have hzs : (outM m.flights).length ≤ 1000000 := by rw [(outM_perm m.flights).length_eq]; exact hfl
  have hmem : ∀ x, x ∈ outM m.flights → x ∈ m.flights := fun x hx => (outM_perm m.flights).mem_iff.1 hx
  have hcall := rflights_any nb ro m L _ hR hfl
  obtain ⟨zs, hzz⟩ : ∃ zs, outM m.flights = zs := ⟨_, rfl⟩
  rw [hzz] at hzs hmem hcall
  have HMM := hide (And.intro hmem hok.fly)
  obtain ⟨i1, hi1, ha0, ha1, ha2⟩ := info_parts Tryz.infoU8
  clear hzz hmem hok hN
  go_enter Tryz.func18, Tryz.ntmps18
  go_upto_region 1 with fail
  generalize w.alloc (.cells #[.pointer (some ⟨g, 0, none⟩), .pointer (some ⟨nb, 0, none⟩)] 38) = W at *
  have x1 : W.cell? ⟨w.heap.size, 1, none⟩ = some (.pointer (some ⟨nb, 0, none⟩)) := xB.cell 1
  have HB := hide (And.intro bB hR)
  clear bB xB hR
  go_wp2_with fail
  refine hcall.mono ?_
  clear hcall
  rintro e w2 ⟨v, rfl, hv2, hb2⟩
  obtain ⟨va, vc, hvv⟩ := own_nil hv2
  subst hvv
  have bw2 : Below w.heap.size w w2 := (unhide HB).1.trans (hb2.mono (unhide HB).1.size)
  have hR2 := (unhide HB).2.below hb2
  by_cases h0 : zs.length = 0
  · have hd0 : ((zs.length : Int) == 0) = true := by rw [beq_iff_eq]; omega
    have H2 := hide bw2
    clear hv2 hb2 bw2 hR2 x1
    rw [h0]
    go_wp2
    go_ret
    exact ⟨_, rfl, by simp [ByteArray.size], unhide H2⟩
  · have hd0 : ((zs.length : Int) == 0) = false := by rw [beq_eq_false_iff_ne]; omega
    have hd0' : ((zs.length : Int) = 0) = False := by simp only [eq_iff_iff, iff_false]; omega
    have hlw : IntKind.i64.wrap (zs.length : Int) = (zs.length : Int) := i64_id _ (by omega) (by omega)
    obtain ⟨vb, vcap, hv, _, hvl, _⟩ := own4_some hv2 (Nat.pos_of_ne_zero h0)
    injection hv with e1 _ e3
    subst e1
    subst e3
    have hq := pickN_lt k zs.length (by omega)
    have hpc := pick_any k zs.length w2 hk (by omega) hzs
    obtain ⟨q, hqq⟩ : ∃ q, pickN k zs.length = q := ⟨_, rfl⟩
    rw [hqq] at hq hpc
    have v2 : w2.cell? ⟨vb, q * 3 + 2, none⟩ = some (L.fb (fl zs q).num) := by rw [hv2.cellAt (q * 3 + 2) (by omega)]; exact rous_get L zs q 2 hq (by omega)
    have hxm : fl zs q ∈ m.flights := (unhide HMM).1 _ (getD_mem zs q hq)
    obtain ⟨bg, bc, hbv, hbc, hbytes, hbgl, _⟩ := hR2.bytes _ hxm
    have hfly := (unhide HMM).2 _ hxm
    rw [hbv] at v2
    obtain ⟨l, hl⟩ : ∃ l, (fl zs q).bytes = l := ⟨_, rfl⟩
    rw [hl] at v2 hbc hbytes hfly
    have q0 : (0 : Int) ≤ (q : Int) := by omega
    have q1 : (q : Int) < (zs.length : Int) := by omega
    have hnews : ∀ j u, (l.map (Value.int .u8))[j]? = some u → w2.cell? ((⟨bg, 0, none⟩ : Addr).add j) = some u := fun j u hj => by
      have hjl : j < l.length := by have := (List.getElem?_eq_some_iff.1 hj).1; simpa using this
      rw [Addr.add_mid, Nat.zero_add, hbytes j hjl]
      rw [List.getElem?_map, List.getElem?_eq_getElem hjl] at hj
      rw [List.getD_eq_getElem?_getD, List.getElem?_eq_getElem hjl]
      simpa using hj
    have hone : ∀ u ∈ l.map (Value.int .u8), u.oneCell' = true := fun u hu => by
      obtain ⟨x, _, rfl⟩ := List.mem_map.1 hu
      rfl
    have hll : l.length ≤ 70000 := hfly.2.1
    have HN := hide (And.intro hnews hone)
    have H2 := hide bw2
    clear hv2 hb2 bw2 hR2 x1 hxm hbv hbytes hfly hnews hone hl hqq
    go_wp2_with fail
    refine hpc.mono ?_
    clear hpc
    rintro e w3 ⟨rfl, rfl⟩
    obtain ⟨X, hX⟩ : ∃ x, x = w3 := ⟨_, rfl⟩
    subst hX
    go_wp2_with (at_builtin; refine wpList_append_own_at X rfl (.tmp 16) (.tmp 24) 46 rfl 0 5 i1 (.int .u8 0) 1 1 Tryz.underlying46 hi1 ha0 ha1 ha2 rfl (by decide) (.slice none 0 0) 0 [] rfl ⟨rfl, .inl ⟨rfl, rfl⟩⟩ ⟨bg, 0, none⟩ l.length bc (l.map (Value.int .u8)) rfl (by simp) (unhide HN).1 (unhide HN).2 (by unfold maxLen; omega) (by omega) (Nat.zero_le _) ?_)
    intro v' w4 hown4 hg4 hnil4 hloc4
    obtain ⟨ba, bcap, hbv4⟩ := own_nil hown4
    subst hbv4
    have hown5 : w4.ownsRow 0 5 1 (.slice ba l.length bcap) l.length (l.map (Value.int .u8)) := by simpa using hown4
    have b4 : Below w.heap.size w w4 := (unhide H2).trans ⟨hg4.os, hg4.tape, hg4.output, hg4.size, fun j hj => hg4.block j (by have := (unhide H2).size; omega) (by simp [Value.ownBlock])⟩
    have hnew : ∀ j, (Value.slice ba l.length bcap).ownBlock = some j → X.heap.size ≤ j := fun j hj => by
      rcases hloc4 with e | e
      · rw [e] at hj; simp [Value.ownBlock] at hj
      · rw [e] at hj; injection hj with hj; omega
    have hlw2 : IntKind.i64.wrap (l.length : Int) = (l.length : Int) := i64_id _ (by omega) (by omega)
    obtain ⟨_, hc0, hsrc⟩ := src_own hown5
    have hcv := conv_src ba l.length bcap l w4 rfl hc0 hsrc
    have hsl := strOf_len l
    have HO := hide (And.intro hown5 (And.intro b4 hnew))
    clear hown4 hg4 hnil4 hloc4 hown5 b4 hnew hsrc v2
    by_cases ht0 : 0 ≤ t
    · have dt : decide (0 ≤ t) = true := by simp; omega
      by_cases hl0 : 0 < l.length
      · have dl : decide ((0 : Int) < (l.length : Int)) = true := by simp; omega
        have dl' : decide (0 < l.length) = true := by simp; omega
        have hne : ((l.length : Int) == 0) = false := by rw [beq_eq_false_iff_ne]; omega
        obtain ⟨bb, cap', hv, _, hbl, _⟩ := own_some (unhide HO).1 (by omega)
        injection hv with e1 _ e3
        subst e1
        subst e3
        obtain ⟨i, hi⟩ : ∃ i : Nat, t % (l.length : Int) = (i : Int) := ⟨(t % (l.length : Int)).toNat, by have := Int.emod_nonneg t (show (l.length : Int) ≠ 0 by omega); omega⟩
        have hil : i < l.length := by have := Int.emod_lt_of_pos t (show (0 : Int) < (l.length : Int) by omega); omega
        have htm : t.tmod (l.length : Int) = (i : Int) := by rw [Int.tmod_eq_emod_of_nonneg ht0]; exact hi
        have i0 : (0 : Int) ≤ (i : Int) := by omega
        have i1' : (i : Int) < (l.length : Int) := by omega
        have ci : w4.cell? ⟨bb, i, none⟩ = some (.int .u8 (l.getD i 0)) := by
          rw [(unhide HO).1.cellAt i (by omega), List.getElem?_map, List.getElem?_eq_getElem hil, List.getD_eq_getElem?_getD, List.getElem?_eq_getElem hil]; rfl
        have fi : w4.frozen? ⟨bb, i, none⟩ = false := (unhide HO).1.frozenAt i
        clear hcv hsl hi
        go_upto_region 8 with fail
        go_cut [] from 37 (fun wx => ∃ v : Int, wx.ownsRow 0 5 1 (.slice (some ⟨bb, 0, none⟩) l.length bcap) l.length ((l.set i v).map (Value.int .u8)) ∧ Below w.heap.size w wx)
        case first =>
          go_region
          go_wp2_with fail
          go_meet
          case rel =>
            obtain ⟨hown5, b4, hnew⟩ := unhide HO
            refine ⟨_, by rw [List.map_set]; exact (hown5.stored i _).1, ?_⟩
            exact (b4.setCell (p := ⟨bb, i, none⟩) (by show w.heap.size ≤ bb; have := hnew bb rfl; have := (unhide H2).size; omega) _).trans ⟨rfl, rfl, rfl, Nat.le_refl _, fun _ _ => rfl⟩
        case rest =>
          obtain ⟨v, hown6, b6⟩ := hcut
          obtain ⟨hlen6, hc6, hsrc6⟩ := src_own hown6
          have hcv := conv_src (some ⟨bb, 0, none⟩) l.length bcap (l.set i v) wc hlen6 hc6 hsrc6
          have hsl := strOf_len (l.set i v)
          rw [hlen6] at hsl
          have H6 := hide b6
          clear hown6 b6 hsrc6 ci fi
          generalize strOfNums (l.set i v) = ss at *
          go_wp2
          go_ret
          exact ⟨_, rfl, by omega, unhide H6⟩
      · have dl : decide ((0 : Int) < (l.length : Int)) = false := decide_eq_false (by omega)
        have dl' : decide (0 < l.length) = false := decide_eq_false hl0
        go_wp2
        go_ret
        exact ⟨_, rfl, by omega, (unhide HO).2.1⟩
    · have dt : decide (0 ≤ t) = false := by simp; omega
      go_wp2
      go_ret
      exact ⟨_, rfl, by omega, (unhide HO).2.1⟩
end Go.Proofs.YtandblanpafjoaaGreatDoor

namespace Go.Proofs.YtandblanpafjoaaGreatDoor
open Go.RowKit Go.Extern.Stop Go.Stop Go.Extern
def LSt (w : World) (lo : Nat → LR) (wb i : Nat) : Prop := ∃ nsv outv n ps outs, LawAt w lo wb nsv outv n ps outs ∧ n ≤ i ∧ outs.length ≤ i * 1000000 ∧ ∀ j, j < n → ∃ pl, pl ≤ 4 ∧ Bd (ps j).m pl (12 * i) i i
theorem LSt.laid {w w' : World} {lo lo' : Nat → LR} {wb i : Nat} (h : LSt w lo wb i) (hL : Laid w) (hT : LTo w lo w' lo') : Laid w' := by
  obtain ⟨nsv, outv, n, ps, outs, hA, _⟩ := h
  exact hA.laid hL hT.chg
theorem lst_pair {w X w' : World} {lo : Nat → LR} {wb n i q : Nat} {nsv outv : Value} {ps : Nat → LN} {outs : List Value} {m' : NetM} (h : LawAt w lo wb nsv outv n ps outs) (hb : Below w.heap.size w X) (hn : n ≤ i) (ho : outs.length ≤ i * 1000000) (hbd : ∀ j, j < n → ∃ pl, pl ≤ 4 ∧ Bd (ps j).m pl (12 * i) i i) (hq : q < n)
    (hT : BTo X (ps q).g (ps q).nb (ps q).f w' m') (hU : Up (ps q).m m') : ∃ lo', LSt w' lo' wb (i + 1) ∧ LTo w lo w' lo' := by
  obtain ⟨lo', ps', hA', hT', hm⟩ := (h.below hb).step hq hT
  refine ⟨lo', ⟨nsv, outv, n, ps', outs, hA', Nat.le_succ_of_le hn, Nat.le_trans ho (Nat.mul_le_mul_right _ (Nat.le_succ _)), fun j hj => ?_⟩, (LTo.ofBelow hb).trans hT'⟩
  obtain ⟨pl, hpl, hB⟩ := hbd j hj
  refine ⟨pl, hpl, ?_⟩
  rw [hm]
  split
  · next e => subst e; have := hU pl _ _ _ hpl hB; exact this.mono (by omega) (Nat.le_refl _) (Nat.le_refl _)
  · exact hB.mono (by omega) (by omega) (by omega)
theorem lst_same {w w' : World} {lo lo' : Nat → LR} {wb n i : Nat} {nsv outv : Value} {ps : Nat → LN} {outs' : List Value} (hA : LawAt w' lo' wb nsv outv n ps outs') (hT : LTo w lo w' lo') (hn : n ≤ i) (ho : outs'.length ≤ (i + 1) * 1000000) (hbd : ∀ j, j < n → ∃ pl, pl ≤ 4 ∧ Bd (ps j).m pl (12 * i) i i) : ∃ lo', LSt w' lo' wb (i + 1) ∧ LTo w lo w' lo' :=
  ⟨lo', ⟨nsv, outv, n, ps, outs', hA, by omega, ho, fun j hj => by obtain ⟨pl, hpl, hB⟩ := hbd j hj; exact ⟨pl, hpl, hB.mono (by omega) (by omega) (by omega)⟩⟩, hT⟩
theorem pairsC_get (ps : Nat → LN) : ∀ (n q j : Nat), q < n → j < 2 → (pairsC ps n)[q * 2 + j]? = (pairC (ps q))[j]?
  | 0, q, j, h, _ => by omega
  | n + 1, q, j, h, hj => by
    have e : pairsC ps (n + 1) = pairsC ps n ++ pairC (ps n) := by simp [pairsC, List.range_succ, List.flatMap_append]
    have hl : ∀ k, (pairsC ps k).length = k * 2 := fun k => by
      induction k with
      | zero => rfl
      | succ k ih =>
        have : pairsC ps (k + 1) = pairsC ps k ++ pairC (ps k) := by simp [pairsC, List.range_succ, List.flatMap_append]
        rw [this, List.length_append, ih]
        simp [pairC]; omega
    rw [e]
    by_cases hq : q = n
    · subst hq
      rw [List.getElem?_append_right (by rw [hl]; omega), hl, show q * 2 + j - q * 2 = j by omega]
    · rw [List.getElem?_append_left (by rw [hl]; omega)]
      exact pairsC_get ps n q j (by omega) hj
theorem Tryz.sizePair : (Tryz.prog.info? 38).map (·.size) = some 2 := by kernel_rfl
theorem Tryz.sizeOp : (Tryz.prog.info? 32).map (·.size) = some 6 := by kernel_rfl
end Go.Proofs.YtandblanpafjoaaGreatDoor

