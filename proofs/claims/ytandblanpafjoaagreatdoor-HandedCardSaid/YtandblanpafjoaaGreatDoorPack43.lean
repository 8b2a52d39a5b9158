import Derived.Test.YtandblanpafjoaaGreatDoorPack42
namespace Go.Proofs.YtandblanpafjoaaGreatDoor
open Go.RowKit Go.Extern.Stop Go.Stop Go.Extern
theorem nil_bytes (w : World) : (binOp .eql 46 (.slice none 0 0) (.slice none 0 0)).run Tryz.prog w = .ok (.bool true) w := by kernel_rfl
theorem mine_to {w w1 w' : World} {lo lo' : Nat → LR} {g : Nat} (hb : Below w.heap.size w w1) (hg : w.heap.size ≤ g) (ho : ∀ j, j < w1.heap.size → j ≠ g → lo' j ≠ .none → lo j ≠ .none) (hc : Chg (fun j => lo j ≠ .none ∨ j = g) w1 w') : LTo w lo w' lo' :=
  ⟨(Chg.ofBelow hb).trans hc (fun x hx e => e.elim id (fun e => by omega)), fun k hk hne => ho k (by have := hb.size; omega) (by omega) hne⟩
set_option maxRecDepth 10000 in
set_option maxHeartbeats 4000000 in
theorem lmem_any (wb n i : Nat) (p : Int) (nsv outv : Value) (lo : Nat → LR) (ps : Nat → LN) (outs : List Value) (w : World) (hgL : Laid w) (h : LawAt w lo wb nsv outv n ps outs) (hi : i < n) (hol : outs.length ≤ 1000000000000) :
    Calls Tryz.prog 19 #[.pointer (some ⟨wb, 0, none⟩), .agg #[.pointer (some ⟨(ps i).g, 0, none⟩), .pointer (some ⟨(ps i).nb, 0, none⟩)], .int .i64 p] w fun e w' => e = .returned (.bool true) ∧ ∃ lo' outv' outs', LawAt w' lo' wb nsv outv' n ps outs' ∧ LTo w lo w' lo' ∧ outs'.length ≤ outs.length + 1 := by
  obtain ⟨g, hg⟩ : ∃ x, (ps i).g = x := ⟨_, rfl⟩
  obtain ⟨nb, hnb⟩ : ∃ x, (ps i).nb = x := ⟨_, rfl⟩
  obtain ⟨m, hm⟩ : ∃ x, (ps i).m = x := ⟨_, rfl⟩
  have hBo := h.pairs i hi
  rw [hg, hnb, hm] at hBo
  rw [hg, hnb]
  have HL := hide h
  have hwl := h.blk.lt
  clear h hg hnb hm
  obtain ⟨pv, pb, F, ro, hN, hR, _, _⟩ := hBo
  have bB : Below w.heap.size w (w.alloc (.cells #[.pointer (some ⟨g, 0, none⟩), .pointer (some ⟨nb, 0, none⟩)] 38)) := (Below.refl _ w).alloc (Nat.le_refl _) _
  have xB : Blk (w.alloc (.cells #[.pointer (some ⟨g, 0, none⟩), .pointer (some ⟨nb, 0, none⟩)] 38)) w.heap.size #[.pointer (some ⟨g, 0, none⟩), .pointer (some ⟨nb, 0, none⟩)] 38 := Blk.new _ _ _
  have hL1 := hgL.below hgL.lt bB
  have hok := hN.rok
  replace hN := hN.below bB
  replace hR := hR.below bB
  go_enter Tryz.func19, Tryz.ntmps19
  go_upto_region 1 with fail
  generalize w.alloc (.cells #[.pointer (some ⟨g, 0, none⟩), .pointer (some ⟨nb, 0, none⟩)] 38) = W at *
  have x0 : W.cell? ⟨w.heap.size, 0, none⟩ = some (.pointer (some ⟨g, 0, none⟩)) := xB.cell 0
  have HB := hide (And.intro bB xB)
  have hxl := xB.lt
  have HD := hide hR
  clear bB xB hR
  by_cases hp : NoP m p
  · have hcall := ppmem_bad g p pv pb F m W hL1 hN hp
    have hno := noP_is hp
    have HNO := hide hno
    have hnn := nil_bytes
    clear hp hN hno
    go_wp2_with fail
    refine hcall.mono ?_
    clear hcall
    rintro e w2 ⟨rfl, hb2⟩
    have hic := ris_any nb p ro m w2 ((unhide HD).below hb2)
    rw [unhide HNO] at hic
    have x1 : w2.cell? ⟨w.heap.size, 1, none⟩ = some (.pointer (some ⟨nb, 0, none⟩)) := (hb2.cell (p := ⟨w.heap.size, 1, none⟩) hxl).trans ((unhide HB).2.cell 1)
    have H2 := hide hb2
    clear x0 hb2
    go_wp2_with fail
    refine hic.mono ?_
    clear hic
    rintro e w3 ⟨rfl, rfl⟩
    go_wp2
    go_ret
    have z := (unhide HB).1.trans ((unhide H2).mono (unhide HB).1.size)
    exact ⟨rfl, lo, outv, outs, (unhide HL).below z, LTo.ofBelow z, by omega⟩
  · obtain ⟨q, rfl, hq⟩ := isP hp
    clear hp
    have his := isP_is hq
    have hcall := ppmem_any g q pv pb F m W hN hq
    have hfr := (hok.ok q hq).frame
    have hln := stF_len hok.n4 (insM (m.peers q) m.players) (m.peers q).frame
    have hkk := hok.ok q hq
    have HK := hide hkk
    obtain ⟨st, hst⟩ : ∃ x, stF m.players (insM (m.peers q) m.players) (m.peers q).frame = x := ⟨_, rfl⟩
    rw [hst] at hcall hln
    have HST := hide hst
    clear hN hkk hst hok
    go_wp2_with fail
    refine hcall.mono ?_
    clear hcall
    rintro e w2 ⟨g2, rfl, hg2, hB2, hb2⟩
    have hR2 := (unhide HD).below hb2
    have hic := ris_any nb (q : Int) ro m w2 hR2
    rw [his] at hic
    have hfc := rframeOf_any nb q ro m w2 hR2 hq
    have hsc := rstate_any nb q (m.peers q).frame ro m w2 hR2 hq (unhide HK) (by omega)
    rw [unhide HST] at hsc
    have x1 : w2.cell? ⟨w.heap.size, 1, none⟩ = some (.pointer (some ⟨nb, 0, none⟩)) := (hb2.cell (p := ⟨w.heap.size, 1, none⟩) hxl).trans ((unhide HB).2.cell 1)
    have hz2 := hb2.size
    have H2 := hide (And.intro hb2 hB2)
    clear x0 hb2 hR2 hB2
    go_wp2_with fail
    refine hic.mono ?_
    clear hic
    rintro e w3 ⟨rfl, rfl⟩
    go_wp2_with fail
    refine hfc.mono ?_
    clear hfc
    rintro e w4 ⟨rfl, rfl⟩
    go_wp2_with fail
    refine hsc.mono ?_
    clear hsc
    rintro e w5 ⟨g5, rfl, hg5, hB5, hb5⟩
    have hB25 : Blk w5 g2 (nums .u8 st) 5 := (hb5.block _ (unhide H2).2.lt).trans (unhide H2).2
    have hv1 := conv_str g2 0 288 288 st w5 hln (fun j hj => by rw [Nat.zero_add]; exact hB25.num j (by omega))
    have hv2 := conv_str g5 0 288 288 st w5 hln (fun j hj => by rw [Nat.zero_add]; exact hB5.num j (by omega))
    have z1 := (unhide HB).1
    have z2 := z1.trans ((unhide H2).1.mono z1.size)
    have z5 : Below w.heap.size w w5 := z2.trans (hb5.mono z2.size)
    have hzW := z1.size
    have hmc := lmine_any wb n g2 288 288 nsv outv lo ps outs _ w5 ((unhide HL).below z5) hB25 (by rw [nums_size, hln]) (Nat.le_refl _) (by unfold maxLen; omega) (Classical.byContradiction fun e => by have := (unhide HL).lt g2 e; omega) (by omega) hol
    have H5 := hide z5
    clear hB5 hb5 hB25 z1 z2 z5 x1
    generalize strOfNums st = ss at *
    go_wp2_with fail
    refine hmc.mono ?_
    clear hmc
    rintro e w6 ⟨rfl, lo', outv', hA', ho', hc'⟩
    have H6 := hide (And.intro hA' (mine_to (unhide H5) (by omega) ho' hc'))
    clear hA' ho' hc'
    go_wp2
    go_ret
    exact ⟨rfl, lo', outv', _, (unhide H6).1, (unhide H6).2, by simp⟩
end Go.Proofs.YtandblanpafjoaaGreatDoor

