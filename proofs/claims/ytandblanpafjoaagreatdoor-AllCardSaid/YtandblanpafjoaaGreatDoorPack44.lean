import Derived.Test.YtandblanpafjoaaGreatDoorPack37
namespace Go.Proofs.YtandblanpafjoaaGreatDoor
open Go.RowKit Go.Extern.Stop Go.Stop Go.Extern
theorem Tryz.zeroRNet (w : World) : (zeroValue 73).run Tryz.prog w = .ok (.agg #[.int .i64 0, .int .i64 0, .int .i64 0, .int .i64 0, .slice none 0 0, .slice none 0 0, .slice none 0 0, .int .i64 0, .int .i64 0]) w := by kernel_rfl
theorem Tryz.zeroRPeer (w : World) : (zeroValue 81).run Tryz.prog w = .ok (.agg #[.slice none 0 0, .int .i64 0, .slice none 0 0, .int .i64 0]) w := by kernel_rfl
theorem Tryz.infoInts : (Tryz.prog.info? 24).map (fun i => (i.zero, i.size, i.bytes)) = some (some (.slice none 0 0), 1, 24) := by kernel_rfl
theorem Tryz.infoPRP : (Tryz.prog.info? 82).map (fun i => (i.zero, i.size, i.bytes)) = some (some (.pointer none), 1, 8) := by kernel_rfl
theorem append_none (w : World) (ty : TypeId) (g : Nat) (hg : Blk w g #[] 3) : (Builtin.append_ #[24, 24] ty #[.slice (some ⟨g, 0, none⟩) 0 0, .slice none 0 0]).run Tryz.prog w = .ok (.slice (some ⟨g, 0, none⟩) 0 0) w := by
  obtain ⟨i8, hi8, hz0, hz1, hz2⟩ := info_parts Tryz.infoI64
  have hst := run_storeCells_at Tryz.prog g 0 3 [] 0 #[] w hg (by simp) (by simp)
  simp only [Nat.add_zero] at hst
  simp [Builtin.append_, run_underlying Tryz.underlying24, sizeOf, typeInfo, hi8, Builtin.lenOf, run_firstCells_none, Addr.add_lit, hst]
  exact setRow_self w g #[] 3 _ hg
/-- Ahead of the first peer. -/
def RBeg (w wx : World) (nb n win delay kind : Nat) (lv : Value) (lags : List Int) : Prop := ∃ lagv ro pb kb kc ab lb, RMade wx ro nb 0 n win delay (kind : Int) lagv (.slice none 0 0) lags pb kb kc ab lb ∧ Blk wx w.heap.size #[.int .i64 (n : Int), .int .i64 (win : Int), .int .i64 (delay : Int), .int .i64 (kind : Int), lv] 50 ∧ LagSrc wx lv lags ∧ Below w.heap.size w wx ∧ ∀ k, ro k ≠ .none → w.heap.size < k
theorem rbeg_made {w w3 : World} {n win delay kind : Nat} {lv v : Value} {lags : List Int} (hC : Blk w3 w.heap.size #[.int .i64 (n : Int), .int .i64 (win : Int), .int .i64 (delay : Int), .int .i64 (kind : Int), lv] 50)
    (hN : Blk w3 (w.heap.size + 1) #[.int .i64 (n : Int), .int .i64 (win : Int), .int .i64 (delay : Int), .int .i64 (kind : Int), lv, .slice none 0 0, .slice none 0 0, .int .i64 0, .int .i64 0] 73)
    (ho : w3.ownsRow 0 3 1 v lags.length (lags.map (Value.int .i64))) (hv : ∀ k, v.ownBlock = some k → w.heap.size + 1 < k) (hb : Below w.heap.size w w3) (hS : LagSrc w lv lags) : RBeg w (w3.setCell ⟨w.heap.size + 1, 4, none⟩ v) (w.heap.size + 1) n win delay kind lv lags := by
  have b4 : Below w.heap.size w (w3.setCell ⟨w.heap.size + 1, 4, none⟩ v) := hb.setCell (p := ⟨w.heap.size + 1, 4, none⟩) (by show w.heap.size ≤ w.heap.size + 1; omega) _
  have hz : (w3.setCell ⟨w.heap.size + 1, 4, none⟩ v).heap.size = w3.heap.size := World.size_setCell _ _ _
  have hnl := hN.lt
  refine ⟨v, fun k => if k = w.heap.size + 1 then .net else if v.ownBlock = some k then .lags else .none, fun _ => 0, fun _ => 0, fun _ => 0, fun _ => 0, fun _ _ => 0, ⟨fun k hk => ?_, ⟨by have := hN.set 4 v; simpa using this, if_pos rfl⟩, ⟨owns_same ho (fun k hk => heap_setCell_other _ _ _ _ (fun e => by have h1 := hv k hk; have h2 : k = w.heap.size + 1 := e; omega)), fun k hk => ?_⟩, ⟨by simpa using World.ownsRow_nil _ _ _ _, fun k hk => by simp [Value.ownBlock] at hk⟩, fun p hp => by omega⟩, (heap_setCell_other _ _ _ _ (fun e => by have h2 : w.heap.size = w.heap.size + 1 := e; omega)).trans hC, hS.below b4, b4, fun k hk => ?_⟩
  · rw [hz]
    by_cases e : k = w.heap.size + 1
    · omega
    · rw [if_neg e] at hk
      by_cases e2 : v.ownBlock = some k
      · exact (ho.lt k e2).2
      · rw [if_neg e2] at hk; exact absurd rfl hk
  · show (if k = w.heap.size + 1 then RR.net else if v.ownBlock = some k then .lags else .none) = .lags
    rw [if_neg (by have := hv k hk; omega), if_pos hk]
  · by_cases e : k = w.heap.size + 1
    · omega
    · replace hk : (if k = w.heap.size + 1 then RR.net else if v.ownBlock = some k then .lags else .none) ≠ .none := hk
      rw [if_neg e] at hk
      by_cases e2 : v.ownBlock = some k
      · have := hv k e2; omega
      · rw [if_neg e2] at hk; exact absurd rfl hk
set_option maxRecDepth 10000 in
set_option maxHeartbeats 8000000 in
theorem rnew_any (n win delay kind : Nat) (lv : Value) (lags : List Int) (w : World) (h : LagSrc w lv lags) (hl8 : lags.length ≤ 8) (hn2 : 2 ≤ n) (hn4 : n ≤ 4) (hw1 : 1 ≤ win) (hw : win ≤ 8) (hd : delay ≤ 3) (hk : kind ≤ 1) :
    Calls Tryz.prog 26 #[.agg #[.int .i64 (n : Int), .int .i64 (win : Int), .int .i64 (delay : Int), .int .i64 (kind : Int), lv]] w fun e w' => Below w.heap.size w w' ∧ ((¬ LagsOk lags ∧ e = .returned (.tuple #[.pointer none, .bool false])) ∨ (LagsOk lags ∧ ∃ nb ro, e = .returned (.tuple #[.pointer (some ⟨nb, 0, none⟩), .bool true]) ∧ RNetAt w' ro nb (newM n win delay lags) ∧ ∀ k, ro k ≠ .none → w.heap.size ≤ k)) := by
  obtain ⟨ao, cc, rfl⟩ := lag_len h
  have bB : Below w.heap.size w (w.alloc (.cells #[.int .i64 (n : Int), .int .i64 (win : Int), .int .i64 (delay : Int), .int .i64 (kind : Int), .slice ao lags.length cc] 50)) := (Below.refl _ w).alloc (Nat.le_refl _) _
  have xB : Blk (w.alloc (.cells #[.int .i64 (n : Int), .int .i64 (win : Int), .int .i64 (delay : Int), .int .i64 (kind : Int), .slice ao lags.length cc] 50)) w.heap.size #[.int .i64 (n : Int), .int .i64 (win : Int), .int .i64 (delay : Int), .int .i64 (kind : Int), .slice ao lags.length cc] 50 := Blk.new _ _ _
  have zB : (w.alloc (.cells #[.int .i64 (n : Int), .int .i64 (win : Int), .int .i64 (delay : Int), .int .i64 (kind : Int), .slice ao lags.length cc] 50)).heap.size = w.heap.size + 1 := by simp
  have hS1 := h.below bB
  obtain ⟨i8, hi8, hz0, hz1, hz2⟩ := info_parts Tryz.infoI64
  obtain ⟨iS, hiS, hzS0, hzS1, hzS2⟩ := info_parts Tryz.infoInts
  obtain ⟨iP, hiP, hzP0, hzP1, hzP2⟩ := info_parts Tryz.infoPRP
  go_enter Tryz.func26, Tryz.ntmps26
  go_upto_region 1 with fail
  generalize w.alloc (.cells #[.int .i64 (n : Int), .int .i64 (win : Int), .int .i64 (delay : Int), .int .i64 (kind : Int), .slice ao lags.length cc] 50) = W1 at *
  have HS := hide (And.intro hS1 (And.intro bB h))
  have hxl := xB.lt
  clear h hS1 bB
  go_cut [52] from 9 (fun s52 wx => s52 = .bool false ∧ wx = W1)
  case first =>
    have m0 : W1.cell? ⟨w.heap.size, 0, none⟩ = some (.int .i64 (n : Int)) := xB.cell 0
    have m1 : W1.cell? ⟨w.heap.size, 1, none⟩ = some (.int .i64 (win : Int)) := xB.cell 1
    have m2 : W1.cell? ⟨w.heap.size, 2, none⟩ = some (.int .i64 (delay : Int)) := xB.cell 2
    have m3 : W1.cell? ⟨w.heap.size, 3, none⟩ = some (.int .i64 (kind : Int)) := xB.cell 3
    have m4 : W1.cell? ⟨w.heap.size, 4, none⟩ = some (.slice ao lags.length cc) := xB.cell 4
    have d0 : decide ((n : Int) < 2) = false := by simp; omega
    have d0' : decide ((4 : Int) < (n : Int)) = false := by simp; omega
    have d1 : decide ((win : Int) < 1) = false := by simp; omega
    have d2 : decide ((8 : Int) < (win : Int)) = false := by simp; omega
    have d3 : decide ((delay : Int) < 0) = false := by simp
    have d4 : decide ((3 : Int) < (delay : Int)) = false := by simp; omega
    have d5 : decide ((8 : Int) < (lags.length : Int)) = false := by simp; omega
    clear xB hi8 hz0 hz1 hz2
    by_cases hk0 : kind = 0
    · have e1 : ((kind : Int) != 0) = false := by simp [hk0]
      have e1' : ((kind : Int) = 0) = True := by simp [hk0]
      clear hk0 hk hn2 hn4 hw1 hw hd
      go_wp2_with fail
      go_meet
      case rel => exact ⟨rfl, rfl⟩
    · have hk1 : kind = 1 := by omega
      subst hk1
      clear hk0 hk hn2 hn4 hw1 hw hd
      go_wp2_with fail
      go_meet
      case rel => exact ⟨rfl, rfl⟩
  case rest =>
    obtain ⟨rfl, rfl⟩ := hcut
    obtain ⟨W, hW⟩ : ∃ x, x = wc := ⟨_, rfl⟩
    subst hW
    have hzR := Tryz.zeroRNet
    have hsC := Tryz.sizeCfg
    go_upto_region 4 with (refine wpList_load_blk rfl 50 _ rfl w.heap.size rfl 50 #[.int .i64 (n : Int), .int .i64 (win : Int), .int .i64 (delay : Int), .int .i64 (kind : Int), .slice ao lags.length cc] _ xB Tryz.underlying50 rfl hsC ?_)
    have xN : Blk (W.alloc (.cells #[.int .i64 (n : Int), .int .i64 (win : Int), .int .i64 (delay : Int), .int .i64 (kind : Int), .slice ao lags.length cc, .slice none 0 0, .slice none 0 0, .int .i64 0, .int .i64 0] 73)) W.heap.size #[.int .i64 (n : Int), .int .i64 (win : Int), .int .i64 (delay : Int), .int .i64 (kind : Int), .slice ao lags.length cc, .slice none 0 0, .slice none 0 0, .int .i64 0, .int .i64 0] 73 := Blk.new _ _ _
    have bN : Below W.heap.size W (W.alloc (.cells #[.int .i64 (n : Int), .int .i64 (win : Int), .int .i64 (delay : Int), .int .i64 (kind : Int), .slice ao lags.length cc, .slice none 0 0, .slice none 0 0, .int .i64 0, .int .i64 0] 73)) := (Below.refl _ W).alloc (Nat.le_refl _) _
    have zN : (W.alloc (.cells #[.int .i64 (n : Int), .int .i64 (win : Int), .int .i64 (delay : Int), .int .i64 (kind : Int), .slice ao lags.length cc, .slice none 0 0, .slice none 0 0, .int .i64 0, .int .i64 0] 73)).heap.size = W.heap.size + 1 := by simp
    generalize W.alloc (.cells #[.int .i64 (n : Int), .int .i64 (win : Int), .int .i64 (delay : Int), .int .i64 (kind : Int), .slice ao lags.length cc, .slice none 0 0, .slice none 0 0, .int .i64 0, .int .i64 0] 73) = W2 at *
    have xC : Blk W2 w.heap.size #[.int .i64 (n : Int), .int .i64 (win : Int), .int .i64 (delay : Int), .int .i64 (kind : Int), .slice ao lags.length cc] 50 := (bN.block _ hxl).trans xB
    have hS2 := (unhide HS).1.below bN
    have bW2 : Below w.heap.size w W2 := (unhide HS).2.1.trans (bN.mono (by omega))
    rw [zB] at xN zN
    clear xB bN hzR hsC
    go_cut [] from 56 (fun wx => RBeg w wx (w.heap.size + 1) n win delay kind (.slice ao lags.length cc) lags)
    case first =>
      have c4 : W2.cell? ⟨w.heap.size, 4, none⟩ = some (.slice ao lags.length cc) := xC.cell 4
      have n4 : W2.cell? ⟨w.heap.size + 1, 4, none⟩ = some (.slice ao lags.length cc) := xN.cell 4
      have f4 : W2.frozen? ⟨w.heap.size + 1, 4, none⟩ = false := xN.frozen 4
      have xE : Blk (W2.alloc (.cells #[] 3)) W2.heap.size #[] 3 := Blk.new _ _ _
      have bE : Below W2.heap.size W2 (W2.alloc (.cells #[] 3)) := (Below.refl _ W2).alloc (Nat.le_refl _) _
      have zE : (W2.alloc (.cells #[] 3)).heap.size = W2.heap.size + 1 := by simp
      have oE : (W2.alloc (.cells #[] 3)).ownsRow 0 3 1 (.slice (some ⟨W2.heap.size, 0, none⟩) 0 0) 0 [] := ⟨rfl, .inr ⟨W2.heap.size, 0, #[], rfl, Nat.zero_le _, xE, Nat.le_refl _, by unfold maxLen; omega, rfl, rfl⟩⟩
      have HX := hide (And.intro xC (And.intro xN (And.intro xE (And.intro bE (And.intro oE (And.intro hS2 bW2))))))
      have hS3 := hS2
      have HZ := hide (And.intro zB (And.intro zN zE))
      have hnl2 : w.heap.size + 1 < W2.heap.size := by omega
      have c4e : (W2.alloc (.cells #[] 3)).cell? ⟨w.heap.size, 4, none⟩ = some (.slice ao lags.length cc) := (bE.cell (p := ⟨w.heap.size, 4, none⟩) (by show w.heap.size < W2.heap.size; omega)).trans c4
      clear xC xN xE bE oE hS2 bW2 zB zN zE
      rcases hS3 with ⟨e, e2⟩ | ⟨b, c', e, h0, hbl, hc⟩
      · injection e with e1 e2' e3
        subst e1
        subst e3
        subst e2
        have hap := append_none (W2.alloc (.cells #[] 3)) 24 W2.heap.size (unhide HX).2.2.1
        have n4e : (W2.alloc (.cells #[] 3)).cell? ⟨w.heap.size + 1, 4, none⟩ = some (.slice none 0 0) := ((unhide HX).2.2.2.1.cell (p := ⟨w.heap.size + 1, 4, none⟩) (by show w.heap.size + 1 < W2.heap.size; omega)).trans n4
        have f4e : (W2.alloc (.cells #[] 3)).frozen? ⟨w.heap.size + 1, 4, none⟩ = false := (World.frozen?_of_block (a := ⟨w.heap.size + 1, 4, none⟩) ((unhide HX).2.2.2.1.block _ (by show w.heap.size + 1 < W2.heap.size; omega))).trans f4
        go_wp2_with fail
        go_meet
        case rel =>
          obtain ⟨xC, xN, xE, bE, oE, hS2, bW2⟩ := unhide HX
          obtain ⟨zB, zN, zE⟩ := unhide HZ
          have hfin := rbeg_made ((bE.block _ (by omega)).trans xC) ((bE.block _ (by omega)).trans xN) oE (fun k hk => by have h7 : W2.heap.size = k := (by simpa [Value.ownBlock] using hk); omega) (bW2.trans (bE.mono (by omega))) (unhide HS).2.2
          rw [World.setCell_alloc_past _ _ _ _ hnl2] at hfin
          exact hfin
      · injection e with e1 e2' e3
        subst e1
        subst e3
        have hbl2 : b < W2.heap.size := hbl
        have hnews : ∀ j u, (lags.map (Value.int .i64))[j]? = some u → (W2.alloc (.cells #[] 3)).cell? ((⟨b, 0, none⟩ : Addr).add j) = some u := fun j u hj => by
          have hjl : j < lags.length := by have := (List.getElem?_eq_some_iff.1 hj).1; simpa using this
          rw [Addr.add_mid, Nat.zero_add, (unhide HX).2.2.2.1.cell (p := ⟨b, j, none⟩) hbl2, hc j hjl]
          rw [List.getElem?_map, List.getElem?_eq_getElem hjl] at hj
          rw [List.getD_eq_getElem?_getD, List.getElem?_eq_getElem hjl]
          simpa using hj
        have hone : ∀ u ∈ lags.map (Value.int .i64), u.oneCell' = true := fun u hu => by
          obtain ⟨x, _, rfl⟩ := List.mem_map.1 hu
          rfl
        have HC := hide (And.intro hnews hone)
        clear hc hnews hone
        go_wp2_with (at_builtin; refine wpList_append_own_at (W2.alloc (.cells #[] 3)) rfl (.tmp 57) (.tmp 59) 24 rfl 0 3 i8 (.int .i64 0) 1 8 Tryz.underlying24 hi8 hz0 hz1 hz2 rfl (by decide) (.slice (some ⟨W2.heap.size, 0, none⟩) 0 0) 0 [] rfl (unhide HX).2.2.2.2.1 ⟨b, 0, none⟩ lags.length cc (lags.map (Value.int .i64)) rfl (by simp) (unhide HC).1 (unhide HC).2 (by unfold maxLen; omega) (by omega) (Nat.zero_le _) ?_)
        intro v' w3 hown3 hg3 hnil3 hloc3
        obtain ⟨xC, xN, xE, bE, oE, hS2, bW2⟩ := unhide HX
        have zE := (unhide HZ).2.2
        obtain ⟨g', cap', rfl, _, _, _⟩ := own_some hown3 (by omega)
        have hgE : ∀ k, k < W2.heap.size → w3.heap[k]? = W2.heap[k]? := fun k hk => (hg3.block k (by omega) (fun e => by have h7 : k = W2.heap.size := (by simpa [Value.ownBlock] using e); omega)).trans (bE.block k hk)
        have hloc : W2.heap.size ≤ g' := by
          rcases hloc3 with e | e
          · have : g' = W2.heap.size := by simpa [Value.ownBlock] using e
            omega
          · have : g' = (W2.alloc (.cells #[] 3)).heap.size := by simpa [Value.ownBlock] using e
            omega
        have n43 : w3.cell? ⟨w.heap.size + 1, 4, none⟩ = some (.slice (some ⟨b, 0, none⟩) lags.length cc) := (World.cell?_of_block (a := ⟨w.heap.size + 1, 4, none⟩) (hgE _ (by show w.heap.size + 1 < W2.heap.size; omega))).trans n4
        have f43 : w3.frozen? ⟨w.heap.size + 1, 4, none⟩ = false := (World.frozen?_of_block (a := ⟨w.heap.size + 1, 4, none⟩) (hgE _ (by show w.heap.size + 1 < W2.heap.size; omega))).trans f4
        have hb3 : Below w.heap.size w w3 := bW2.trans ⟨hg3.os.trans bE.os, hg3.tape.trans bE.tape, hg3.output.trans bE.output, Nat.le_trans bE.size hg3.size, fun k hk => hgE k (by omega)⟩
        have hpost := rbeg_made (v := .slice (some ⟨g', 0, none⟩) lags.length cap') (lags := lags) ((hgE _ (by omega)).trans xC) ((hgE _ (by omega)).trans xN) (by simpa using hown3) (fun k hk => by have h7 : g' = k := (by simpa [Value.ownBlock] using hk); omega) hb3 (unhide HS).2.2
        have HP := hide hpost
        clear hpost hb3 hloc hgE zE hown3 hg3 hnil3 hloc3 xC xN xE bE oE hS2 bW2
        go_wp2_with fail
        go_meet
        case rel => exact unhide HP
    case rest =>
      obtain ⟨lagv, ro0, pb0, kb0, kc0, ab0, lb0, hM0, hC0, hS0, hb0, hro0⟩ := hcut
      obtain ⟨X, hX⟩ : ∃ x, x = wc := ⟨_, rfl⟩
      subst hX
      have c4 : X.cell? ⟨w.heap.size, 4, none⟩ = some (.slice ao lags.length cc) := hC0.cell 4
      have c0 : X.cell? ⟨w.heap.size, 0, none⟩ = some (.int .i64 (n : Int)) := hC0.cell 0
      have H0 := hide (And.intro hM0 (And.intro hC0 (And.intro hb0 hro0)))
      have HS0 := hide hS0
      clear hM0 hC0 hS0 hb0 hro0 xC xN bW2 hS2 zB zN hxl
      go_wp2_with fail
      go_loop [5] (fun i => ∃ k : Nat, k ≤ lags.length ∧ i = .int .i64 (k : Int) ∧ ∀ j, j < k → -1 ≤ lags.getD j 0 ∧ lags.getD j 0 ≤ 20) (fun i => lags.length - (intOf i).toNat)
      case atStart => exact ⟨0, by omega, rfl, fun j hj => by omega⟩
      case round =>
        obtain ⟨k, hkl, rfl, hg⟩ := hrel
        have HG := hide hg
        clear hg
        by_cases hlt : k < lags.length
        · have hdl : decide ((k : Int) < (lags.length : Int)) = true := by simp; omega
          obtain ⟨b, hao, ck⟩ : ∃ b, ao = some ⟨b, 0, none⟩ ∧ X.cell? ⟨b, k, none⟩ = some (.int .i64 (lags.getD k 0)) := by
            rcases unhide HS0 with ⟨_, e2⟩ | ⟨b, c', e, _, _, hc⟩
            · rw [e2] at hlt; simp at hlt
            · injection e with e1 _ _
              exact ⟨b, e1, hc k hlt⟩
          have k0 : (0 : Int) ≤ (k : Int) := by omega
          have k1 : (k : Int) < (lags.length : Int) := by omega
          have hadd := i64_id ((k : Int) + 1) (by omega) (by omega)
          obtain ⟨x, hx⟩ : ∃ x, lags.getD k 0 = x := ⟨_, rfl⟩
          rw [hx] at ck
          have HX := hide (And.intro hx hlt)
          subst hao
          clear hx
          have hno : ¬ (-1 ≤ x ∧ x ≤ 20) → ¬ LagsOk lags := fun hb hl => by
            have hxm : x ∈ lags := by rw [← (unhide HX).1, List.getD_eq_getElem?_getD, List.getElem?_eq_getElem hlt]; simp
            exact hb (hl.2 x hxm)
          have HNO := hide hno
          clear hno hlt
          by_cases h1 : x < -1
          · have e1 : decide (x < -1) = true := by simp; omega
            go_wp2
            go_ret2
            exact ⟨(unhide H0).2.2.1, .inl ⟨unhide HNO (by omega), rfl⟩⟩
          · have e1 : decide (x < -1) = false := by simp; omega
            by_cases h2 : 20 < x
            · have e2 : decide (20 < x) = true := by simp; omega
              go_wp2
              go_ret2
              exact ⟨(unhide H0).2.2.1, .inl ⟨unhide HNO (by omega), rfl⟩⟩
            · have e2 : decide (20 < x) = false := by simp; omega
              go_wp2
              have hlt := (unhide HX).2
              refine ⟨⟨k + 1, by omega, by go_num, fun j hj => ?_⟩, by simp [intOf]; omega⟩
              by_cases e : j = k
              · rw [e, (unhide HX).1]; omega
              · exact unhide HG j (by omega)
        · have hdl : decide ((k : Int) < (lags.length : Int)) = false := by simp; omega
          have hok : LagsOk lags := ⟨hl8, fun x hx => by
            obtain ⟨j, hj, e⟩ := List.getElem_of_mem hx
            have := unhide HG j (by omega)
            rw [List.getD_eq_getElem?_getD, List.getElem?_eq_getElem hj] at this
            simp only [Option.getD_some] at this
            rw [e] at this; exact this⟩
          have HOK := hide hok
          clear hok
          go_wp2_with fail
          clear c4 c0
          go_loopw [6] (fun s wr => ∃ (k : Nat) (ro : Nat → RR) (prv : Value) (pb kb kc ab : Nat → Nat) (lb : Nat → Nat → Nat), k ≤ n ∧ s = .int .i64 (k : Int) ∧ RMade wr ro (w.heap.size + 1) k n win delay (kind : Int) lagv prv lags pb kb kc ab lb ∧ (∀ j, ro j ≠ .none → w.heap.size < j) ∧ Below w.heap.size w wr ∧ Blk wr w.heap.size #[.int .i64 (n : Int), .int .i64 (win : Int), .int .i64 (delay : Int), .int .i64 (kind : Int), .slice ao lags.length cc] 50) (fun s _ => n - (intOf s).toNat)
          case atStart =>
            obtain ⟨hM0, hC0, hb0, hro0⟩ := unhide H0
            exact ⟨0, ro0, _, pb0, kb0, kc0, ab0, lb0, by omega, rfl, hM0, hro0, hb0, hC0⟩
          case round =>
            obtain ⟨k, ro, prv, pb, kb, kc, ab, lb, hkn, rfl, hM, hro, hb, hC⟩ := hrel
            have c0 : wr.cell? ⟨w.heap.size, 0, none⟩ = some (.int .i64 (n : Int)) := hC.cell 0
            have hwl : w.heap.size < wr.heap.size := hC.lt
            by_cases hlt2 : k < n
            · have hdk : decide ((k : Int) < (n : Int)) = true := by simp; omega
              have hadd := i64_id ((k : Int) + 1) (by omega) (by omega)
              have hmk := made_ints n (by omega)
              have hzP := Tryz.zeroRPeer
              have xa : Blk ((wr.alloc (.cells (nums .i64 (List.replicate n 0)) 3)).alloc (.cells #[.slice none 0 0, .int .i64 0, .slice (some ⟨wr.heap.size, 0, none⟩) n n, .int .i64 0] 81)) wr.heap.size (nums .i64 (List.replicate n 0)) 3 := (Blk.new _ _ _).alloc _
              have xp : Blk ((wr.alloc (.cells (nums .i64 (List.replicate n 0)) 3)).alloc (.cells #[.slice none 0 0, .int .i64 0, .slice (some ⟨wr.heap.size, 0, none⟩) n n, .int .i64 0] 81)) (wr.heap.size + 1) #[.slice none 0 0, .int .i64 0, .slice (some ⟨wr.heap.size, 0, none⟩) n n, .int .i64 0] 81 := by
                have := Blk.new (wr.alloc (.cells (nums .i64 (List.replicate n 0)) 3)) #[.slice none 0 0, .int .i64 0, .slice (some ⟨wr.heap.size, 0, none⟩) n n, .int .i64 0] 81
                simpa using this
              have bp : Below wr.heap.size wr ((wr.alloc (.cells (nums .i64 (List.replicate n 0)) 3)).alloc (.cells #[.slice none 0 0, .int .i64 0, .slice (some ⟨wr.heap.size, 0, none⟩) n n, .int .i64 0] 81)) := ((Below.refl _ wr).alloc (Nat.le_refl _) _).alloc (by simp) _
              have zp : ((wr.alloc (.cells (nums .i64 (List.replicate n 0)) 3)).alloc (.cells #[.slice none 0 0, .int .i64 0, .slice (some ⟨wr.heap.size, 0, none⟩) n n, .int .i64 0] 81)).heap.size = wr.heap.size + 2 := by simp
              have hP0 := PMade.start (ro := ro) (p := k) (delay := delay) xa xp (fun _ => 0)
              have hlt' : ∀ j, (if j = wr.heap.size then RR.acked k else if j = wr.heap.size + 1 then .peer k else ro j) ≠ .none → j < wr.heap.size + 2 ∧ w.heap.size < j := fun j hj => by
                by_cases e : j = wr.heap.size
                · omega
                · rw [if_neg e] at hj
                  by_cases e2 : j = wr.heap.size + 1
                  · omega
                  · rw [if_neg e2] at hj
                    have := hM.lt j hj
                    have := hro j hj
                    omega
              have hM0 := hM.keep ((Keep.new (ro' := fun j => if j = wr.heap.size then RR.acked k else if j = wr.heap.size + 1 then .peer k else ro j) bp (fun j hj => by show (if j = wr.heap.size then RR.acked k else if j = wr.heap.size + 1 then .peer k else ro j) = ro j; rw [if_neg (by omega), if_neg (by omega)])).mono (fun _ e => e.elim)) (fun j hj => by have := (hlt' j hj).1; omega)
              have hC0 : Blk ((wr.alloc (.cells (nums .i64 (List.replicate n 0)) 3)).alloc (.cells #[.slice none 0 0, .int .i64 0, .slice (some ⟨wr.heap.size, 0, none⟩) n n, .int .i64 0] 81)) w.heap.size #[.int .i64 (n : Int), .int .i64 (win : Int), .int .i64 (delay : Int), .int .i64 (kind : Int), .slice ao lags.length cc] 50 := (bp.block _ hwl).trans hC
              have HB := hide (And.intro hM0 (And.intro hP0 (And.intro (fun j hj => (hlt' j hj).2) (And.intro (hb.trans (bp.mono (by omega))) hC0))))
              have hzwr : ((wr.alloc (.cells (nums .i64 (List.replicate n 0)) 3)).alloc (.cells #[.slice none 0 0, .int .i64 0, .slice (some ⟨wr.heap.size, 0, none⟩) n n, .int .i64 0] 81)).cell? ⟨w.heap.size, 0, none⟩ = some (.int .i64 (n : Int)) := hC0.cell 0
              clear hM hro hb hC xa xp bp zp hP0 hlt' hM0 hC0
              obtain ⟨sz, hsz⟩ : ∃ sz, wr.heap.size = sz := ⟨_, rfl⟩
              rw [hsz] at hwl HB hzwr
              go_upto_region 14 with fail
              generalize (wr.alloc (.cells (nums .i64 (List.replicate n 0)) 3)).alloc (.cells #[.slice none 0 0, .int .i64 0, .slice (some ⟨sz, 0, none⟩) n n, .int .i64 0] 81) = Y at *
              clear hsz hzwr hmk hzP c0
              go_wp2_with fail
              go_loopw [8] (fun s8 wi => ∃ (j : Nat) (ro2 : Nat → RR) (kv : Value) (lbk : Nat → Nat), j ≤ n ∧ s8 = .int .i64 (j : Int) ∧ RMade wi ro2 (w.heap.size + 1) k n win delay (kind : Int) lagv prv lags pb kb kc ab lb ∧ PMade wi ro2 k j j n delay (sz + 1) sz kv lbk ∧ (∀ i, ro2 i ≠ .none → w.heap.size < i) ∧ Below w.heap.size w wi ∧ Blk wi w.heap.size #[.int .i64 (n : Int), .int .i64 (win : Int), .int .i64 (delay : Int), .int .i64 (kind : Int), .slice ao lags.length cc] 50) (fun s8 _ => n - (intOf s8).toNat)
              case atStart =>
                obtain ⟨hM0, hP0, hro0', hb0, hC0⟩ := unhide HB
                exact ⟨0, _, _, _, by omega, rfl, hM0, hP0, hro0', hb0, hC0⟩
              case round =>
                obtain ⟨V, hV⟩ : ∃ x, x = wr := ⟨_, rfl⟩
                subst hV
                obtain ⟨j, ro2, kv, lbk, hjn, rfl, hM, hP, hro, hb, hC⟩ := hrel
                have c0 : V.cell? ⟨w.heap.size, 0, none⟩ = some (.int .i64 (n : Int)) := hC.cell 0
                have c2 : V.cell? ⟨w.heap.size, 2, none⟩ = some (.int .i64 (delay : Int)) := hC.cell 2
                have hwV : w.heap.size < V.heap.size := hC.lt
                by_cases hjl : j < n
                · have hdj : decide ((j : Int) < (n : Int)) = true := by simp; omega
                  have haj := i64_id ((j : Int) + 1) (by omega) (by omega)
                  have j0 : (0 : Int) ≤ (j : Int) := by omega
                  have j1 : (j : Int) < (n : Int) := by omega
                  have xa : V.cell? ⟨sz + 1, 2, none⟩ = some (.slice (some ⟨sz, 0, none⟩) n n) := hP.peer.1.cell 2
                  have ya := hP.acked.1.num j (by rw [upTo_len _ _ _ (by simp [dels]) hjn]; exact hjl)
                  have fa : V.frozen? ⟨sz, j, none⟩ = false := hP.acked.1.frozen j
                  have hP1 := hP.ack hjl
                  have K1 : Keep ro2 ro2 (ofPeer k) V (V.setCell ⟨sz, j, none⟩ (.int .i64 (delay : Int))) := fun i _ hr => ⟨rfl, fun hn => heap_setCell_other _ _ _ _ (fun e => hn (by rw [e]; exact .inr (.inr (.inl hP.acked.2))))⟩
                  have hM1 := hM.keep K1 (fun i hi => by rw [World.size_setCell]; exact hM.lt i hi)
                  have hrs : w.heap.size < sz := hro sz (by rw [hP.acked.2]; simp)
                  have hb1 : Below w.heap.size w (V.setCell ⟨sz, j, none⟩ (.int .i64 (delay : Int))) := hb.setCell (p := ⟨sz, j, none⟩) (by show w.heap.size ≤ sz; omega) _
                  have hC1 : Blk (V.setCell ⟨sz, j, none⟩ (.int .i64 (delay : Int))) w.heap.size #[.int .i64 (n : Int), .int .i64 (win : Int), .int .i64 (delay : Int), .int .i64 (kind : Int), .slice ao lags.length cc] 50 := (heap_setCell_other _ _ _ _ (fun e => by have h7 : w.heap.size = sz := e; omega)).trans hC
                  have H1 := hide (And.intro hM1 (And.intro hP1 (And.intro hro (And.intro hb1 hC1))))
                  clear hM hP hro hb hC hP1 K1 hM1 hb1 hC1
                  go_upto_region 17 with fail
                  go_cut [] from 96 to 121 (fun wx => RMade wx ro2 (w.heap.size + 1) k n win delay (kind : Int) lagv prv lags pb kb kc ab lb ∧ PMade wx ro2 k (j + 1) j n delay (sz + 1) sz kv lbk ∧ Below w.heap.size w wx ∧ Blk wx w.heap.size #[.int .i64 (n : Int), .int .i64 (win : Int), .int .i64 (delay : Int), .int .i64 (kind : Int), .slice ao lags.length cc] 50)
                  case first =>
                    go_region
                    go_wp2_with fail
                    go_meet
                    case rel =>
                      obtain ⟨hM1, hP1, hro, hb1, hC1⟩ := unhide H1
                      have hbz := fun (W : World) (q : Nat) => (show Below W.heap.size W (W.drewN q) from ⟨rfl, rfl, rfl, Nat.le_refl _, fun _ _ => rfl⟩)
                      exact ⟨hM1.keep ((Keep.new (hbz _ _) (fun _ _ => rfl)).mono (fun _ e => e.elim)) hM1.lt, hP1.keep (Keep.new (hbz _ _) (fun _ _ => rfl)) (by simp), hb1.trans ((hbz _ _).mono hb1.size), ((hbz _ _).block _ hC1.lt).trans hC1⟩
                  case rest =>
                    obtain ⟨V2, hV2⟩ : ∃ x, x = wc := ⟨_, rfl⟩
                    subst hV2
                    obtain ⟨hM, hP, hb, hC⟩ := hcut
                    have hro := (unhide H1).2.2.1
                    obtain ⟨ao1, c1, hkv⟩ := own_nil hP.known.1
                    subst hkv
                    have xk : V2.cell? ⟨sz + 1, 0, none⟩ = some (.slice ao1 j c1) := hP.peer.1.cell 0
                    have xd : V2.cell? ⟨w.heap.size, 2, none⟩ = some (.int .i64 (delay : Int)) := hC.cell 2
                    have fx : V2.frozen? ⟨sz + 1, 0, none⟩ = false := hP.peer.1.frozen 0
                    have hxl := hP.peer.1.lt
                    have hcl := hC.lt
                    have hmkd := made_ints delay (by omega)
                    have hown := hP.known.1
                    have hkx : ∀ i, (Value.slice ao1 j c1).ownBlock = some i → i ≠ sz + 1 ∧ i ≠ w.heap.size ∧ i < V2.heap.size := fun i hi => by
                      have h1 := hP.known.2 i hi
                      refine ⟨fun e => ?_, fun e => ?_, (hown.lt i hi).2⟩
                      · rw [e, hP.peer.2] at h1; cases h1
                      · have := hro i (by rw [h1]; simp); omega
                    have HV := hide (And.intro hM (And.intro hP (And.intro hro (And.intro hb (And.intro hC hkx)))))
                    have HOW := hide hown
                    clear hM hP hro hb hC hkx hown c0 c2 xa ya fa H1
                    go_upto_region 18 with fail
                    refine wp_region_noPanic ?_
                    refine wp_held_tail 7 10 (fun W' => W'.cell? ⟨sz + 1, 0, none⟩ = some (.slice ao1 j c1) ∧ W'.cell? ⟨w.heap.size, 2, none⟩ = some (.int .i64 (delay : Int))) (by kernel_rfl) (by decide) (by kernel_rfl) (by kernel_rfl) (by kernel_rfl) (fun _ _ _ _ _ h => h) ⟨xk, xd⟩ ?_
                    simp only [List.take_succ_cons, List.take_zero, List.drop_succ_cons, List.drop_zero]
                    refine wpHeld_op ?y0 rfl ?z0 ?_
                    case z0 => intro w' hS; obtain ⟨hS1, hS2⟩ := hS; go_simp; rfl
                    refine wpHeld_op ?y1 rfl ?z1 ?_
                    case z1 => intro w' hS; obtain ⟨hS1, hS2⟩ := hS; go_simp; rfl
                    refine wpHeld_op ?y2 rfl ?z2 ?_
                    case z2 => intro w' hS; obtain ⟨hS1, hS2⟩ := hS; go_simp; rfl
                    refine wpHeld_op ?y3 rfl ?z3 ?_
                    case z3 => intro w' hS; obtain ⟨hS1, hS2⟩ := hS; go_simp; rfl
                    refine wpHeld_op ?y4 rfl ?z4 ?_
                    case z4 => intro w' hS; obtain ⟨hS1, hS2⟩ := hS; go_simp; rfl
                    refine wpHeld_op ?y5 rfl ?z5 ?_
                    case z5 => intro w' hS; obtain ⟨hS1, hS2⟩ := hS; go_simp; rfl
                    refine wpHeld_op ?y6 rfl ?z6 ?_
                    case z6 => intro w' hS; obtain ⟨hS1, hS2⟩ := hS; go_simp; rfl
                    unfold wpHeld
                    refine wpAnyH_all (rs := [7]) (by kernel_rfl) (by simp) ?_
                    intro jj hjj
                    obtain rfl : jj = 7 := by simpa using hjj
                    refine wpOp_of_list _ rfl rfl ?_
                    have hB1 : Below V2.heap.size V2 (V2.alloc (.cells (nums .i64 (List.replicate delay 0)) 3)).drew := ((Below.refl _ V2).alloc (Nat.le_refl _) _).drew
                    have hl1 : Blk (V2.alloc (.cells (nums .i64 (List.replicate delay 0)) 3)).drew V2.heap.size (nums .i64 (List.replicate delay 0)) 3 := Blk.new V2 _ _
                    have hz1' : (V2.alloc (.cells (nums .i64 (List.replicate delay 0)) 3)).drew.heap.size = V2.heap.size + 1 := by show (V2.alloc (.cells (nums .i64 (List.replicate delay 0)) 3)).heap.size = _; simp
                    have HZ1 := hide hz1'
                    clear hz1'
                    go_wp2_with fail
                    refine ⟨⟨(hB1.cell (p := ⟨sz + 1, 0, none⟩) hxl).trans xk, (hB1.cell (p := ⟨w.heap.size, 2, none⟩) hcl).trans xd⟩, ?_⟩
                    generalize (V2.alloc (.cells (nums .i64 (List.replicate delay 0)) 3)).drew = V3 at *
                    refine wpAnyH_all (rs := [8]) (by kernel_rfl) (by simp) ?_
                    intro jj hjj
                    obtain rfl : jj = 8 := by simpa using hjj
                    refine wpOp_of_list _ rfl rfl ?_
                    have hB2 : Below V3.heap.size V3 (V3.alloc (.cells #[.slice (some ⟨V2.heap.size, 0, none⟩) delay delay] 24)) := (Below.refl _ V3).alloc (Nat.le_refl _) _
                    have hB2' : Below V2.heap.size V2 (V3.alloc (.cells #[.slice (some ⟨V2.heap.size, 0, none⟩) delay delay] 24)) := hB1.trans (hB2.mono hB1.size)
                    go_wp2_with fail
                    refine ⟨⟨(hB2'.cell (p := ⟨sz + 1, 0, none⟩) hxl).trans xk, (hB2'.cell (p := ⟨w.heap.size, 2, none⟩) hcl).trans xd⟩, ?_⟩
                    refine wpAnyH_all (rs := [9]) (by kernel_rfl) (by simp) ?_
                    intro jj hjj
                    obtain rfl : jj = 9 := by simpa using hjj
                    refine wpOp_of_list _ rfl rfl ?_
                    go_simp
                    have hownA : (V3.alloc (.cells #[.slice (some ⟨V2.heap.size, 0, none⟩) delay delay] 24)).ownsRow 0 24 1 (.slice ao1 j c1) j ((List.range j).map fun q => .slice (some ⟨lbk q, 0, none⟩) delay delay) := owns_same (unhide HOW) (fun i hi => hB2'.block i ((unhide HV).2.2.2.2.2 i hi).2.2)
                    refine wpList_append_own_at (V3.alloc (.cells #[.slice (some ⟨V2.heap.size, 0, none⟩) delay delay] 24)) rfl (.tmp 114) (.tmp 118) 79 rfl 0 24 iS _ 1 24 Tryz.underlying79 hiS hzS0 hzS1 hzS2 rfl (by decide) (.slice ao1 j c1) _ _ rfl hownA ⟨V3.heap.size, 0, none⟩ 1 1 [.slice (some ⟨V2.heap.size, 0, none⟩) delay delay] rfl rfl (cell_one_new _ _ _) (by simp [Value.oneCell']) (by unfold maxLen; omega) (by omega) (Nat.zero_le _) ?_
                    intro v' w3 hown3 hg3 hnil3 hloc3
                    have hz3' := unhide HZ1
                    obtain ⟨g, c3, rfl, _, hg3l, _⟩ := own_some hown3 (by omega)
                    have hold2 : ∀ i, i < V2.heap.size → (Value.slice ao1 j c1).ownBlock ≠ some i → w3.heap[i]? = V2.heap[i]? := fun i hi hne => (hg3.block i (by have := hB2'.size; omega) (fun e => hne e.symm)).trans (hB2'.block i hi)
                    have hz3 : V2.heap.size ≤ w3.heap.size := Nat.le_trans hB2'.size hg3.size
                    have hloc : (Value.slice ao1 j c1).ownBlock = some g ∨ g = V2.heap.size + 2 := hloc3.imp (fun e => e.symm) (fun e => by
                      have h7 : g = (V3.alloc (.cells #[.slice (some ⟨V2.heap.size, 0, none⟩) delay delay] 24)).heap.size := by simpa [Value.ownBlock] using e
                      rw [World.size_alloc] at h7
                      omega)
                    have hV3 : ∀ i, i < V3.heap.size → (Value.slice ao1 j c1).ownBlock ≠ some i → w3.heap[i]? = V3.heap[i]? := fun i hi hne => (hg3.block i (by have := hB2.size; omega) (fun e => hne e.symm)).trans (hB2.block i hi)
                    have hnx : (Value.slice ao1 j c1).ownBlock ≠ some (sz + 1) := fun e => ((unhide HV).2.2.2.2.2 _ e).1 rfl
                    have hnc : (Value.slice ao1 j c1).ownBlock ≠ some w.heap.size := fun e => ((unhide HV).2.2.2.2.2 _ e).2.1 rfl
                    have k0 : w3.cell? ⟨sz + 1, 0, none⟩ = some (.slice ao1 j c1) := (World.cell?_of_block (a := ⟨sz + 1, 0, none⟩) (hold2 _ hxl hnx)).trans xk
                    have kf : w3.frozen? ⟨sz + 1, 0, none⟩ = false := (World.frozen?_of_block (a := ⟨sz + 1, 0, none⟩) (hold2 _ hxl hnx)).trans fx
                    have kd : w3.cell? ⟨w.heap.size, 2, none⟩ = some (.int .i64 (delay : Int)) := (World.cell?_of_block (a := ⟨w.heap.size, 2, none⟩) (hold2 _ hcl hnc)).trans xd
                    refine ⟨⟨k0, kd⟩, ⟨by kernel_rfl, ?_⟩⟩
                    obtain ⟨hM, hP, hro, hb, hC, hkx⟩ := unhide HV
                    have hl3 : Blk w3 V2.heap.size (nums .i64 (List.replicate delay 0)) 3 := (hV3 _ (by omega) (fun e => by have := (hkx _ e).2.2; omega)).trans hl1
                    obtain ⟨hP4, hK4, hlt4⟩ := hP.learn (s := V2.heap.size) (g := g) (c := c3) hM.lt (Nat.le_refl _) hl3 hown3 hold2 hz3 hloc
                    have hM4 := hM.keep (hK4.mono (fun r e => e.elim (fun e => .inl e) (fun e => .inr (.inl e)))) hlt4
                    have hro4 : ∀ i, (if i = V2.heap.size then RR.list k j else if i = g then .known k else ro2 i) ≠ .none → w.heap.size < i := fun i hi => by
                      by_cases e : i = V2.heap.size
                      · omega
                      · rw [if_neg e] at hi
                        by_cases e2 : i = g
                        · rcases hloc with e3 | e3
                          · exact hro i (by rw [e2, hP.known.2 g e3]; simp)
                          · omega
                        · rw [if_neg e2] at hi; exact hro i hi
                    have hb4 : Below w.heap.size w (w3.setCell ⟨sz + 1, 0, none⟩ (.slice (some ⟨g, 0, none⟩) (j + 1) c3)) := (hb.trans (show Below w.heap.size V2 w3 from ⟨hg3.os.trans hB2'.os, hg3.tape.trans hB2'.tape, hg3.output.trans hB2'.output, hz3, fun i hi => hold2 i (by omega) (fun e => by have := hro i (by rw [hP.known.2 i e]; simp); omega)⟩)).setCell (p := ⟨sz + 1, 0, none⟩) (by show w.heap.size ≤ sz + 1; omega) _
                    have hC4 : Blk (w3.setCell ⟨sz + 1, 0, none⟩ (.slice (some ⟨g, 0, none⟩) (j + 1) c3)) w.heap.size #[.int .i64 (n : Int), .int .i64 (win : Int), .int .i64 (delay : Int), .int .i64 (kind : Int), .slice ao lags.length cc] 50 := (heap_setCell_other _ _ _ _ (fun e => by have h7 : w.heap.size = sz + 1 := e; omega)).trans ((hold2 _ hcl hnc).trans hC)
                    have H4 := hide (And.intro hM4 (And.intro hP4 (And.intro hro4 (And.intro hb4 hC4))))
                    clear hown3 hg3 hnil3 hloc3 hownA hB1 hB2 hB2' hold2 hloc hV3 hnx hnc kd hM hP hro hb hC hkx hl3 hP4 hK4 hlt4 hM4 hro4 hb4 hC4 hl1 hz3'
                    change wpList _ _ _ _ _ _
                    go_wp2_with fail
                    refine NoPanic.normal ?_
                    go_wp2_with fail
                    go_roundw
                    case rel =>
                      obtain ⟨hM4, hP4, hro4, hb4, hC4⟩ := unhide H4
                      exact ⟨j + 1, _, _, _, by omega, by go_num, hM4, hP4, hro4, hb4, hC4⟩
                    case measure => simp [intOf]; omega
                · have hjn2 : j = n := by omega
                  have hdj : decide ((j : Int) < (n : Int)) = false := by simp; omega
                  rw [hjn2] at hP
                  obtain ⟨kbk, kck, hkv, _, _, _⟩ := own_some hP.known.1 (by omega)
                  subst hkv
                  obtain ⟨aop, cpp, hpv⟩ := own_nil hM.peers.1
                  subst hpv
                  have n5 : V.cell? ⟨w.heap.size + 1, 5, none⟩ = some (.slice aop k cpp) := hM.net.1.cell 5
                  have f5 : V.frozen? ⟨w.heap.size + 1, 5, none⟩ = false := hM.net.1.frozen 5
                  have hnl := hM.net.1.lt
                  have bA : Below V.heap.size V (V.alloc (.cells #[.pointer (some ⟨sz + 1, 0, none⟩)] 82)) := (Below.refl _ V).alloc (Nat.le_refl _) _
                  have hownA : (V.alloc (.cells #[.pointer (some ⟨sz + 1, 0, none⟩)] 82)).ownsRow 0 82 1 (.slice aop k cpp) k ((List.range k).map fun p => .pointer (some ⟨pb p, 0, none⟩)) := hM.peers.1.alloc _
                  have n5e : (V.alloc (.cells #[.pointer (some ⟨sz + 1, 0, none⟩)] 82)).cell? ⟨w.heap.size + 1, 5, none⟩ = some (.slice aop k cpp) := (bA.cell (p := ⟨w.heap.size + 1, 5, none⟩) hnl).trans n5
                  have HV := hide (And.intro hM (And.intro hP (And.intro hro (And.intro hb hC))))
                  have HA := hide (And.intro hownA bA)
                  have HJ := hide hjn2
                  clear hM hP hro hb hC bA hownA c2 hjn2
                  go_wp2_with (at_builtin; refine wpList_append_own_at (V.alloc (.cells #[.pointer (some ⟨sz + 1, 0, none⟩)] 82)) rfl (.tmp 126) (.tmp 128) 70 rfl 0 82 iP _ 1 8 Tryz.underlying70 hiP hzP0 hzP1 hzP2 rfl (by decide) (.slice aop k cpp) _ _ rfl (unhide HA).1 ⟨V.heap.size, 0, none⟩ 1 1 [.pointer (some ⟨sz + 1, 0, none⟩)] rfl rfl (cell_one_new _ _ _) (by simp [Value.oneCell']) (by unfold maxLen; omega) (by omega) (Nat.zero_le _) ?_)
                  intro v' w3 hown3 hg3 hnil3 hloc3
                  obtain ⟨hM, hP, hro, hb, hC⟩ := unhide HV
                  have bA := (unhide HA).2
                  obtain ⟨g, c3, rfl, _, hg3l, _⟩ := own_some hown3 (by omega)
                  have hold2 : ∀ i, i < V.heap.size → (Value.slice aop k cpp).ownBlock ≠ some i → w3.heap[i]? = V.heap[i]? := fun i hi hne => (hg3.block i (by have := bA.size; omega) (fun e => hne e.symm)).trans (bA.block i hi)
                  have hz3 : V.heap.size ≤ w3.heap.size := Nat.le_trans bA.size hg3.size
                  have hloc : (Value.slice aop k cpp).ownBlock = some g ∨ g = V.heap.size + 1 := hloc3.imp (fun e => e.symm) (fun e => by simpa [Value.ownBlock] using e)
                  have hpr : ∀ i, (Value.slice aop k cpp).ownBlock = some i → ro2 i = .peers := hM.peers.2
                  have hnx : (Value.slice aop k cpp).ownBlock ≠ some (w.heap.size + 1) := fun e => by have := hpr _ e; rw [hM.net.2] at this; cases this
                  have hnc : (Value.slice aop k cpp).ownBlock ≠ some w.heap.size := fun e => by have := hro _ (by rw [hpr _ e]; simp); omega
                  have k5 : w3.cell? ⟨w.heap.size + 1, 5, none⟩ = some (.slice aop k cpp) := (World.cell?_of_block (a := ⟨w.heap.size + 1, 5, none⟩) (hold2 _ hnl hnx)).trans n5
                  have kf : w3.frozen? ⟨w.heap.size + 1, 5, none⟩ = false := (World.frozen?_of_block (a := ⟨w.heap.size + 1, 5, none⟩) (hold2 _ hnl hnx)).trans f5
                  have hM4 := hM.add hP (s := V.heap.size + 1) (by omega) hown3 hold2 hz3 hloc
                  have hro4 : ∀ i, (if i = g then RR.peers else ro2 i) ≠ .none → w.heap.size < i := fun i hi => by
                    by_cases e2 : i = g
                    · rcases hloc with e3 | e3
                      · exact hro i (by rw [e2, hpr g e3]; simp)
                      · omega
                    · rw [if_neg e2] at hi; exact hro i hi
                  have hb4 : Below w.heap.size w (w3.setCell ⟨w.heap.size + 1, 5, none⟩ (.slice (some ⟨g, 0, none⟩) (k + 1) c3)) := (hb.trans (show Below w.heap.size V w3 from ⟨hg3.os.trans bA.os, hg3.tape.trans bA.tape, hg3.output.trans bA.output, hz3, fun i hi => hold2 i (by omega) (fun e => by have := hro i (by rw [hpr i e]; simp); omega)⟩)).setCell (p := ⟨w.heap.size + 1, 5, none⟩) (by show w.heap.size ≤ w.heap.size + 1; omega) _
                  have hC4 : Blk (w3.setCell ⟨w.heap.size + 1, 5, none⟩ (.slice (some ⟨g, 0, none⟩) (k + 1) c3)) w.heap.size #[.int .i64 (n : Int), .int .i64 (win : Int), .int .i64 (delay : Int), .int .i64 (kind : Int), .slice ao lags.length cc] 50 := (heap_setCell_other _ _ _ _ (fun e => by have h7 : w.heap.size = w.heap.size + 1 := e; omega)).trans ((hold2 _ hwV hnc).trans hC)
                  have H4 := hide (And.intro hM4 (And.intro hro4 (And.intro hb4 hC4)))
                  clear hown3 hg3 hnil3 hloc3 hold2 hz3 hloc hpr hnx hnc hM4 hro4 hb4 hC4 hM hP hro hb hC bA
                  go_wp2_with fail
                  go_roundw
                  case rel =>
                    obtain ⟨hM4, hro4, hb4, hC4⟩ := unhide H4
                    exact ⟨k + 1, _, _, _, _, _, _, _, by omega, by go_num, hM4, hro4, hb4, hC4⟩
                  case measure => simp [intOf]; omega
            · have hdk : decide ((k : Int) < (n : Int)) = false := by simp; omega
              have hkn2 : k = n := by omega
              have HV := hide (And.intro hM (And.intro hro hb))
              clear hM hro hb hC
              go_wp2
              go_ret2
              obtain ⟨hM, hro, hb⟩ := unhide HV
              rw [hkn2] at hM
              obtain ⟨gp, cpp, hpv, _, _, _⟩ := own_some hM.peers.1 (by omega)
              subst hpv
              exact ⟨hb, .inr ⟨unhide HOK, w.heap.size + 1, ro, rfl, hM.net_at hn2 hn4 hd, fun i hi => Nat.le_of_lt (hro i hi)⟩⟩
end Go.Proofs.YtandblanpafjoaaGreatDoor

