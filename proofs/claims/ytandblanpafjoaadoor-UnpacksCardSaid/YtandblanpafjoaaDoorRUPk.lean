import Derived.Test.YtandblanpafjoaaDoorPkZ
import Derived.Test.YtandblanpafjoaaDoorRPk2
import Derived.Deep.RegionHeld3
import Derived.Deep.DeepCutAuto
namespace Go.Proofs.YtandblanpafjoaaDoor
open Go.RowKit Go.Extern.Stop Go.Stop Go.Extern

/-! The document's packet, read. -/
theorem blk_none {w w' : World} {g : Nat} {cs : Array Value} {t : TypeId} (h : Blk w g cs t) (hg : w.grownBy w' none) : Blk w' g cs t := by
  have := h.lt
  unfold Blk at h ⊢
  rw [hg.block g this (by simp)]; exact h
theorem below_none {B : Nat} {w w' : World} (h : w.grownBy w' none) (hB : B ≤ w.heap.size) : Below B w w' :=
  ⟨h.os, h.tape, h.output, h.size, fun k hk => h.block k (by omega) (by simp)⟩
theorem ext_getD (a b : List Int) (hl : a.length = b.length) (h : ∀ j, j < a.length → a.getD j 0 = b.getD j 0) : a = b := by
  apply List.ext_getElem hl
  intro j h1 h2
  have := h j h1
  rw [List.getD_eq_getElem?_getD, List.getD_eq_getElem?_getD, List.getElem?_eq_getElem h1, List.getElem?_eq_getElem h2] at this
  exact this

set_option maxRecDepth 10000 in
set_option maxHeartbeats 1000000 in
theorem runpack_few (b o n c : Nat) (w : World) (hn : n < 8) :
    Calls Tryd.prog 26 #[.slice (some ⟨b, o, none⟩) n c] w fun e w' => e = .returned (.tuple #[.agg Z4, .bool false]) ∧ Below w.heap.size w w' := by
  have h8 : (n : Int) < 8 := by omega
  have hk1 : Blk (w.alloc (.cells Z4 46)) w.heap.size Z4 46 := Blk.new w Z4 46
  go_enter Tryd.func26, Tryd.ntmps26
  go_wp2_with (refine wpList_store_blk rfl 46 _ _ rfl w.heap.size 46 Z4 Z4 rfl rfl hk1 Tryd.sizePk rfl (by kernel_rfl) ?_)
  refine bodyPost_ret (v := .tuple #[.agg Z4, .bool false]) ?_ rfl ⟨rfl, ?_⟩
  · rw [results_cell_tmp Tryd.results26]
    exact ret_cell_tmp (hk1.setRow _) Tryd.underlying46 rfl Tryd.sizePk
  · exact below_setRow ((Below.refl _ _).alloc (Nat.le_refl _) _) (Nat.le_refl _) _

set_option maxRecDepth 10000 in
set_option maxHeartbeats 2000000 in
theorem runpack_any (b o k c : Nat) (l : List Int) (w : World) (hl : l.length = k + 8) (hk : k ≤ 70000) (hcap : k + 8 ≤ c) (hr : ∀ j : Nat, 0 ≤ l.getD j 0 ∧ l.getD j 0 ≤ 255)
    (hc : ∀ j, j < k + 8 → w.cell? ⟨b, o + j, none⟩ = some (.int .u8 (l.getD j 0))) (hbl : b < w.heap.size) :
    Calls Tryd.prog 26 #[.slice (some ⟨b, o, none⟩) (k + 8) c] w fun e w' => Below w.heap.size w w' ∧
      ((¬ OkP l ∧ e = .returned (.tuple #[.agg Z4, .bool false])) ∨
       (OkP l ∧ ∃ ao c2, e = .returned (.tuple #[.agg #[.int .i64 (fromL l), .int .i64 (startL l), .int .i64 (ackL l), .slice ao k c2], .bool true]) ∧ (ao = none → c2 = 0) ∧ SrcAt w' ao ((l.drop 7).take k) ∧ (∀ q, ao.map (·.block) = some q → w.heap.size ≤ q))) := by
  obtain ⟨i8, hi8, hz8, hs8, hy8⟩ := info_parts Tryd.infoU8
  have HT := hide (And.intro hi8 (And.intro hz8 (And.intro hs8 hy8)))
  have HC := hide hc
  have HR := hide hr
  clear hc hr hi8 hz8 hs8 hy8
  have HC1 : Hid (∀ j, j < k + 8 → (w.alloc (.cells Z4 46)).cell? ⟨b, o + j, none⟩ = some (.int .u8 (l.getD j 0))) := hide fun j hj => by
    rw [World.cell?_alloc_lt _ _ ⟨b, o + j, none⟩ hbl]; exact unhide HC j hj
  obtain ⟨x1, hx1⟩ : ∃ x : Nat, l.getD 1 0 = (x : Int) := ⟨(l.getD 1 0).toNat, by have := unhide HR 1; omega⟩
  obtain ⟨x2, hx2⟩ : ∃ x : Nat, l.getD 2 0 = (x : Int) := ⟨(l.getD 2 0).toNat, by have := unhide HR 2; omega⟩
  obtain ⟨x3, hx3⟩ : ∃ x : Nat, l.getD 3 0 = (x : Int) := ⟨(l.getD 3 0).toNat, by have := unhide HR 3; omega⟩
  obtain ⟨x4, hx4⟩ : ∃ x : Nat, l.getD 4 0 = (x : Int) := ⟨(l.getD 4 0).toNat, by have := unhide HR 4; omega⟩
  obtain ⟨x5, hx5⟩ : ∃ x : Nat, l.getD 5 0 = (x : Int) := ⟨(l.getD 5 0).toNat, by have := unhide HR 5; omega⟩
  have q1 : x1 < 256 := by have := unhide HR 1; omega
  have q2 : x2 < 256 := by have := unhide HR 2; omega
  have q3 : x3 < 256 := by have := unhide HR 3; omega
  have q4 : x4 < 256 := by have := unhide HR 4; omega
  have q5 : x5 < 256 := by have := unhide HR 5; omega
  have HSt : Hid (startL l = 256 * (x2 : Int) + (x3 : Int)) := hide (by simp only [startL, numL, hx2]; rw [show 2 + 1 = 3 from rfl, hx3]; omega)
  have HAk : Hid (ackL l = 256 * (x4 : Int) + (x5 : Int)) := hide (by simp only [ackL, numL, hx4]; rw [show 4 + 1 = 5 from rfl, hx5]; omega)
  have HFr : Hid (fromL l = (x1 : Int)) := hide hx1
  have HS0 := hide (SrcAt.mid (a := 7) (n := k) (fun j hj => unhide HC j (by omega)) hbl (by omega))
  have HCs := hide (And.intro (And.intro hx1 hx2) (And.intro hx3 (And.intro hx4 hx5)))
  clear hx1 hx2 hx3 hx4 hx5
  have w1 := i64_id (x1 : Int) (by omega) (by omega)
  have w2 := i64_id (x2 : Int) (by omega) (by omega)
  have w3 := i64_id (x3 : Int) (by omega) (by omega)
  have w4 := i64_id (x4 : Int) (by omega) (by omega)
  have w5 := i64_id (x5 : Int) (by omega) (by omega)
  have w6 := i64_id (256 * (x2 : Int)) (by omega) (by omega)
  have w7 := i64_id (256 * (x4 : Int)) (by omega) (by omega)
  have w8 := i64_id (256 * (x2 : Int) + (x3 : Int)) (by omega) (by omega)
  have w9 := i64_id (256 * (x4 : Int) + (x5 : Int)) (by omega) (by omega)
  have hwk := i64_id ((k : Int) + 7) (by omega) (by omega)
  have hw1 : (k : Int) + 8 - 1 = (k : Int) + 7 := by omega
  have ht : ((k : Int) + 7).toNat = k + 7 := by omega
  have i1 : (1 : Int) < (k : Int) + 8 := by omega
  have i2 : (2 : Int) < (k : Int) + 8 := by omega
  have i3 : (3 : Int) < (k : Int) + 8 := by omega
  have i4 : (4 : Int) < (k : Int) + 8 := by omega
  have i5 : (5 : Int) < (k : Int) + 8 := by omega
  have i7 : (7 : Int) ≤ (k : Int) + 7 := by omega
  have i9 : (k : Int) + 7 ≤ (c : Int) := by omega
  have i10 : ¬ c = 7 := by omega
  have i13 : (0 : Int) ≤ (k : Int) + 7 := by omega
  have hd8 : decide ((k : Int) + 8 < 8) = false := by simp; omega
  have C0 : Hid (∀ W, HeldP (w.alloc (.cells Z4 46)) W → W.cell? ⟨b, o + 1, none⟩ = some (.int .u8 (x1 : Int)) ∧ W.cell? ⟨b, o + 2, none⟩ = some (.int .u8 (x2 : Int)) ∧ W.cell? ⟨b, o + 3, none⟩ = some (.int .u8 (x3 : Int)) ∧ W.cell? ⟨b, o + 4, none⟩ = some (.int .u8 (x4 : Int)) ∧ W.cell? ⟨b, o + 5, none⟩ = some (.int .u8 (x5 : Int)) ∧ HeldP (w.alloc (.cells Z4 46)) W) := hide fun W h => by
    have hx := unhide HCs
    have g : ∀ j, j < k + 8 → W.cell? ⟨b, o + j, none⟩ = some (.int .u8 (l.getD j 0)) := fun j hj => by rw [h.below.cell (p := ⟨b, o + j, none⟩) (by simp; omega)]; exact unhide HC1 j hj
    exact ⟨by rw [g 1 (by omega), hx.1.1], by rw [g 2 (by omega), hx.1.2], by rw [g 3 (by omega), hx.2.1], by rw [g 4 (by omega), hx.2.2.1], by rw [g 5 (by omega), hx.2.2.2], h⟩
  go_enter Tryd.func26, Tryd.ntmps26
  go_wp2_with fail
  go_cut [4] from 12 to 36 (fun s4 wx => s4 = .pointer (some ⟨w.heap.size + 1, 0, none⟩) ∧ Blk wx (w.heap.size + 1) #[.int .i64 (x1 : Int), .int .i64 (256 * (x2 : Int) + (x3 : Int)), .int .i64 (256 * (x4 : Int) + (x5 : Int)), .slice none 0 0] 46 ∧ Below (w.heap.size + 1) (w.alloc (.cells Z4 46)) wx)
  case first =>
    go_region_held3 (fun W => W.cell? ⟨b, o + 1, none⟩ = some (.int .u8 (x1 : Int)) ∧ W.cell? ⟨b, o + 2, none⟩ = some (.int .u8 (x2 : Int)) ∧ W.cell? ⟨b, o + 3, none⟩ = some (.int .u8 (x3 : Int)) ∧ W.cell? ⟨b, o + 4, none⟩ = some (.int .u8 (x4 : Int)) ∧ W.cell? ⟨b, o + 5, none⟩ = some (.int .u8 (x5 : Int)) ∧ HeldP (w.alloc (.cells Z4 46)) W)
      ((refine unhide C0 _ ⟨?_⟩; repeat (first | assumption | exact Below.refl _ _ | refine Go.below_drewN ?_ _ | refine Below.drew ?_ | refine below_set4 ?_ _ _ _ _ (by simp) | refine Below.alloc ?_ (by first | omega | (simp; done) | (simp; omega)) _)))
      (fail)
    all_goals (go_wp2_with fail; go_meet)
    all_goals (case rel =>
      refine ⟨rfl, ?_, ((Below.refl _ _).alloc (by simp) _).drew⟩
      have := Blk.new (w.alloc (.cells Z4 46)) #[.int .i64 (x1 : Int), .int .i64 (256 * (x2 : Int) + (x3 : Int)), .int .i64 (256 * (x4 : Int) + (x5 : Int)), .slice none 0 0] 46
      rw [World.size_alloc] at this
      exact this.drew)
  case rest =>
    obtain ⟨rfl, hk4, hb4⟩ := hcut
    obtain ⟨W1, hW1⟩ : ∃ x, x = wc := ⟨_, rfl⟩
    subst hW1
    have hz1 := hb4.size
    simp only [World.size_alloc] at hz1
    have hg4 := hk4.lt
    have HS1 : Hid (SrcAt W1 (some ⟨b, o + 7, none⟩) ((l.drop 7).take k)) := hide (((unhide HS0).alloc _).below (by simp) hb4)
    have HKr : Hid (Blk W1 w.heap.size Z4 46) := hide ((Blk.new w Z4 46).below (by omega) hb4)
    have HB1 : Hid (Below w.heap.size w W1) := hide (((Below.refl _ _).alloc (Nat.le_refl _) _).trans (hb4.mono (by omega)))
    have f3 : W1.cell? ⟨w.heap.size + 1, 3, none⟩ = some (.slice none 0 0) := hk4.cell 3
    have z3 := hk4.frozen 3
    have HK4 := hide hk4
    have hlt : ((l.drop 7).take k).length = k := by simp [hl]
    clear hk4 hb4
    go_wp2_with fail
    go_cut [] from 37 to 45 (fun wx => ∃ ao c2, Blk wx (w.heap.size + 1) #[.int .i64 (x1 : Int), .int .i64 (256 * (x2 : Int) + (x3 : Int)), .int .i64 (256 * (x4 : Int) + (x5 : Int)), .slice ao k c2] 46 ∧ Blk wx w.heap.size Z4 46 ∧ (ao = none → c2 = 0) ∧ SrcAt wx ao ((l.drop 7).take k) ∧ (∀ q, ao.map (·.block) = some q → W1.heap.size ≤ q) ∧ Below w.heap.size w wx)
    case first =>
      go_region_law (refine step_append_src rfl (.tmp 38) (.tmp 43) 27 rfl W1.heap.size 5 i8 (.int .u8 0) Tryd.underlying27 (unhide HT).1 (unhide HT).2.1 (unhide HT).2.2.1 (unhide HT).2.2.2 rfl (.slice none 0 0) 0 [] (by simp [Act.eval]) (World.ownsRow_nil _ _ _ _) (some ⟨b, o + 7, none⟩) k (c - 7) ((l.drop 7).take k) (by simp [Act.eval]) (fun h => by cases h) hlt ((unhide HS1).below (Nat.le_refl _) (Below.refl _ _).drew) (by omega) (Nat.le_refl _) ?_; intro v7 w7 hown7 hgr7 hnil7; obtain ⟨ao, c2, rfl, hc2, hs2, hq2⟩ := own_src (l := (l.drop 7).take k) (n := k) (by simpa using hown7) hlt; have hz7 : W1.heap.size ≤ w7.heap.size := hgr7.size; have hk7 : Blk w7 (w.heap.size + 1) #[.int .i64 (x1 : Int), .int .i64 (256 * (x2 : Int) + (x3 : Int)), .int .i64 (256 * (x4 : Int) + (x5 : Int)), .slice none 0 0] 46 := blk_none (unhide HK4).drew hgr7; have f3' : w7.cell? ⟨w.heap.size + 1, 3, none⟩ = some (.slice none 0 0) := hk7.cell 3; have z3' := hk7.frozen 3; have HK7 := hide hk7; have HGR := hide hgr7; have HSR := hide hs2; clear hgr7 hk7 hs2)
      all_goals (go_wp2_with fail; go_meet)
      all_goals (case rel =>
        refine ⟨ao, c2, ?_, (blk_none (unhide HKr).drew (unhide HGR)).setOther _ _ (by simp), hc2, (unhide HSR).grown (grown_set w7 (w.heap.size + 1) 3 _) (fun q hq => by have := hq2 q hq; omega), hq2, (((unhide HB1).drew).trans (below_none (unhide HGR) (by simp; omega))).setCell (by simp) _⟩
        have := (unhide HK7).set 3 (.slice ao k c2)
        simpa using this)
    case rest =>
      obtain ⟨ao, c2, hk5, hkr5, hc2, hs5, hq5, hb5⟩ := hcut
      obtain ⟨W2, hW2⟩ : ∃ x, x = wc := ⟨_, rfl⟩
      subst hW2
      have b0 : W2.cell? ⟨w.heap.size + 1, 0, none⟩ = some (.int .i64 (x1 : Int)) := hk5.cell 0
      have b1 : W2.cell? ⟨w.heap.size + 1, 1, none⟩ = some (.int .i64 (256 * (x2 : Int) + (x3 : Int))) := hk5.cell 1
      have b2 : W2.cell? ⟨w.heap.size + 1, 2, none⟩ = some (.int .i64 (256 * (x4 : Int) + (x5 : Int))) := hk5.cell 2
      have b3 : W2.cell? ⟨w.heap.size + 1, 3, none⟩ = some (.slice ao k c2) := hk5.cell 3
      have hg5 := hk5.lt
      have HK5 := hide hk5
      have HKR5 := hide hkr5
      have HC2 := hide hc2
      have HS5 := hide hs5
      have HQ5 := hide hq5
      have HB5 := hide hb5
      have hlen8 : l.length - 8 = k := by omega
      clear hk5 hkr5 hc2 hs5 hq5 hb5 f3 z3 HC1 HCs C0
      have HOK : Hid (OkP l ↔ (packL (x1 : Int) (256 * (x2 : Int) + (x3 : Int)) (256 * (x4 : Int) + (x5 : Int)) ((l.drop 7).take k) = l ∧ GoodP (x1 : Int) (256 * (x2 : Int) + (x3 : Int)) (256 * (x4 : Int) + (x5 : Int)) k)) := by
        have := pack_is l k hl (unhide HR)
        unfold OkP
        rw [hlen8, unhide HFr, unhide HSt, unhide HAk] at *
        rw [this]
        exact hide Iff.rfl
      obtain ⟨M, hM⟩ : ∃ M, packL (x1 : Int) (256 * (x2 : Int) + (x3 : Int)) (256 * (x4 : Int) + (x5 : Int)) ((l.drop 7).take k) = M := ⟨_, rfl⟩
      have hMl : M.length = k + 8 := by rw [← hM, packL_len, hlt]; omega
      rw [hM] at HOK
      have HM := hide hM
      clear hM
      by_cases hg : GoodP (x1 : Int) (256 * (x2 : Int) + (x3 : Int)) (256 * (x4 : Int) + (x5 : Int)) k
      · have HG := hide hg
        clear hg
        go_wp2_with fail
        refine (rpack_yes _ _ _ ao k c2 ((l.drop 7).take k) W2 (unhide HG) hlt (unhide HC2) (unhide HS5)).mono ?_
        rintro e W3 ⟨v3, rfl, hown3, hb3⟩
        rw [unhide HM] at hown3
        obtain ⟨g3, c3, rfl, hbg3, hgl3, hcap3⟩ := own_some hown3 (by omega)
        have hz3 := hb3.size
        have HKR3 := hide ((unhide HKR5).below (by omega) hb3)
        have HK3 := hide ((unhide HK5).below hg5 hb3)
        have HB3 := hide ((unhide HB5).trans (hb3.mono (unhide HB5).size))
        have HS3 := hide ((unhide HS5).below (Nat.le_refl _) hb3)
        have HC3 : Hid (∀ j, j < k + 8 → W3.cell? ⟨b, o + j, none⟩ = some (.int .u8 (l.getD j 0))) := hide fun j hj => by
          rw [(unhide HB3).cell (p := ⟨b, o + j, none⟩) hbl]; exact unhide HC j hj
        have HO3 := hide hown3
        have hne8 : ((8 : Int) + (k : Int) != (k : Int) + 8) = false := by rw [Int.add_comm]; simp
        clear hown3 hb3 b0 b1 b2 b3 w1 w2 w3 w4 w5 w6 w7 w8 w9 i1 i2 i3 i4 i5 i7 i9 i10 i13
        go_wp2_with fail
        go_loopw [7] (fun i wr => ∃ j : Nat, j ≤ k + 8 ∧ i = .int .i64 j ∧ (∀ q, q < j → M.getD q 0 = l.getD q 0) ∧ ∃ nq, wr = W3.drewN nq) (fun i _ => k + 8 - (intOf i).toNat)
        case atStart => exact ⟨0, by omega, rfl, fun q hq => by omega, 0, rfl⟩
        case round =>
          obtain ⟨j, hj, rfl, heq, nq0, rfl⟩ := hrel
          by_cases hjl : j < k + 8
          · have hj8 : (j : Int) < (k : Int) + 8 := by omega
            have hj9 : (j : Int) < 8 + (k : Int) := by omega
            obtain ⟨y, hy⟩ : ∃ y, M.getD j 0 = y := ⟨_, rfl⟩
            obtain ⟨x, hx⟩ : ∃ x, l.getD j 0 = x := ⟨_, rfl⟩
            have cM : W3.cell? ⟨g3, j, none⟩ = some (.int .u8 y) := by
              have := own_num (unhide HO3) (by rw [hMl]; omega) j (by omega)
              rw [Nat.zero_add, hy] at this; exact this
            have cl : W3.cell? ⟨b, o + j, none⟩ = some (.int .u8 x) := by rw [unhide HC3 j hjl, hx]
            have HY := hide hy
            have HX := hide hx
            have HEQ := hide heq
            clear hy hx heq
            by_cases hyx : y = x
            · subst hyx
              have hne : (y != y) = false := by simp
              go_wp2_with fail
              go_quiet (fail)
              go_wp2_with fail
              go_roundw
              case rel =>
                refine ⟨j + 1, by omega, by go_num, fun q hq => ?_, _, rfl⟩
                by_cases hqj : q < j
                · exact unhide HEQ q hqj
                · obtain rfl : q = j := by omega
                  rw [unhide HY, unhide HX]
              case measure => simp [intOf]; omega
            · have hne : (y != x) = true := by rw [bne_iff_ne]; exact hyx
              have HYX := hide hyx
              clear hyx
              go_wp2_with fail
              go_quiet (fail)
              go_wp2_with (refine wpList_store_blk rfl 46 _ _ rfl w.heap.size 46 Z4 Z4 rfl rfl ((unhide HKR3).drewN _) Tryd.sizePk rfl (by kernel_rfl) ?_)
              refine bodyPost_ret (v := .tuple #[.agg Z4, .bool false]) ?_ rfl ⟨?_, .inl ⟨?_, rfl⟩⟩
              · rw [results_cell_tmp Tryd.results26]
                exact ret_cell_tmp (((unhide HKR3).drewN _).setRow _) Tryd.underlying46 rfl Tryd.sizePk
              · exact below_setRow (Go.below_drewN (unhide HB3) _) (Nat.le_refl _) _
              · intro hok
                have := ((unhide HOK).1 hok).1
                apply unhide HYX
                rw [← unhide HY, ← unhide HX, this]
          · have hj8 : ¬ (j : Int) < (k : Int) + 8 := by omega
            have HL : Hid (OkP l) := hide ((unhide HOK).2 ⟨ext_getD M l (by omega) (fun q hq => heq q (by omega)), unhide HG⟩)
            go_wp2_with (first
              | (refine wpList_load_blk rfl 46 _ rfl (w.heap.size + 1) rfl 46 _ _ ((unhide HK3).drewN _) Tryd.underlying46 rfl Tryd.sizePk ?_)
              | (refine wpList_store_blk rfl 46 _ _ rfl w.heap.size 46 Z4 #[.int .i64 (x1 : Int), .int .i64 (256 * (x2 : Int) + (x3 : Int)), .int .i64 (256 * (x4 : Int) + (x5 : Int)), .slice ao k c2] rfl rfl ((unhide HKR3).drewN _) Tryd.sizePk rfl (by kernel_rfl) ?_))
            refine bodyPost_ret (v := .tuple #[.agg #[.int .i64 (x1 : Int), .int .i64 (256 * (x2 : Int) + (x3 : Int)), .int .i64 (256 * (x4 : Int) + (x5 : Int)), .slice ao k c2], .bool true]) ?_ rfl ⟨?_, .inr ⟨unhide HL, ao, c2, ?_, unhide HC2, ?_, ?_⟩⟩
            · rw [results_cell_tmp Tryd.results26]
              exact ret_cell_tmp (((unhide HKR3).drewN _).setRow _) Tryd.underlying46 rfl Tryd.sizePk
            · exact below_setRow (Go.below_drewN (unhide HB3) _) (Nat.le_refl _) _
            · rw [unhide HFr, unhide HSt, unhide HAk]
            · exact ((unhide HS3).below (Nat.le_refl _) (Go.below_drewN (Below.refl _ _) _)).grown (grown_setRow _ w.heap.size _) (fun q hq => by have := unhide HQ5 q hq; omega)
            · intro a ha
              have := unhide HQ5 a.block (by rw [ha]; rfl)
              omega
      · have HG := hide hg
        clear hg
        go_wp2_with fail
        refine (rpack_no _ _ _ ao k c2 W2 (unhide HG)).mono ?_
        rintro e W3 ⟨rfl, hb3⟩
        have HKR3 := hide ((unhide HKR5).below (by omega) hb3)
        have HB3 := hide ((unhide HB5).trans (hb3.mono (unhide HB5).size))
        clear hb3 b0 b1 b2 b3
        go_wp2_with (refine wpList_store_blk rfl 46 _ _ rfl w.heap.size 46 Z4 Z4 rfl rfl (unhide HKR3) Tryd.sizePk rfl (by kernel_rfl) ?_)
        refine bodyPost_ret (v := .tuple #[.agg Z4, .bool false]) ?_ rfl ⟨?_, .inl ⟨?_, rfl⟩⟩
        · rw [results_cell_tmp Tryd.results26]
          exact ret_cell_tmp ((unhide HKR3).setRow _) Tryd.underlying46 rfl Tryd.sizePk
        · exact below_setRow (unhide HB3) (Nat.le_refl _) _
        · intro hok
          exact unhide HG ((unhide HOK).1 hok).2
end Go.Proofs.YtandblanpafjoaaDoor
