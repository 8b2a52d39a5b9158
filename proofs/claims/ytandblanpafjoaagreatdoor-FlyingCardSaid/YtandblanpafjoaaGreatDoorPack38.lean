import Derived.Test.YtandblanpafjoaaGreatDoorPack04
import Derived.Test.YtandblanpafjoaaGreatDoorPack15
import Derived.Deep.RegionHeld3
import Derived.Deep.DeepCutAuto
import Derived.Test.YtandblanpafjoaaGreatDoorPack36
namespace Go.Proofs.YtandblanpafjoaaGreatDoor
open Go.RowKit Go.Extern.Stop Go.Stop Go.Extern
theorem blk_none {w w' : World} {g : Nat} {cs : Array Value} {t : TypeId} (h : Blk w g cs t) (hg : w.grownBy w' none) : Blk w' g cs t := by
  have := h.lt
  unfold Blk at h ⊢
  rw [hg.block g this (by simp)]; exact h
theorem below_none {B : Nat} {w w' : World} (h : w.grownBy w' none) (hB : B ≤ w.heap.size) : Below B w w' :=
  ⟨h.os, h.tape, h.output, h.size, fun k hk => h.block k (by omega) (by simp)⟩
theorem ext_getD (a b : List Int) (hl : a.length = b.length) (h : ∀ j, j < a.length → a.getD j 0 = b.getD j 0) : a = b := by
  apply List.ext_getElem hl
  intro j h1 h2
  have := h j h1
  rw [List.getD_eq_getElem?_getD, List.getD_eq_getElem?_getD, List.getElem?_eq_getElem h1, List.getElem?_eq_getElem h2] at this
  exact this
set_option maxRecDepth 10000 in
set_option maxHeartbeats 1000000 in
theorem runpack_few (b o n c : Nat) (w : World) (hn : n < 8) :
    Calls Tryz.prog 64 #[.slice (some ⟨b, o, none⟩) n c] w fun e w' => e = .returned (.tuple #[.agg Z4, .bool false]) ∧ Below w.heap.size w w' := by
  have h8 : (n : Int) < 8 := by omega
  have hk1 : Blk (w.alloc (.cells Z4 130)) w.heap.size Z4 130 := Blk.new w Z4 130
  go_enter Tryz.func64, Tryz.ntmps64
  go_wp2_with (refine wpList_store_blk rfl 130 _ _ rfl w.heap.size 130 Z4 Z4 rfl rfl hk1 Tryz.sizePk rfl (by kernel_rfl) ?_)
  refine bodyPost_ret (v := .tuple #[.agg Z4, .bool false]) ?_ rfl ⟨rfl, ?_⟩
  · rw [results_cell_tmp Tryz.results64]
    exact ret_cell_tmp (hk1.setRow _) Tryz.underlying130 rfl Tryz.sizePk
  · exact below_setRow ((Below.refl _ _).alloc (Nat.le_refl _) _) (Nat.le_refl _) _
set_option maxRecDepth 10000 in
set_option maxHeartbeats 2000000 in
theorem runpack_any (b o k c : Nat) (l : List Int) (w : World) (hl : l.length = k + 8) (hk : k ≤ 70000) (hcap : k + 8 ≤ c) (hr : ∀ j : Nat, 0 ≤ l.getD j 0 ∧ l.getD j 0 ≤ 255)
    (hc : ∀ j, j < k + 8 → w.cell? ⟨b, o + j, none⟩ = some (.int .u8 (l.getD j 0))) (hbl : b < w.heap.size) :
    Calls Tryz.prog 64 #[.slice (some ⟨b, o, none⟩) (k + 8) c] w fun e w' => Below w.heap.size w w' ∧
      ((¬ OkP l ∧ e = .returned (.tuple #[.agg Z4, .bool false])) ∨
       (OkP l ∧ ∃ ao c2, e = .returned (.tuple #[.agg #[.int .i64 (fromL l), .int .i64 (startL l), .int .i64 (ackL l), .slice ao k c2], .bool true]) ∧ (ao = none → c2 = 0) ∧ SrcAt w' ao ((l.drop 7).take k) ∧ (∀ q, ao.map (·.block) = some q → w.heap.size ≤ q))) := by
  obtain ⟨i8, hi8, hz8, hs8, hy8⟩ := info_parts Tryz.infoU8
  have HT := hide (And.intro hi8 (And.intro hz8 (And.intro hs8 hy8)))
  have HC := hide hc
  have HR := hide hr
  clear hc hr hi8 hz8 hs8 hy8
  have HC1 : Hid (∀ j, j < k + 8 → (w.alloc (.cells Z4 130)).cell? ⟨b, o + j, none⟩ = some (.int .u8 (l.getD j 0))) := hide fun j hj => by
    rw [World.cell?_alloc_lt _ _ ⟨b, o + j, none⟩ hbl]; exact unhide HC j hj
  obtain ⟨x1, hx1⟩ : ∃ x : Nat, l.getD 1 0 = (x : Int) := ⟨(l.getD 1 0).toNat, by have := unhide HR 1; omega⟩
  obtain ⟨x2, hx2⟩ : ∃ x : Nat, l.getD 2 0 = (x : Int) := ⟨(l.getD 2 0).toNat, by have := unhide HR 2; omega⟩
  obtain ⟨x3, hx3⟩ : ∃ x : Nat, l.getD 3 0 = (x : Int) := ⟨(l.getD 3 0).toNat, by have := unhide HR 3; omega⟩
  obtain ⟨x4, hx4⟩ : ∃ x : Nat, l.getD 4 0 = (x : Int) := ⟨(l.getD 4 0).toNat, by have := unhide HR 4; omega⟩
  obtain ⟨x5, hx5⟩ : ∃ x : Nat, l.getD 5 0 = (x : Int) := ⟨(l.getD 5 0).toNat, by have := unhide HR 5; omega⟩
  have q1 : x1 < 256 := by have := unhide HR 1; omega
  have q2 : x2 < 256 := by have := unhide HR 2; omega
  have q3 : x3 < 256 := by have := unhide HR 3; omega
  have q4 : x4 < 256 := by have := unhide HR 4; omega
  have q5 : x5 < 256 := by have := unhide HR 5; omega
  have HSt : Hid (startL l = 256 * (x2 : Int) + (x3 : Int)) := hide (by simp only [startL, numL, hx2]; rw [show 2 + 1 = 3 from rfl, hx3]; omega)
  have HAk : Hid (ackL l = 256 * (x4 : Int) + (x5 : Int)) := hide (by simp only [ackL, numL, hx4]; rw [show 4 + 1 = 5 from rfl, hx5]; omega)
  have HFr : Hid (fromL l = (x1 : Int)) := hide hx1
  have HS0 := hide (SrcAt.mid (a := 7) (n := k) (fun j hj => unhide HC j (by omega)) hbl (by omega))
  have HCs := hide (And.intro (And.intro hx1 hx2) (And.intro hx3 (And.intro hx4 hx5)))
  clear hx1 hx2 hx3 hx4 hx5
  have w1 := i64_id (x1 : Int) (by omega) (by omega)
  have w2 := i64_id (x2 : Int) (by omega) (by omega)
  have w3 := i64_id (x3 : Int) (by omega) (by omega)
  have w4 := i64_id (x4 : Int) (by omega) (by omega)
  have w5 := i64_id (x5 : Int) (by omega) (by omega)
  have w6 := i64_id (256 * (x2 : Int)) (by omega) (by omega)
  have w7 := i64_id (256 * (x4 : Int)) (by omega) (by omega)
  have w8 := i64_id (256 * (x2 : Int) + (x3 : Int)) (by omega) (by omega)
  have w9 := i64_id (256 * (x4 : Int) + (x5 : Int)) (by omega) (by omega)
  have hwk := i64_id ((k : Int) + 7) (by omega) (by omega)
  have hw1 : (k : Int) + 8 - 1 = (k : Int) + 7 := by omega
  have ht : ((k : Int) + 7).toNat = k + 7 := by omega
  have i1 : (1 : Int) < (k : Int) + 8 := by omega
  have i2 : (2 : Int) < (k : Int) + 8 := by omega
  have i3 : (3 : Int) < (k : Int) + 8 := by omega
  have i4 : (4 : Int) < (k : Int) + 8 := by omega
  have i5 : (5 : Int) < (k : Int) + 8 := by omega
  have i7 : (7 : Int) ≤ (k : Int) + 7 := by omega
  have i9 : (k : Int) + 7 ≤ (c : Int) := by omega
  have i10 : ¬ c = 7 := by omega
  have i13 : (0 : Int) ≤ (k : Int) + 7 := by omega
  have hd8 : decide ((k : Int) + 8 < 8) = false := by simp; omega
  have C0 : Hid (∀ W, HeldP (w.alloc (.cells Z4 130)) W → W.cell? ⟨b, o + 1, none⟩ = some (.int .u8 (x1 : Int)) ∧ W.cell? ⟨b, o + 2, none⟩ = some (.int .u8 (x2 : Int)) ∧ W.cell? ⟨b, o + 3, none⟩ = some (.int .u8 (x3 : Int)) ∧ W.cell? ⟨b, o + 4, none⟩ = some (.int .u8 (x4 : Int)) ∧ W.cell? ⟨b, o + 5, none⟩ = some (.int .u8 (x5 : Int)) ∧ HeldP (w.alloc (.cells Z4 130)) W) := hide fun W h => by
    have hx := unhide HCs
    have g : ∀ j, j < k + 8 → W.cell? ⟨b, o + j, none⟩ = some (.int .u8 (l.getD j 0)) := fun j hj => by rw [h.below.cell (p := ⟨b, o + j, none⟩) (by simp; omega)]; exact unhide HC1 j hj
    exact ⟨by rw [g 1 (by omega), hx.1.1], by rw [g 2 (by omega), hx.1.2], by rw [g 3 (by omega), hx.2.1], by rw [g 4 (by omega), hx.2.2.1], by rw [g 5 (by omega), hx.2.2.2], h⟩
  go_enter Tryz.func64, Tryz.ntmps64
  go_wp2_with fail
  go_cut [4] from 12 to 36 (fun s4 wx => s4 = .pointer (some ⟨w.heap.size + 1, 0, none⟩) ∧ Blk wx (w.heap.size + 1) #[.int .i64 (x1 : Int), .int .i64 (256 * (x2 : Int) + (x3 : Int)), .int .i64 (256 * (x4 : Int) + (x5 : Int)), .slice none 0 0] 130 ∧ Below (w.heap.size + 1) (w.alloc (.cells Z4 130)) wx)
  case first =>
    go_region_held3 (fun W => W.cell? ⟨b, o + 1, none⟩ = some (.int .u8 (x1 : Int)) ∧ W.cell? ⟨b, o + 2, none⟩ = some (.int .u8 (x2 : Int)) ∧ W.cell? ⟨b, o + 3, none⟩ = some (.int .u8 (x3 : Int)) ∧ W.cell? ⟨b, o + 4, none⟩ = some (.int .u8 (x4 : Int)) ∧ W.cell? ⟨b, o + 5, none⟩ = some (.int .u8 (x5 : Int)) ∧ HeldP (w.alloc (.cells Z4 130)) W)
      ((refine unhide C0 _ ⟨?_⟩; repeat (first | assumption | exact Below.refl _ _ | refine Go.below_drewN ?_ _ | refine Below.drew ?_ | refine below_set4 ?_ _ _ _ _ (by simp) | refine Below.alloc ?_ (by first | omega | (simp; done) | (simp; omega)) _)))
      (fail)
    all_goals (go_wp2_with fail; go_meet)
    all_goals (case rel =>
      refine ⟨rfl, ?_, ((Below.refl _ _).alloc (by simp) _).drew⟩
      have := Blk.new (w.alloc (.cells Z4 130)) #[.int .i64 (x1 : Int), .int .i64 (256 * (x2 : Int) + (x3 : Int)), .int .i64 (256 * (x4 : Int) + (x5 : Int)), .slice none 0 0] 130
      rw [World.size_alloc] at this
      exact this.drew)
  case rest =>
    obtain ⟨rfl, hk4, hb4⟩ := hcut
    obtain ⟨W1, hW1⟩ : ∃ x, x = wc := ⟨_, rfl⟩
    subst hW1
    have hz1 := hb4.size
    simp only [World.size_alloc] at hz1
    have hg4 := hk4.lt
    have HS1 : Hid (SrcAt W1 (some ⟨b, o + 7, none⟩) ((l.drop 7).take k)) := hide (((unhide HS0).alloc _).below (by simp) hb4)
    have HKr : Hid (Blk W1 w.heap.size Z4 130) := hide ((Blk.new w Z4 130).below (by omega) hb4)
    have HB1 : Hid (Below w.heap.size w W1) := hide (((Below.refl _ _).alloc (Nat.le_refl _) _).trans (hb4.mono (by omega)))
    have f3 : W1.cell? ⟨w.heap.size + 1, 3, none⟩ = some (.slice none 0 0) := hk4.cell 3
    have z3 := hk4.frozen 3
    have HK4 := hide hk4
    have hlt : ((l.drop 7).take k).length = k := by simp [hl]
    clear hk4 hb4
    go_wp2_with fail
    go_cut [] from 37 to 45 (fun wx => ∃ ao c2, Blk wx (w.heap.size + 1) #[.int .i64 (x1 : Int), .int .i64 (256 * (x2 : Int) + (x3 : Int)), .int .i64 (256 * (x4 : Int) + (x5 : Int)), .slice ao k c2] 130 ∧ Blk wx w.heap.size Z4 130 ∧ (ao = none → c2 = 0) ∧ SrcAt wx ao ((l.drop 7).take k) ∧ (∀ q, ao.map (·.block) = some q → W1.heap.size ≤ q) ∧ Below w.heap.size w wx)
    case first =>
      go_region_law (refine step_append_src rfl (.tmp 38) (.tmp 43) 46 rfl W1.heap.size 5 i8 (.int .u8 0) Tryz.underlying46 (unhide HT).1 (unhide HT).2.1 (unhide HT).2.2.1 (unhide HT).2.2.2 rfl (.slice none 0 0) 0 [] (by simp [Act.eval]) (World.ownsRow_nil _ _ _ _) (some ⟨b, o + 7, none⟩) k (c - 7) ((l.drop 7).take k) (by simp [Act.eval]) (fun h => by cases h) hlt ((unhide HS1).below (Nat.le_refl _) (Below.refl _ _).drew) (by omega) (Nat.le_refl _) ?_; intro v7 w7 hown7 hgr7 hnil7; obtain ⟨ao, c2, rfl, hc2, hs2, hq2⟩ := own_src (l := (l.drop 7).take k) (n := k) (by simpa using hown7) hlt; have hz7 : W1.heap.size ≤ w7.heap.size := hgr7.size; have hk7 : Blk w7 (w.heap.size + 1) #[.int .i64 (x1 : Int), .int .i64 (256 * (x2 : Int) + (x3 : Int)), .int .i64 (256 * (x4 : Int) + (x5 : Int)), .slice none 0 0] 130 := blk_none (unhide HK4).drew hgr7; have f3' : w7.cell? ⟨w.heap.size + 1, 3, none⟩ = some (.slice none 0 0) := hk7.cell 3; have z3' := hk7.frozen 3; have HK7 := hide hk7; have HGR := hide hgr7; have HSR := hide hs2; clear hgr7 hk7 hs2)
      all_goals (go_wp2_with fail; go_meet)
      all_goals (case rel =>
        refine ⟨ao, c2, ?_, (blk_none (unhide HKr).drew (unhide HGR)).setOther _ _ (by simp), hc2, (unhide HSR).grown (grown_set w7 (w.heap.size + 1) 3 _) (fun q hq => by have := hq2 q hq; omega), hq2, (((unhide HB1).drew).trans (below_none (unhide HGR) (by simp; omega))).setCell (by simp) _⟩
        have := (unhide HK7).set 3 (.slice ao k c2)
        simpa using this)
    case rest =>
      obtain ⟨ao, c2, hk5, hkr5, hc2, hs5, hq5, hb5⟩ := hcut
      obtain ⟨W2, hW2⟩ : ∃ x, x = wc := ⟨_, rfl⟩
      subst hW2
      have b0 : W2.cell? ⟨w.heap.size + 1, 0, none⟩ = some (.int .i64 (x1 : Int)) := hk5.cell 0
      have b1 : W2.cell? ⟨w.heap.size + 1, 1, none⟩ = some (.int .i64 (256 * (x2 : Int) + (x3 : Int))) := hk5.cell 1
      have b2 : W2.cell? ⟨w.heap.size + 1, 2, none⟩ = some (.int .i64 (256 * (x4 : Int) + (x5 : Int))) := hk5.cell 2
      have b3 : W2.cell? ⟨w.heap.size + 1, 3, none⟩ = some (.slice ao k c2) := hk5.cell 3
      have hg5 := hk5.lt
      have HK5 := hide hk5
      have HKR5 := hide hkr5
      have HC2 := hide hc2
      have HS5 := hide hs5
      have HQ5 := hide hq5
      have HB5 := hide hb5
      have hlen8 : l.length - 8 = k := by omega
      clear hk5 hkr5 hc2 hs5 hq5 hb5 f3 z3 HC1 HCs C0
      have HOK : Hid (OkP l ↔ (packL (x1 : Int) (256 * (x2 : Int) + (x3 : Int)) (256 * (x4 : Int) + (x5 : Int)) ((l.drop 7).take k) = l ∧ GoodP (x1 : Int) (256 * (x2 : Int) + (x3 : Int)) (256 * (x4 : Int) + (x5 : Int)) k)) := by
        have := pack_is l k hl (unhide HR)
        unfold OkP
        rw [hlen8, unhide HFr, unhide HSt, unhide HAk] at *
        rw [this]
        exact hide Iff.rfl
      obtain ⟨M, hM⟩ : ∃ M, packL (x1 : Int) (256 * (x2 : Int) + (x3 : Int)) (256 * (x4 : Int) + (x5 : Int)) ((l.drop 7).take k) = M := ⟨_, rfl⟩
      have hMl : M.length = k + 8 := by rw [← hM, packL_len, hlt]; omega
      rw [hM] at HOK
      have HM := hide hM
      clear hM
      by_cases hg : GoodP (x1 : Int) (256 * (x2 : Int) + (x3 : Int)) (256 * (x4 : Int) + (x5 : Int)) k
      · have HG := hide hg
        clear hg
        go_wp2_with fail
        refine (rpack_yes _ _ _ ao k c2 ((l.drop 7).take k) W2 (unhide HG) hlt (unhide HC2) (unhide HS5)).mono ?_
        rintro e W3 ⟨v3, rfl, hown3, hb3⟩
        rw [unhide HM] at hown3
        obtain ⟨g3, c3, rfl, hbg3, hgl3, hcap3⟩ := own_some hown3 (by omega)
        have hz3 := hb3.size
        have HKR3 := hide ((unhide HKR5).below (by omega) hb3)
        have HK3 := hide ((unhide HK5).below hg5 hb3)
        have HB3 := hide ((unhide HB5).trans (hb3.mono (unhide HB5).size))
        have HS3 := hide ((unhide HS5).below (Nat.le_refl _) hb3)
        have HC3 : Hid (∀ j, j < k + 8 → W3.cell? ⟨b, o + j, none⟩ = some (.int .u8 (l.getD j 0))) := hide fun j hj => by
          rw [(unhide HB3).cell (p := ⟨b, o + j, none⟩) hbl]; exact unhide HC j hj
        have HO3 := hide hown3
        have hne8 : ((8 : Int) + (k : Int) != (k : Int) + 8) = false := by rw [Int.add_comm]; simp
        clear hown3 hb3 b0 b1 b2 b3 w1 w2 w3 w4 w5 w6 w7 w8 w9 i1 i2 i3 i4 i5 i7 i9 i10 i13
        go_wp2_with fail
        go_loopw [7] (fun i wr => ∃ j : Nat, j ≤ k + 8 ∧ i = .int .i64 j ∧ (∀ q, q < j → M.getD q 0 = l.getD q 0) ∧ ∃ nq, wr = W3.drewN nq) (fun i _ => k + 8 - (intOf i).toNat)
        case atStart => exact ⟨0, by omega, rfl, fun q hq => by omega, 0, rfl⟩
        case round =>
          obtain ⟨j, hj, rfl, heq, nq0, rfl⟩ := hrel
          by_cases hjl : j < k + 8
          · have hj8 : (j : Int) < (k : Int) + 8 := by omega
            have hj9 : (j : Int) < 8 + (k : Int) := by omega
            obtain ⟨y, hy⟩ : ∃ y, M.getD j 0 = y := ⟨_, rfl⟩
            obtain ⟨x, hx⟩ : ∃ x, l.getD j 0 = x := ⟨_, rfl⟩
            have cM : W3.cell? ⟨g3, j, none⟩ = some (.int .u8 y) := by
              have := own_num (unhide HO3) (by rw [hMl]; omega) j (by omega)
              rw [Nat.zero_add, hy] at this; exact this
            have cl : W3.cell? ⟨b, o + j, none⟩ = some (.int .u8 x) := by rw [unhide HC3 j hjl, hx]
            have HY := hide hy
            have HX := hide hx
            have HEQ := hide heq
            clear hy hx heq
            by_cases hyx : y = x
            · subst hyx
              have hne : (y != y) = false := by simp
              go_wp2_with fail
              go_quiet (fail)
              go_wp2_with fail
              go_roundw
              case rel =>
                refine ⟨j + 1, by omega, by go_num, fun q hq => ?_, _, rfl⟩
                by_cases hqj : q < j
                · exact unhide HEQ q hqj
                · obtain rfl : q = j := by omega
                  rw [unhide HY, unhide HX]
              case measure => simp [intOf]; omega
            · have hne : (y != x) = true := by rw [bne_iff_ne]; exact hyx
              have HYX := hide hyx
              clear hyx
              go_wp2_with fail
              go_quiet (fail)
              go_wp2_with (refine wpList_store_blk rfl 130 _ _ rfl w.heap.size 130 Z4 Z4 rfl rfl ((unhide HKR3).drewN _) Tryz.sizePk rfl (by kernel_rfl) ?_)
              refine bodyPost_ret (v := .tuple #[.agg Z4, .bool false]) ?_ rfl ⟨?_, .inl ⟨?_, rfl⟩⟩
              · rw [results_cell_tmp Tryz.results64]
                exact ret_cell_tmp (((unhide HKR3).drewN _).setRow _) Tryz.underlying130 rfl Tryz.sizePk
              · exact below_setRow (Go.below_drewN (unhide HB3) _) (Nat.le_refl _) _
              · intro hok
                have := ((unhide HOK).1 hok).1
                apply unhide HYX
                rw [← unhide HY, ← unhide HX, this]
          · have hj8 : ¬ (j : Int) < (k : Int) + 8 := by omega
            have HL : Hid (OkP l) := hide ((unhide HOK).2 ⟨ext_getD M l (by omega) (fun q hq => heq q (by omega)), unhide HG⟩)
            go_wp2_with (first
              | (refine wpList_load_blk rfl 130 _ rfl (w.heap.size + 1) rfl 130 _ _ ((unhide HK3).drewN _) Tryz.underlying130 rfl Tryz.sizePk ?_)
              | (refine wpList_store_blk rfl 130 _ _ rfl w.heap.size 130 Z4 #[.int .i64 (x1 : Int), .int .i64 (256 * (x2 : Int) + (x3 : Int)), .int .i64 (256 * (x4 : Int) + (x5 : Int)), .slice ao k c2] rfl rfl ((unhide HKR3).drewN _) Tryz.sizePk rfl (by kernel_rfl) ?_))
            refine bodyPost_ret (v := .tuple #[.agg #[.int .i64 (x1 : Int), .int .i64 (256 * (x2 : Int) + (x3 : Int)), .int .i64 (256 * (x4 : Int) + (x5 : Int)), .slice ao k c2], .bool true]) ?_ rfl ⟨?_, .inr ⟨unhide HL, ao, c2, ?_, unhide HC2, ?_, ?_⟩⟩
            · rw [results_cell_tmp Tryz.results64]
              exact ret_cell_tmp (((unhide HKR3).drewN _).setRow _) Tryz.underlying130 rfl Tryz.sizePk
            · exact below_setRow (Go.below_drewN (unhide HB3) _) (Nat.le_refl _) _
            · rw [unhide HFr, unhide HSt, unhide HAk]
            · exact ((unhide HS3).below (Nat.le_refl _) (Go.below_drewN (Below.refl _ _) _)).grown (grown_setRow _ w.heap.size _) (fun q hq => by have := unhide HQ5 q hq; omega)
            · intro a ha
              have := unhide HQ5 a.block (by rw [ha]; rfl)
              omega
      · have HG := hide hg
        clear hg
        go_wp2_with fail
        refine (rpack_no _ _ _ ao k c2 W2 (unhide HG)).mono ?_
        rintro e W3 ⟨rfl, hb3⟩
        have HKR3 := hide ((unhide HKR5).below (by omega) hb3)
        have HB3 := hide ((unhide HB5).trans (hb3.mono (unhide HB5).size))
        clear hb3 b0 b1 b2 b3
        go_wp2_with (refine wpList_store_blk rfl 130 _ _ rfl w.heap.size 130 Z4 Z4 rfl rfl (unhide HKR3) Tryz.sizePk rfl (by kernel_rfl) ?_)
        refine bodyPost_ret (v := .tuple #[.agg Z4, .bool false]) ?_ rfl ⟨?_, .inl ⟨?_, rfl⟩⟩
        · rw [results_cell_tmp Tryz.results64]
          exact ret_cell_tmp ((unhide HKR3).setRow _) Tryz.underlying130 rfl Tryz.sizePk
        · exact below_setRow (unhide HB3) (Nat.le_refl _) _
        · intro hok
          exact unhide HG ((unhide HOK).1 hok).2
end Go.Proofs.YtandblanpafjoaaGreatDoor

namespace Go.Proofs.YtandblanpafjoaaGreatDoor
open Go.RowKit Go.Extern.Stop Go.Stop Go.Extern
theorem runp_any (b o n c : Nat) (l : List Int) (w : World) (hl : l.length = n) (hn : n ≤ 70000) (hcap : n ≤ c) (hr : ∀ j : Nat, 0 ≤ l.getD j 0 ∧ l.getD j 0 ≤ 255) (hc : ∀ j, j < n → w.cell? ⟨b, o + j, none⟩ = some (.int .u8 (l.getD j 0))) (hbl : b < w.heap.size) :
    Calls Tryz.prog 64 #[.slice (some ⟨b, o, none⟩) n c] w fun e w' => Below w.heap.size w w' ∧
      ((¬ OkP l ∧ e = .returned (.tuple #[.agg Z4, .bool false])) ∨
       (OkP l ∧ ∃ ao c2, e = .returned (.tuple #[.agg #[.int .i64 (fromL l), .int .i64 (startL l), .int .i64 (ackL l), .slice ao (l.length - 8) c2], .bool true]) ∧ (ao = none → c2 = 0) ∧ SrcAt w' ao (inputsL l) ∧ (∀ q, ao.map (·.block) = some q → w.heap.size ≤ q))) := by
  subst hl
  by_cases h8 : l.length < 8
  · refine (runpack_few b o l.length c w h8).mono ?_
    rintro e w' ⟨rfl, hb⟩
    exact ⟨hb, .inl ⟨fun h => by have := h.1.1; omega, rfl⟩⟩
  · obtain ⟨k, hk⟩ : ∃ k, l.length = k + 8 := ⟨l.length - 8, by omega⟩
    have := runpack_any b o k c l w hk (by omega) (by omega) hr (fun j hj => hc j (by omega)) hbl
    rw [hk]
    refine this.mono ?_
    rintro e w' ⟨hb, h | ⟨h1, ao, c2, h2, h3, h4, h5⟩⟩
    · exact ⟨hb, .inl h⟩
    · refine ⟨hb, .inr ⟨h1, ao, c2, ?_, h3, ?_, h5⟩⟩
      · rw [h2, show k + 8 - 8 = k by omega]
      · unfold inputsL
        rw [hk, show k + 8 - 8 = k by omega]; exact h4
end Go.Proofs.YtandblanpafjoaaGreatDoor

namespace Go.Proofs.YtandblanpafjoaaGreatDoor
open Go.RowKit Go.Extern.Stop Go.Stop Go.Extern
set_option maxRecDepth 10000 in
set_option maxHeartbeats 8000000 in
theorem rtake_no (nb p b o n' c : Nat) (l : List Int) (ro : Nat → RR) (m : NetM) (w : World) (h : RNetAt w ro nb m) (hp : p < m.players) (hok : POk (m.peers p) p m.players m.window m.delay) (hd : (m.peers p).dropped + 1 ≤ 1000000000) (hl : l.length = n') (hn : n' ≤ 70000) (hcap : n' ≤ c) (hr : ∀ j : Nat, 0 ≤ l.getD j 0 ∧ l.getD j 0 ≤ 255) (hc : ∀ j, j < n' → w.cell? ⟨b, o + j, none⟩ = some (.int .u8 (l.getD j 0))) (hbl : b < w.heap.size) (hno : ¬ m.takes p l) :
    Calls Tryz.prog 37 #[.pointer (some ⟨nb, 0, none⟩), .int .i64 (p : Int), .slice (some ⟨b, o, none⟩) n' c] w fun e w' => e = .returned (.bool (m.take p l).1) ∧ ∃ ro', RNetAt w' ro' nb (m.take p l).2 ∧ RTo w ro w' ro' := by
  have htk : m.take p l = (false, m.put p { m.peers p with dropped := (m.peers p).dropped + 1 }) := by unfold NetM.take; rw [if_neg hno]
  rw [htk]
  clear htk
  obtain ⟨L, h⟩ := h
  have hn4 := h.n4
  have c5 : w.cell? ⟨nb, 5, none⟩ = some (.slice (some ⟨L.prb, 0, none⟩) m.players L.prc) := h.cell 5
  have cp := h.ptr p hp
  have p0 : (0 : Int) ≤ (p : Int) := by omega
  have p1 : (p : Int) < (m.players : Int) := by omega
  have hcall := runp_any b o n' c l w hl hn hcap hr hc hbl
  have HN := hide h
  have HP := hide hok
  have HNO := hide hno
  have hz := Tryz.zeroPk
  clear h hok hr hc hno
  go_enter Tryz.func37, Tryz.ntmps37
  go_wp2_with fail
  refine hcall.mono ?_
  clear hcall
  rintro e w2 ⟨hb2, hres⟩
  have hres' : ∃ (PC : Array Value) (ok : Bool), e = .returned (.tuple #[.agg PC, .bool ok]) ∧ PC.size = 4 ∧ PC.all (·.oneCell') = true ∧ ((ok = false ∧ PC = Z4) ∨ (ok = true ∧ OkP l ∧ ∃ ao c2, PC = #[.int .i64 (fromL l), .int .i64 (startL l), .int .i64 (ackL l), .slice ao (l.length - 8) c2])) := by
    rcases hres with ⟨h1, h2⟩ | ⟨h1, ao, c2, h2, _⟩
    · exact ⟨Z4, false, h2, rfl, by kernel_rfl, .inl ⟨rfl, rfl⟩⟩
    · exact ⟨_, true, h2, rfl, by simp [Value.oneCell'], .inr ⟨rfl, h1, ao, c2, rfl⟩⟩
  obtain ⟨PC, ok, rfl, hPs, hPo, hPC⟩ := hres'
  clear hres
  have hsz : (Tryz.prog.info? 130).map (·.size) = some PC.size := by rw [hPs]; exact Tryz.sizePk
  have xA : Blk (w2.alloc (.cells Z4 130)) w2.heap.size Z4 130 := Blk.new _ _ _
  have hss : Z4.size = PC.size := by rw [hPs]; rfl
  have bA : Below w2.heap.size w2 ((w2.alloc (.cells Z4 130)).setRow w2.heap.size PC) := below_setRow ((Below.refl _ w2).alloc (Nat.le_refl _) _) (Nat.le_refl _) _
  have xB : Blk ((w2.alloc (.cells Z4 130)).setRow w2.heap.size PC) w2.heap.size PC 130 := xA.setRow _
  have H2 := hide (And.intro hb2 (And.intro bA xB))
  clear c5 cp hb2 bA xB
  unfold Z4 at xA hss
  go_upto_region 3 with (refine wpList_store_blk rfl 130 _ _ rfl w2.heap.size 130 _ PC rfl rfl xA hsz hss hPo ?_)
  obtain ⟨W, hW⟩ : ∃ x, x = (w2.alloc (.cells Z4 130)).setRow w2.heap.size PC := ⟨_, rfl⟩
  unfold Z4 at hW
  rw [← hW]
  unfold Z4 at H2
  rw [← hW] at H2
  obtain ⟨hb2, bA, xB⟩ := unhide H2
  have hBW : Below w.heap.size w W := hb2.trans (bA.mono hb2.size)
  have hNW := (unhide HN).below hBW
  have HBW := hide (And.intro hBW hNW)
  clear hW xA hsz hss hPo hPs hz H2 bA hb2
  go_cut [82] from 18 (fun s82 wx => s82 = .bool true ∧ Below W.heap.size W wx)
  case first =>
    rcases hPC with ⟨rfl, rfl⟩ | ⟨rfl, hOk, ao, c2, rfl⟩
    · go_quiet (fail)
      go_wp2_with fail
      go_meet
      case rel => exact ⟨rfl, ⟨rfl, rfl, rfl, Nat.le_refl _, fun _ _ => rfl⟩⟩
    · have hg := hOk.2
      obtain ⟨F, hF⟩ : ∃ F : Nat, fromL l = (F : Int) := ⟨(fromL l).toNat, by have := hg.1.1; omega⟩
      obtain ⟨S, hS⟩ : ∃ S : Nat, startL l = (S : Int) := ⟨(startL l).toNat, by have := hg.2.1.1; omega⟩
      obtain ⟨A, hA⟩ : ∃ A : Nat, ackL l = (A : Int) := ⟨(ackL l).toNat, by have := hg.2.2.1.1; omega⟩
      have hS2 := hg.2.1.2
      have hil := inputsL_len8 hOk
      obtain ⟨K, hK⟩ : ∃ K, l.length - 8 = K := ⟨_, rfl⟩
      have hK64 : K ≤ 64 := by rw [← hK]; exact hg.2.2.2
      have hnt : ¬ ((F : Int) ≠ (p : Int) ∧ (F : Int) < (m.players : Int) ∧ (S : Int) ≤ (((m.peers p).known F).length : Int) ∧ (S : Int) + (K : Int) ≤ 200 + (m.delay : Int) ∧ (A : Int) ≤ (((m.peers p).known p).length : Int)) := fun hh => unhide HNO ⟨hOk, by rw [hF]; exact hh.1, by rw [hF]; exact hh.2.1, by rw [hF, hS]; simpa using hh.2.2.1, by rw [hS, hil, hK]; exact hh.2.2.2.1, by rw [hA]; exact hh.2.2.2.2⟩
      rw [hF, hS, hA, hK] at xB
      rw [hS] at hS2
      rw [hF, hS, hA, hK]
      have x0 : W.cell? ⟨w2.heap.size, 0, none⟩ = some (.int .i64 (F : Int)) := xB.cell 0
      have x1 : W.cell? ⟨w2.heap.size, 1, none⟩ = some (.int .i64 (S : Int)) := xB.cell 1
      have x2 : W.cell? ⟨w2.heap.size, 2, none⟩ = some (.int .i64 (A : Int)) := xB.cell 2
      have x3 : W.cell? ⟨w2.heap.size, 3, none⟩ = some (.slice ao K c2) := xB.cell 3
      have hdl := (unhide HP).delay
      have n0 : W.cell? ⟨nb, 0, none⟩ = some (.int .i64 (m.players : Int)) := hNW.cell 0
      have n2 : W.cell? ⟨nb, 2, none⟩ = some (.int .i64 (m.delay : Int)) := hNW.cell 2
      have ck : W.cell? ⟨L.pb p, 0, none⟩ = some (.slice (some ⟨L.kb p, 0, none⟩) m.players (L.kc p)) := hNW.pcell p hp 0
      have ckp := hNW.kcell p p hp hp
      have HKC := hide (fun q (hq : q < m.players) => hNW.kcell p q hp hq)
      have w1a : IntKind.i64.wrap ((S : Int) + (K : Int)) = (S : Int) + (K : Int) := i64_id _ (by omega) (by omega)
      have w1b : IntKind.i64.wrap (200 + (m.delay : Int)) = 200 + (m.delay : Int) := i64_id _ (by omega) (by omega)
      have HNT := hide hnt
      clear hnt hg hF hS hA hil hK xB hNW hBW hOk
      by_cases t1 : F = p
      · have d1 : ((F : Int) == (p : Int)) = true := by simp [t1]
        go_quiet (fail)
        go_wp2_with fail
        go_meet
        case rel => exact ⟨rfl, ⟨rfl, rfl, rfl, Nat.le_refl _, fun _ _ => rfl⟩⟩
      · have d1 : ((F : Int) == (p : Int)) = false := by simp; omega
        have d1' : ((F : Int) = (p : Int)) = False := by simp; omega
        by_cases t2 : m.players ≤ F
        · have d2 : decide ((m.players : Int) ≤ (F : Int)) = true := by simp; omega
          go_quiet (fail)
          go_wp2_with fail
          go_meet
          case rel => exact ⟨rfl, ⟨rfl, rfl, rfl, Nat.le_refl _, fun _ _ => rfl⟩⟩
        · have d2 : decide ((m.players : Int) ≤ (F : Int)) = false := by simp; omega
          have F0 : (0 : Int) ≤ (F : Int) := by omega
          have F1 : (F : Int) < (m.players : Int) := by omega
          have ckF := unhide HKC F (by omega)
          by_cases t3 : ((m.peers p).known F).length < S
          · have d3 : decide ((((m.peers p).known F).length : Int) < (S : Int)) = true := by simp; omega
            go_quiet (fail)
            go_wp2_with fail
            go_meet
            case rel => exact ⟨rfl, ⟨rfl, rfl, rfl, Nat.le_refl _, fun _ _ => rfl⟩⟩
          · have d3 : decide ((((m.peers p).known F).length : Int) < (S : Int)) = false := by simp; omega
            by_cases t4 : 200 + m.delay < S + K
            · have d4 : decide (200 + (m.delay : Int) < (S : Int) + (K : Int)) = true := by simp; omega
              go_quiet (fail)
              go_wp2_with fail
              go_meet
              case rel => exact ⟨rfl, ⟨rfl, rfl, rfl, Nat.le_refl _, fun _ _ => rfl⟩⟩
            · have d4 : decide (200 + (m.delay : Int) < (S : Int) + (K : Int)) = false := by simp; omega
              have t5 : ((m.peers p).known p).length < A := by
                have := unhide HNT
                omega
              have d5 : decide ((((m.peers p).known p).length : Int) < (A : Int)) = true := by simp; omega
              go_quiet (fail)
              go_wp2_with fail
              go_meet
              case rel => exact ⟨rfl, ⟨rfl, rfl, rfl, Nat.le_refl _, fun _ _ => rfl⟩⟩
  case rest =>
    obtain ⟨rfl, hbx⟩ := hcut
    have hNx := (unhide HBW).2.below hbx
    have hBx : Below w.heap.size w wc := (unhide HBW).1.trans (hbx.mono (unhide HBW).1.size)
    have b3 : wc.cell? ⟨L.pb p, 3, none⟩ = some (.int .i64 ((m.peers p).dropped : Int)) := hNx.pcell p hp 3
    have bf : wc.frozen? ⟨L.pb p, 3, none⟩ = false := (hNx.peer p hp).1.frozen 3
    have hadd : IntKind.i64.wrap (((m.peers p).dropped : Int) + 1) = ((m.peers p).dropped : Int) + 1 := i64_id _ (by omega) (by omega)
    have HX := hide (And.intro hNx hBx)
    clear hNx hBx hbx hPC hBW hNW xB
    go_wp2
    go_ret
    obtain ⟨hNx, hBx⟩ := unhide HX
    refine ⟨rfl, ro, ⟨L, hNx.cellP hp { m.peers p with dropped := (m.peers p).dropped + 1 } 3 _ rfl rfl (by simp [rpC, mput_at, mput_pl])⟩, (RTo.ofBelow hBx).trans ⟨Chg.setCell _ _ _ _ (by rw [(hNx.peer p hp).2]; simp), fun _ _ h => h⟩⟩
end Go.Proofs.YtandblanpafjoaaGreatDoor

namespace Go.Proofs.YtandblanpafjoaaGreatDoor
open Go.RowKit Go.Extern.Stop Go.Stop Go.Extern
def learntTo (l : List Int) (start : Nat) (ins : List Int) (i : Nat) : List Int := l ++ (ins.take i).drop (l.length - start)
theorem learntTo_zero (l : List Int) (start : Nat) (ins : List Int) : learntTo l start ins 0 = l := by simp [learntTo]
theorem learntTo_all (l : List Int) (start : Nat) (ins : List Int) : learntTo l start ins ins.length = learnt l start ins := by simp [learntTo, learnt]
theorem learntTo_len (l : List Int) (start : Nat) (ins : List Int) (i : Nat) (hs : start ≤ l.length) (hi : i ≤ ins.length) : (learntTo l start ins i).length = max l.length (start + i) := by
  simp only [learntTo, List.length_append, List.length_drop, List.length_take]
  omega
theorem learntTo_more (l : List Int) (start : Nat) (ins : List Int) (i : Nat) (hs : start ≤ l.length) (hi : i < ins.length) (h : start + i = (learntTo l start ins i).length) : learntTo l start ins (i + 1) = learntTo l start ins i ++ [ins.getD i 0] := by
  rw [learntTo_len l start ins i hs (by omega)] at h
  unfold learntTo
  rw [List.append_assoc]
  congr 1
  have e1 : ins.take (i + 1) = ins.take i ++ [ins.getD i 0] := by
    rw [List.take_add_one, List.getElem?_eq_getElem hi]
    simp [List.getD_eq_getElem?_getD, hi]
  rw [e1, List.drop_append_of_le_length (by rw [List.length_take]; omega)]
theorem learntTo_same (l : List Int) (start : Nat) (ins : List Int) (i : Nat) (hs : start ≤ l.length) (hi : i < ins.length) (h : start + i ≠ (learntTo l start ins i).length) : learntTo l start ins (i + 1) = learntTo l start ins i := by
  rw [learntTo_len l start ins i hs (by omega)] at h
  unfold learntTo
  rw [List.drop_of_length_le (by rw [List.length_take]; omega), List.drop_of_length_le (by rw [List.length_take]; omega)]
end Go.Proofs.YtandblanpafjoaaGreatDoor

