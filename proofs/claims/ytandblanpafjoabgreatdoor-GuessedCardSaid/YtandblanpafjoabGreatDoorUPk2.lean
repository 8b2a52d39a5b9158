import Derived.Test.YtandblanpafjoabGreatDoorUPk1
import Derived.Test.YtandblanpafjoabGreatDoorPkZ
import Derived.Deep.RegionHeld3
import Derived.Deep.DeepCutAuto
namespace Go.Proofs.YtandblanpafjoabGreatDoor
open Go.RowKit Go.Extern.Stop Go.Stop Go.Extern

/-! A packet read. -/
set_option maxRecDepth 10000 in
set_option maxHeartbeats 2000000 in
theorem pkread_frame (b o n c : Nat) (l : List Int) (w : World) (hl : l.length = n) (hn : n ≤ 70000) (hcap : n ≤ c) (hr : ∀ j : Nat, 0 ≤ l.getD j 0 ∧ l.getD j 0 ≤ 255)
    (hc : ∀ j, j < n → w.cell? ⟨b, o + j, none⟩ = some (.int .u8 (l.getD j 0))) (hbl : b < w.heap.size) (hf : ¬ Framed l) :
    Calls Tryz.prog 79 #[.slice (some ⟨b, o, none⟩) n c] w fun e w' => (∃ s, e = .returned (.tuple #[.agg Z4, .iface 219 (.agg #[.string s])])) ∧ Below w.heap.size w w' := by
  have HC := hide hc
  have HR := hide hr
  clear hc hr
  go_enter Tryz.func79, Tryz.ntmps79
  go_wp2_with fail
  refine (pkbytes_no b o n c l _ hl hn hcap (unhide HR) (fun j hj => by rw [World.cell?_alloc_lt _ _ ⟨b, o + j, none⟩ hbl]; exact unhide HC j hj) hf).mono ?_
  rintro e w1 ⟨⟨s, rfl⟩, hb1⟩
  have hz1 := hb1.size
  have hk1 : Blk w1 w.heap.size Z4 130 := (Blk.new w Z4 130).below (by simp) hb1
  go_wp2_with (refine wpList_store_blk rfl 130 _ _ rfl w.heap.size 130 Z4 Z4 rfl rfl hk1 Tryz.sizePk rfl (by kernel_rfl) ?_)
  refine bodyPost_ret (v := .tuple #[.agg Z4, .iface 219 (.agg #[.string s])]) ?_ rfl ⟨⟨s, rfl⟩, ?_⟩
  · rw [results_cell_tmp Tryz.results79]
    exact ret_cell_tmp (hk1.setRow _) Tryz.underlying130 rfl Tryz.sizePk
  · exact below_setRow (((Below.refl _ _).alloc (Nat.le_refl _) _).trans (hb1.mono (by simp))) (Nat.le_refl _) _

set_option maxRecDepth 10000 in
set_option maxHeartbeats 8000000 in
theorem pkread_framed (b o k c : Nat) (l : List Int) (w : World) (hl : l.length = k + 8) (hk : k ≤ 70000) (hcap : k + 8 ≤ c) (hr : ∀ j : Nat, 0 ≤ l.getD j 0 ∧ l.getD j 0 ≤ 255)
    (hc : ∀ j, j < k + 8 → w.cell? ⟨b, o + j, none⟩ = some (.int .u8 (l.getD j 0))) (hbl : b < w.heap.size) (hf : Framed l) :
    Calls Tryz.prog 79 #[.slice (some ⟨b, o, none⟩) (k + 8) c] w fun e w' => Below w.heap.size w w' ∧
      ((¬ GoodP (fromL l) (startL l) (ackL l) k ∧ ∃ s, e = .returned (.tuple #[.agg Z4, .iface 219 (.agg #[.string s])])) ∨
       (GoodP (fromL l) (startL l) (ackL l) k ∧ ∃ g cap, e = .returned (.tuple #[.agg #[.int .i64 (fromL l), .int .i64 (startL l), .int .i64 (ackL l), .slice (some ⟨g, 0, none⟩) k cap], .nilIface]) ∧ w'.ownsRow w.heap.size 5 1 (.slice (some ⟨g, 0, none⟩) k cap) k (((l.drop 7).take k).map (Value.int .u8)))) := by
  have HC := hide hc
  have HR := hide hr
  have HF := hide hf
  clear hc hr hf
  go_enter Tryz.func79, Tryz.ntmps79
  go_wp2_with fail
  refine (pkbytes_yes b o k c l _ hl hk hcap (fun j hj => by rw [World.cell?_alloc_lt _ _ ⟨b, o + j, none⟩ hbl]; exact unhide HC j hj) (unhide HF)).mono ?_
  rintro e w1 ⟨rfl, hb1⟩
  have hk1 : Hid (Blk w1 w.heap.size Z4 130) := hide ((Blk.new w Z4 130).below (by simp) hb1)
  have HB1 : Hid (Below w.heap.size w w1) := hide (((Below.refl _ _).alloc (Nat.le_refl _) _).trans (hb1.mono (by simp)))
  have hz1 := hb1.size
  have HC1 : Hid (∀ j, j < k + 8 → w1.cell? ⟨b, o + j, none⟩ = some (.int .u8 (l.getD j 0))) := hide fun j hj => by
    rw [hb1.cell (p := ⟨b, o + j, none⟩) (by simp; omega), World.cell?_alloc_lt _ _ ⟨b, o + j, none⟩ hbl]; exact unhide HC j hj
  simp only [World.size_alloc] at hz1
  clear hb1
  have hbl1 : b < w1.heap.size := by omega
  obtain ⟨x1, hx1⟩ : ∃ x : Nat, l.getD 1 0 = (x : Int) := ⟨(l.getD 1 0).toNat, by have := unhide HR 1; omega⟩
  have c1 : w1.cell? ⟨b, o + 1, none⟩ = some (.int .u8 (x1 : Int)) := by rw [← hx1]; exact unhide HC1 1 (by omega)
  have q1 : x1 < 256 := by have := unhide HR 1; omega
  have HX := hide hx1
  have HC11 := hide c1
  have HS1 := hide (SrcAt.mid (a := 7) (n := k) (fun j hj => unhide HC1 j (by omega)) hbl1 (by omega))
  clear hx1 c1
  have hw1 : (k : Int) + 8 - 1 = (k : Int) + 7 := by omega
  have ht : ((k : Int) + 7).toNat = k + 7 := by omega
  have HN : Hid (∀ (j : Nat) (W : World), j + 1 < k + 8 → HeldP w1 W → ∀ n c : Nat, 2 ≤ n → Calls Tryz.prog 105 #[.slice (some ⟨b, o + j, none⟩) n c] W fun e w' => e = .returned (.int .i64 (numL l j)) ∧ ∃ nq, w' = W.drewN nq) := hide fun j W hj h n c hn2 => by
    have r0 := unhide HR j
    have r1 := unhide HR (j + 1)
    have := pknumber_any b (o + j) n c (l.getD j 0).toNat (l.getD (j + 1) 0).toNat W hn2 (by omega) (by omega)
      (by rw [h.below.cell (p := ⟨b, o + j, none⟩) hbl1, unhide HC1 j (by omega), Int.toNat_of_nonneg r0.1]) (by rw [h.below.cell (p := ⟨b, o + j + 1, none⟩) hbl1, Nat.add_assoc, unhide HC1 (j + 1) (by omega), Int.toNat_of_nonneg r1.1])
    rw [Int.toNat_of_nonneg r0.1, Int.toNat_of_nonneg r1.1] at this
    exact this
  have HKS : Hid (∀ W, HeldP w1 W → SrcAt W (some ⟨b, o + 7, none⟩) ((l.drop 7).take k)) := hide fun W h => (unhide HS1).below (Nat.le_refl _) h.below
  have hlt : ((l.drop 7).take k).length = k := by simp [hl]
  have i1 : (1 : Int) < (k : Int) + 8 := by omega
  have i2 : (2 : Int) ≤ (k : Int) + 8 := by omega
  have i4 : (4 : Int) ≤ (k : Int) + 8 := by omega
  have i7 : (7 : Int) ≤ (k : Int) + 7 := by omega
  have i8' : (k : Int) + 8 ≤ (c : Int) := by omega
  have i9 : (k : Int) + 7 ≤ (c : Int) := by omega
  have i10 : ¬ c = 7 := by omega
  have hwk := i64_id ((k : Int) + 7) (by omega) (by omega)
  have hwx := i64_id (x1 : Int) (by omega) (by omega)
  have i13 : (0 : Int) ≤ (k : Int) + 7 := by omega
  have i11 : ¬ c = 2 := by omega
  have i12 : ¬ c = 4 := by omega
  clear HC1 HS1 HC
  go_wp2_with fail
  go_cut [5] from 13 to 29 (fun s5 wx => ∃ g6 g5 cap5, s5 = .pointer (some ⟨g6, 0, none⟩) ∧ Blk wx g6 #[.int .i64 (x1 : Int), .int .i64 (numL l 2), .int .i64 (numL l 4), .slice (some ⟨g5, 0, none⟩) k cap5] 130 ∧ w1.heap.size ≤ g6 ∧ wx.ownsRow w1.heap.size 5 1 (.slice (some ⟨g5, 0, none⟩) k cap5) k (((l.drop 7).take k).map (Value.int .u8)) ∧ Below w1.heap.size w1 wx)
  case first =>
    go_region_held3 (fun w' => w'.cell? ⟨b, o + 1, none⟩ = some (.int .u8 (x1 : Int)) ∧ HeldP w1 w')
      (first | assumption | (refine held_mk (unhide HC11) hbl1 ?_; repeat (first | assumption | exact Below.refl _ _ | refine Go.below_drewN ?_ _ | refine Below.drew ?_ | refine below_set4 ?_ _ _ _ _ (Nat.le_refl _) | refine Below.alloc ?_ (by first | omega | (simp; done) | (simp; omega)) _)))
      (first
        | (go_at_call 105; refine Calls.mono (unhide HN _ _ (by omega) ?_ _ _ (by omega)) ?_; (exact And.right (by assumption)); rintro e w' ⟨rfl, nq2, rfl⟩)
        | (go_at_call 106; refine Calls.mono (clone_any _ _ _ _ _ _ hlt (by omega) ?_) ?_; (exact unhide HKS _ (And.right (by assumption))); rintro e w5 ⟨g5, cap5, rfl, hbg5, hgl5, hown5, hb5⟩; (have hz5 := hb5.size); (have hB5 : Below w1.heap.size w1 w5 := (HeldP.below (And.right (by assumption))).trans (hb5.mono (by first | omega | (simp; done) | (simp; omega)))); (have hz15 := hB5.size); (try simp at hbg5); (try simp at hz5);
            (have HO5 := hide hown5); clear hown5;
            (try ((have hk5 : Blk w5 w1.heap.size Z4 130 := Blk.below (by first | exact Blk.new _ Z4 _ | exact Blk.drewN (Blk.new _ Z4 _) _ | exact Blk.drewN (Blk.drewN (Blk.new _ Z4 _) _) _) (by simp) hb5); (have f0 : w5.cell? ⟨w1.heap.size, 0, none⟩ = some (.int .i64 0) := hk5.cell 0); (have f1 : w5.cell? ⟨w1.heap.size, 1, none⟩ = some (.int .i64 0) := hk5.cell 1); (have f2 : w5.cell? ⟨w1.heap.size, 2, none⟩ = some (.int .i64 0) := hk5.cell 2); (have f3 : w5.cell? ⟨w1.heap.size, 3, none⟩ = some (.slice none 0 0) := hk5.cell 3); (have z0 := hk5.frozen 0); (have z1 := hk5.frozen 1); (have z2 := hk5.frozen 2); (have z3 := hk5.frozen 3); (have HK5 := hide hk5); clear hk5)); (have HB5 := hide hb5); clear hb5))
    all_goals (go_wp2_with fail; go_meet)
    all_goals (case rel => first
      | (have hkk := unhide HK5; exact ⟨w1.heap.size, g5, cap5, rfl, set4 hkk _ _ _ _, Nat.le_refl _, own_set4 (owns_mono (unhide HO5) (by simp)) _ _ _ _ (by simp [Value.ownBlock]; omega), below_set4 hB5 _ _ _ _ (Nat.le_refl _)⟩)
      | (exact ⟨w5.heap.size, g5, cap5, rfl, Blk.new _ _ _, hz15, (owns_mono (unhide HO5) (by simp)).alloc _, hB5.alloc hz15 _⟩))
  case rest =>
    obtain ⟨g6, g5, cap5, rfl, hk6, hg6, hown6, hb6⟩ := hcut
    obtain ⟨W2, hW2⟩ : ∃ x, x = wc := ⟨_, rfl⟩
    subst hW2
    have HO6 := hide hown6
    have HB6 := hide hb6
    have hfr : fromL l = (x1 : Int) := unhide HX
    have HK2 : Hid (Blk W2 w.heap.size Z4 130) := hide ((unhide hk1).below (by omega) hb6)
    have hz6 := hb6.size
    have b0 : W2.cell? ⟨g6, 0, none⟩ = some (.int .i64 (x1 : Int)) := hk6.cell 0
    have b1 : W2.cell? ⟨g6, 1, none⟩ = some (.int .i64 (numL l 2)) := hk6.cell 1
    have b2 : W2.cell? ⟨g6, 2, none⟩ = some (.int .i64 (numL l 4)) := hk6.cell 2
    have b3 : W2.cell? ⟨g6, 3, none⟩ = some (.slice (some ⟨g5, 0, none⟩) k cap5) := hk6.cell 3
    have hg6l := hk6.lt
    have HK6 := hide hk6
    clear hown6 hb6 hk6
    by_cases hg : GoodP (x1 : Int) (numL l 2) (numL l 4) k
    · go_wp2_with fail
      refine (parts_yes _ _ _ _ _ _ _ hg).mono ?_
      rintro e w3 ⟨rfl, rfl⟩
      have hk3 := (unhide HK2).alloc (.cells #[.int .i64 (x1 : Int), .int .i64 (numL l 2), .int .i64 (numL l 4), .slice (some ⟨g5, 0, none⟩) k cap5] 130)
      have hk3' := (unhide HK6).alloc (.cells #[.int .i64 (x1 : Int), .int .i64 (numL l 2), .int .i64 (numL l 4), .slice (some ⟨g5, 0, none⟩) k cap5] 130)
      go_wp2_with (first
        | (refine wpList_load_blk rfl 130 _ rfl g6 rfl 130 _ _ hk3' Tryz.underlying130 rfl Tryz.sizePk ?_)
        | (refine wpList_store_blk rfl 130 _ _ rfl w.heap.size 130 Z4 #[.int .i64 (x1 : Int), .int .i64 (numL l 2), .int .i64 (numL l 4), .slice (some ⟨g5, 0, none⟩) k cap5] rfl rfl hk3 Tryz.sizePk rfl (by kernel_rfl) ?_))
      refine bodyPost_ret (v := .tuple #[.agg #[.int .i64 (x1 : Int), .int .i64 (numL l 2), .int .i64 (numL l 4), .slice (some ⟨g5, 0, none⟩) k cap5], .nilIface]) ?_ rfl ⟨?_, .inr ⟨?_, g5, cap5, ?_, ?_⟩⟩
      · rw [results_cell_tmp Tryz.results79]
        exact ret_cell_tmp (hk3.setRow _) Tryz.underlying130 rfl Tryz.sizePk
      · exact below_setRow (((unhide HB1).trans ((unhide HB6).mono (by omega))).alloc (by omega) _) (Nat.le_refl _) _
      · rw [hfr]; exact hg
      · rw [hfr]; rfl
      · have hlt5 := ((unhide HO6).lt g5 rfl).1
        exact (owns_mono ((unhide HO6).alloc _) (by omega)).kept (grown_setRow _ w.heap.size _) (.inr (by simp [Value.ownBlock]; omega))
    · go_wp2_with fail
      refine (parts_no _ _ _ _ _ _ _ hg).mono ?_
      rintro e w3 ⟨⟨s, rfl⟩, rfl⟩
      have hk3 := (unhide HK2).alloc (.cells #[.int .i64 (x1 : Int), .int .i64 (numL l 2), .int .i64 (numL l 4), .slice (some ⟨g5, 0, none⟩) k cap5] 130)
      go_wp2_with (refine wpList_store_blk rfl 130 _ _ rfl w.heap.size 130 Z4 Z4 rfl rfl hk3 Tryz.sizePk rfl (by kernel_rfl) ?_)
      refine bodyPost_ret (v := .tuple #[.agg Z4, .iface 219 (.agg #[.string s])]) ?_ rfl ⟨?_, .inl ⟨?_, s, rfl⟩⟩
      · rw [results_cell_tmp Tryz.results79]
        exact ret_cell_tmp (hk3.setRow _) Tryz.underlying130 rfl Tryz.sizePk
      · exact below_setRow (((unhide HB1).trans ((unhide HB6).mono (by omega))).alloc (by omega) _) (Nat.le_refl _) _
      · rw [hfr]; exact hg
end Go.Proofs.YtandblanpafjoabGreatDoor
