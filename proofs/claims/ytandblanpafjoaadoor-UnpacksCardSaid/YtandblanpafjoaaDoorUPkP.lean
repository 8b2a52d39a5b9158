import Derived.Test.YtandblanpafjoaaDoorUPk3
import Derived.Test.YtandblanpafjoaaDoorPkP
namespace Go.Proofs.YtandblanpafjoaaDoor
open Go.RowKit Go.Extern.Stop Go.Stop Go.Extern
set_option maxRecDepth 10000 in
set_option maxHeartbeats 2000000 in
theorem unpack_no (b o n c : Nat) (l : List Int) (w : World) (hgL : Laid w) (hl : l.length = n) (hn : n ≤ 70000) (hcap : n ≤ c) (hr : ∀ j : Nat, 0 ≤ l.getD j 0 ∧ l.getD j 0 ≤ 255)
    (hc : ∀ j, j < n → w.cell? ⟨b, o + j, none⟩ = some (.int .u8 (l.getD j 0))) (hbl : b < w.heap.size) (hok : ¬ OkP l) :
    Calls Tryd.prog 36 #[.slice (some ⟨b, o, none⟩) n c] w fun e w' => e = .returned (.tuple #[.agg Z4, .iface 23 (.int .i64 5)]) ∧ Below w.heap.size w w' := by
  have HC := hide (And.intro hr hc)
  have HOK := hide hok
  clear hr hc hok
  go_enter Tryd.func36, Tryd.ntmps36
  go_wp2_with fail
  refine (pkread_any b o n c l _ hl hn hcap (unhide HC).1 (fun j hj => by rw [World.cell?_alloc_lt _ _ ⟨b, o + j, none⟩ hbl]; exact (unhide HC).2 j hj) (by simp; omega)).mono ?_
  rintro e w1 ⟨hb1, h⟩
  obtain ⟨_, s, rfl⟩ := h.resolve_right (fun h => unhide HOK h.1)
  unfold Z4
  have hz1 := hb1.size
  simp only [World.size_alloc] at hz1
  have HKR : Hid (Blk (w1.alloc (.cells #[.int .i64 0, .int .i64 0, .int .i64 0, .slice none 0 0] 46)) w.heap.size Z4 46) := hide (((Blk.new w Z4 46).below (by simp) hb1).alloc _)
  have HKP : Hid (Blk (w1.alloc (.cells #[.int .i64 0, .int .i64 0, .int .i64 0, .slice none 0 0] 46)) w1.heap.size #[.int .i64 0, .int .i64 0, .int .i64 0, .slice none 0 0] 46) := hide (Blk.new _ _ _)
  have HBW : Hid (Below w.heap.size w (w1.alloc (.cells #[.int .i64 0, .int .i64 0, .int .i64 0, .slice none 0 0] 46))) := hide ((((Below.refl _ _).alloc (Nat.le_refl _) _).trans (hb1.mono (by simp))).alloc (by omega) _)
  have HLW : Hid (Laid (w1.alloc (.cells #[.int .i64 0, .int .i64 0, .int .i64 0, .slice none 0 0] 46))) := hide ((((hgL.alloc _).below (by simp) hb1)).alloc _)
  clear hb1
  go_wp2_with fail
  have hgW : w1.heap.size < (w1.alloc (.cells #[.int .i64 0, .int .i64 0, .int .i64 0, .slice none 0 0] 46)).heap.size := by simp
  generalize w1.alloc (.cells #[.int .i64 0, .int .i64 0, .int .i64 0, .slice none 0 0] 46) = W at *
  have p0 : W.cell? ⟨w1.heap.size, 0, none⟩ = some (.int .i64 0) := (unhide HKP).cell 0
  have p1 : W.cell? ⟨w1.heap.size, 1, none⟩ = some (.int .i64 0) := (unhide HKP).cell 1
  have p2 : W.cell? ⟨w1.heap.size, 2, none⟩ = some (.int .i64 0) := (unhide HKP).cell 2
  have p3 : W.cell? ⟨w1.heap.size, 3, none⟩ = some (.slice none 0 0) := (unhide HKP).cell 3
  have hne : w.heap.size ≠ w1.heap.size := by omega
  have hne' : ¬ w1.heap.size = w.heap.size := by omega
  go_region_held3 (fun W' => W'.cell? ⟨w1.heap.size, 0, none⟩ = some (.int .i64 0) ∧ W'.cell? ⟨w1.heap.size, 1, none⟩ = some (.int .i64 0) ∧ W'.cell? ⟨w1.heap.size, 2, none⟩ = some (.int .i64 0) ∧ W'.cell? ⟨w1.heap.size, 3, none⟩ = some (.slice none 0 0))
    (go_keep)
    (first | (go_at_call 48; refine Calls.mono (kindOf_fault s _ (unhide HLW)) ?_; rintro e w3 ⟨rfl, hb3⟩; (have hk3 : Blk w3 w.heap.size Z4 46 := (unhide HKR).drew.below (by simp; omega) hb3); (have r0 : w3.cell? ⟨w.heap.size, 0, none⟩ = some (.int .i64 0) := hk3.cell 0); (have r1 : w3.cell? ⟨w.heap.size, 1, none⟩ = some (.int .i64 0) := hk3.cell 1); (have r2 : w3.cell? ⟨w.heap.size, 2, none⟩ = some (.int .i64 0) := hk3.cell 2); (have r3 : w3.cell? ⟨w.heap.size, 3, none⟩ = some (.slice none 0 0) := hk3.cell 3); (have z0 := hk3.frozen 0); (have z1 := hk3.frozen 1); (have z2 := hk3.frozen 2); (have z3 := hk3.frozen 3); (have s0 : w3.cell? ⟨w1.heap.size, 0, none⟩ = some (.int .i64 0) := by rw [hb3.cell (p := ⟨w1.heap.size, 0, none⟩) hgW]; exact p0); (have s1 : w3.cell? ⟨w1.heap.size, 1, none⟩ = some (.int .i64 0) := by rw [hb3.cell (p := ⟨w1.heap.size, 1, none⟩) hgW]; exact p1); (have s2 : w3.cell? ⟨w1.heap.size, 2, none⟩ = some (.int .i64 0) := by rw [hb3.cell (p := ⟨w1.heap.size, 2, none⟩) hgW]; exact p2); (have s3 : w3.cell? ⟨w1.heap.size, 3, none⟩ = some (.slice none 0 0) := by rw [hb3.cell (p := ⟨w1.heap.size, 3, none⟩) hgW]; exact p3); (have HK3 := hide hk3); (have HB3 := hide hb3); clear hk3 hb3))
  all_goals
    go_wp2_with fail
    refine bodyPost_ret (v := .tuple #[.agg #[.int .i64 0, .int .i64 0, .int .i64 0, .slice none 0 0], .iface 23 (.int .i64 5)]) ?_ rfl ⟨rfl, ?_⟩
    · rw [results_cell_tmp Tryd.results36]
      exact ret_cell_tmp (set4 (unhide HK3) _ _ _ _) Tryd.underlying46 rfl Tryd.sizePk
    · have hbW : Below W.heap.size W w3 := ((Below.refl _ _).drew).trans (unhide HB3)
      exact below_set4 ((unhide HBW).trans (hbW.mono (unhide HBW).size)) _ _ _ _ (Nat.le_refl _)

set_option maxRecDepth 10000 in
set_option maxHeartbeats 2000000 in
theorem unpack_yes (b o n c : Nat) (l : List Int) (w : World) (hgL : Laid w) (hl : l.length = n) (hn : n ≤ 70000) (hcap : n ≤ c) (hr : ∀ j : Nat, 0 ≤ l.getD j 0 ∧ l.getD j 0 ≤ 255)
    (hc : ∀ j, j < n → w.cell? ⟨b, o + j, none⟩ = some (.int .u8 (l.getD j 0))) (hbl : b < w.heap.size) (hok : OkP l) :
    Calls Tryd.prog 36 #[.slice (some ⟨b, o, none⟩) n c] w fun e w' => ∃ g cap, e = .returned (.tuple #[.agg #[.int .i64 (fromL l), .int .i64 (startL l), .int .i64 (ackL l), .slice (some ⟨g, 0, none⟩) (n - 8) cap], .nilIface]) ∧ w'.ownsRow w.heap.size 5 1 (.slice (some ⟨g, 0, none⟩) (n - 8) cap) (n - 8) ((inputsL l).map (Value.int .u8)) ∧ w.heap.size < g ∧ Below w.heap.size w w' := by
  have HC := hide (And.intro hr hc)
  have HOK := hide hok
  clear hr hc hok
  go_enter Tryd.func36, Tryd.ntmps36
  go_wp2_with fail
  refine (pkread_any b o n c l _ hl hn hcap (unhide HC).1 (fun j hj => by rw [World.cell?_alloc_lt _ _ ⟨b, o + j, none⟩ hbl]; exact (unhide HC).2 j hj) (by simp; omega)).mono ?_
  rintro e w1 ⟨hb1, h⟩
  obtain ⟨_, g, cap, rfl, hown⟩ := h.resolve_left (fun h => h.1 (unhide HOK))
  have hz1 := hb1.size
  simp only [World.size_alloc] at hz1
  have HKR : Hid (Blk (w1.alloc (.cells #[.int .i64 (fromL l), .int .i64 (startL l), .int .i64 (ackL l), .slice (some ⟨g, 0, none⟩) (n - 8) cap] 46)) w.heap.size Z4 46) := hide (((Blk.new w Z4 46).below (by simp) hb1).alloc _)
  have HKP : Hid (Blk (w1.alloc (.cells #[.int .i64 (fromL l), .int .i64 (startL l), .int .i64 (ackL l), .slice (some ⟨g, 0, none⟩) (n - 8) cap] 46)) w1.heap.size #[.int .i64 (fromL l), .int .i64 (startL l), .int .i64 (ackL l), .slice (some ⟨g, 0, none⟩) (n - 8) cap] 46) := hide (Blk.new _ _ _)
  have HBW : Hid (Below w.heap.size w (w1.alloc (.cells #[.int .i64 (fromL l), .int .i64 (startL l), .int .i64 (ackL l), .slice (some ⟨g, 0, none⟩) (n - 8) cap] 46))) := hide ((((Below.refl _ _).alloc (Nat.le_refl _) _).trans (hb1.mono (by simp))).alloc (by omega) _)
  have _HLW : Hid (Laid (w1.alloc (.cells #[.int .i64 (fromL l), .int .i64 (startL l), .int .i64 (ackL l), .slice (some ⟨g, 0, none⟩) (n - 8) cap] 46))) := hide ((((hgL.alloc _).below (by simp) hb1)).alloc _)
  have hgo := (hown.lt g rfl).1
  simp only [World.size_alloc] at hgo
  have HOW : Hid ((w1.alloc (.cells #[.int .i64 (fromL l), .int .i64 (startL l), .int .i64 (ackL l), .slice (some ⟨g, 0, none⟩) (n - 8) cap] 46)).ownsRow w.heap.size 5 1 (.slice (some ⟨g, 0, none⟩) (n - 8) cap) (n - 8) ((inputsL l).map (Value.int .u8))) := hide ((owns_mono hown (by simp)).alloc _)
  clear hown
  clear hb1
  go_wp2_with fail
  have hgW : w1.heap.size < (w1.alloc (.cells #[.int .i64 (fromL l), .int .i64 (startL l), .int .i64 (ackL l), .slice (some ⟨g, 0, none⟩) (n - 8) cap] 46)).heap.size := by simp
  generalize w1.alloc (.cells #[.int .i64 (fromL l), .int .i64 (startL l), .int .i64 (ackL l), .slice (some ⟨g, 0, none⟩) (n - 8) cap] 46) = W at *
  have p0 : W.cell? ⟨w1.heap.size, 0, none⟩ = some (.int .i64 (fromL l)) := (unhide HKP).cell 0
  have p1 : W.cell? ⟨w1.heap.size, 1, none⟩ = some (.int .i64 (startL l)) := (unhide HKP).cell 1
  have p2 : W.cell? ⟨w1.heap.size, 2, none⟩ = some (.int .i64 (ackL l)) := (unhide HKP).cell 2
  have p3 : W.cell? ⟨w1.heap.size, 3, none⟩ = some (.slice (some ⟨g, 0, none⟩) (n - 8) cap) := (unhide HKP).cell 3
  have hne : w.heap.size ≠ w1.heap.size := by omega
  have hne' : ¬ w1.heap.size = w.heap.size := by omega
  go_region_held3 (fun W' => W'.cell? ⟨w1.heap.size, 0, none⟩ = some (.int .i64 (fromL l)) ∧ W'.cell? ⟨w1.heap.size, 1, none⟩ = some (.int .i64 (startL l)) ∧ W'.cell? ⟨w1.heap.size, 2, none⟩ = some (.int .i64 (ackL l)) ∧ W'.cell? ⟨w1.heap.size, 3, none⟩ = some (.slice (some ⟨g, 0, none⟩) (n - 8) cap))
    (go_keep)
    (first | (go_at_call 48; refine Calls.mono (kindOf_nil _) ?_; rintro e w3 ⟨rfl, hb3⟩; (have hk3 : Blk w3 w.heap.size Z4 46 := (unhide HKR).drew.below (by simp; omega) hb3); (have r0 : w3.cell? ⟨w.heap.size, 0, none⟩ = some (.int .i64 0) := hk3.cell 0); (have r1 : w3.cell? ⟨w.heap.size, 1, none⟩ = some (.int .i64 0) := hk3.cell 1); (have r2 : w3.cell? ⟨w.heap.size, 2, none⟩ = some (.int .i64 0) := hk3.cell 2); (have r3 : w3.cell? ⟨w.heap.size, 3, none⟩ = some (.slice none 0 0) := hk3.cell 3); (have z0 := hk3.frozen 0); (have z1 := hk3.frozen 1); (have z2 := hk3.frozen 2); (have z3 := hk3.frozen 3); (have s0 : w3.cell? ⟨w1.heap.size, 0, none⟩ = some (.int .i64 (fromL l)) := by rw [hb3.cell (p := ⟨w1.heap.size, 0, none⟩) hgW]; exact p0); (have s1 : w3.cell? ⟨w1.heap.size, 1, none⟩ = some (.int .i64 (startL l)) := by rw [hb3.cell (p := ⟨w1.heap.size, 1, none⟩) hgW]; exact p1); (have s2 : w3.cell? ⟨w1.heap.size, 2, none⟩ = some (.int .i64 (ackL l)) := by rw [hb3.cell (p := ⟨w1.heap.size, 2, none⟩) hgW]; exact p2); (have s3 : w3.cell? ⟨w1.heap.size, 3, none⟩ = some (.slice (some ⟨g, 0, none⟩) (n - 8) cap) := by rw [hb3.cell (p := ⟨w1.heap.size, 3, none⟩) hgW]; exact p3); (have HK3 := hide hk3); (have HB3 := hide hb3); clear hk3 hb3))
  all_goals
    go_wp2_with fail
    refine bodyPost_ret (v := .tuple #[.agg #[.int .i64 (fromL l), .int .i64 (startL l), .int .i64 (ackL l), .slice (some ⟨g, 0, none⟩) (n - 8) cap], .nilIface]) ?_ rfl ⟨g, cap, rfl, ?_, hgo, ?_⟩
    · rw [results_cell_tmp Tryd.results36]
      exact ret_cell_tmp (set4 (unhide HK3) _ _ _ _) Tryd.underlying46 rfl Tryd.sizePk
    · have hbW : Below W.heap.size W w3 := ((Below.refl _ _).drew).trans (unhide HB3)
      exact own_set4 ((unhide HOW).kept (grown_below hbW none) (.inr (by simp [Value.ownBlock]))) _ _ _ _ (by simp [Value.ownBlock]; omega)
    · have hbW : Below W.heap.size W w3 := ((Below.refl _ _).drew).trans (unhide HB3)
      exact below_set4 ((unhide HBW).trans (hbW.mono (unhide HBW).size)) _ _ _ _ (Nat.le_refl _)

set_option maxHeartbeats 1000000 in
theorem punpack_no (b o n c : Nat) (l : List Int) (w : World) (hgL : Laid w) (hl : l.length = n) (hn : n ≤ 70000) (hcap : n ≤ c) (hr : ∀ j : Nat, 0 ≤ l.getD j 0 ∧ l.getD j 0 ≤ 255)
    (hc : ∀ j, j < n → w.cell? ⟨b, o + j, none⟩ = some (.int .u8 (l.getD j 0))) (hbl : b < w.heap.size) (hok : ¬ OkP l) :
    Calls Tryd.prog 25 #[.slice (some ⟨b, o, none⟩) n c] w fun e w' => e = .returned (.tuple #[.agg Z4, .int .i64 5]) ∧ Below w.heap.size w w' := by
  have HC := hide (And.intro hr hc)
  have HOK := hide hok
  clear hr hc hok
  go_enter Tryd.func25, Tryd.ntmps25
  go_wp2_with fail
  refine (unpack_no b o n c l _ (hgL.alloc _) hl hn hcap (unhide HC).1 (fun j hj => by rw [World.cell?_alloc_lt _ _ ⟨b, o + j, none⟩ hbl]; exact (unhide HC).2 j hj) (by simp; omega) (unhide HOK)).mono ?_
  rintro e w1 ⟨rfl, hb1⟩
  unfold Z4
  have hz1 := hb1.size
  simp only [World.size_alloc] at hz1
  have HKR : Hid (Blk (w1.alloc (.cells Z4 46)) w.heap.size Z4 46) := hide (((Blk.new w Z4 46).below (by simp) hb1).alloc _)
  have hL1 : Laid (w1.alloc (.cells Z4 46)) := ((hgL.alloc _).below (by simp) hb1).alloc _
  have HB1 : Hid (Below w.heap.size w (w1.alloc (.cells Z4 46))) := hide ((((Below.refl _ _).alloc (Nat.le_refl _) _).trans (hb1.mono (by simp))).alloc (by omega) _)
  clear hb1
  go_wp2_with fail
  refine (told_kind 5 _ hL1).mono ?_
  rintro e w2 ⟨rfl, hb2⟩
  have hk2 : Blk w2 w.heap.size Z4 46 := (unhide HKR).below (by simp; omega) hb2
  have hp2 : Blk w2 w1.heap.size Z4 46 := (Blk.new w1 Z4 46).below (by simp) hb2
  go_wp2_with (first
    | (refine wpList_load_blk rfl 46 _ rfl w1.heap.size rfl 46 Z4 _ hp2 Tryd.underlying46 rfl Tryd.sizePk ?_)
    | (refine wpList_store_blk rfl 46 _ _ rfl w.heap.size 46 Z4 Z4 rfl rfl hk2 Tryd.sizePk rfl (by kernel_rfl) ?_))
  refine bodyPost_ret (v := .tuple #[.agg Z4, .int .i64 5]) ?_ rfl ⟨rfl, ?_⟩
  · rw [results_cell_tmp Tryd.results25]
    exact ret_cell_tmp (hk2.setRow _) Tryd.underlying46 rfl Tryd.sizePk
  · exact below_setRow ((unhide HB1).trans (hb2.mono (unhide HB1).size)) (Nat.le_refl _) _

set_option maxHeartbeats 1000000 in
theorem punpack_yes (b o n c : Nat) (l : List Int) (w : World) (hgL : Laid w) (hl : l.length = n) (hn : n ≤ 70000) (hcap : n ≤ c) (hr : ∀ j : Nat, 0 ≤ l.getD j 0 ∧ l.getD j 0 ≤ 255)
    (hc : ∀ j, j < n → w.cell? ⟨b, o + j, none⟩ = some (.int .u8 (l.getD j 0))) (hbl : b < w.heap.size) (hok : OkP l) :
    Calls Tryd.prog 25 #[.slice (some ⟨b, o, none⟩) n c] w fun e w' => ∃ g cap, e = .returned (.tuple #[.agg #[.int .i64 (fromL l), .int .i64 (startL l), .int .i64 (ackL l), .slice (some ⟨g, 0, none⟩) (n - 8) cap], .int .i64 0]) ∧ w'.ownsRow w.heap.size 5 1 (.slice (some ⟨g, 0, none⟩) (n - 8) cap) (n - 8) ((inputsL l).map (Value.int .u8)) ∧ w.heap.size < g ∧ Below w.heap.size w w' := by
  have HC := hide (And.intro hr hc)
  have HOK := hide hok
  clear hr hc hok
  go_enter Tryd.func25, Tryd.ntmps25
  go_wp2_with fail
  refine (unpack_yes b o n c l _ (hgL.alloc _) hl hn hcap (unhide HC).1 (fun j hj => by rw [World.cell?_alloc_lt _ _ ⟨b, o + j, none⟩ hbl]; exact (unhide HC).2 j hj) (by simp; omega) (unhide HOK)).mono ?_
  rintro e w1 ⟨g, cap, rfl, hown, hgo, hb1⟩
  have hz1 := hb1.size
  simp only [World.size_alloc] at hz1 hgo
  have hgl := (hown.lt g rfl).2
  have HKR : Hid (Blk (w1.alloc (.cells #[.int .i64 (fromL l), .int .i64 (startL l), .int .i64 (ackL l), .slice (some ⟨g, 0, none⟩) (n - 8) cap] 46)) w.heap.size Z4 46) := hide (((Blk.new w Z4 46).below (by simp) hb1).alloc _)
  have HOW : Hid ((w1.alloc (.cells #[.int .i64 (fromL l), .int .i64 (startL l), .int .i64 (ackL l), .slice (some ⟨g, 0, none⟩) (n - 8) cap] 46)).ownsRow w.heap.size 5 1 (.slice (some ⟨g, 0, none⟩) (n - 8) cap) (n - 8) ((inputsL l).map (Value.int .u8))) := hide ((owns_mono hown (by simp)).alloc _)
  have HB1 : Hid (Below w.heap.size w (w1.alloc (.cells #[.int .i64 (fromL l), .int .i64 (startL l), .int .i64 (ackL l), .slice (some ⟨g, 0, none⟩) (n - 8) cap] 46))) := hide ((((Below.refl _ _).alloc (Nat.le_refl _) _).trans (hb1.mono (by simp))).alloc (by omega) _)
  clear hb1 hown
  go_wp2_with fail
  refine (told_nil _).mono ?_
  rintro e w2 ⟨rfl, hb2⟩
  have hk2 : Blk w2 w.heap.size Z4 46 := (unhide HKR).below (by simp; omega) hb2
  have hp2 : Blk w2 w1.heap.size #[.int .i64 (fromL l), .int .i64 (startL l), .int .i64 (ackL l), .slice (some ⟨g, 0, none⟩) (n - 8) cap] 46 := (Blk.new w1 _ 46).below (by simp) hb2
  go_wp2_with (first
    | (refine wpList_load_blk rfl 46 _ rfl w1.heap.size rfl 46 _ _ hp2 Tryd.underlying46 rfl Tryd.sizePk ?_)
    | (refine wpList_store_blk rfl 46 _ _ rfl w.heap.size 46 Z4 #[.int .i64 (fromL l), .int .i64 (startL l), .int .i64 (ackL l), .slice (some ⟨g, 0, none⟩) (n - 8) cap] rfl rfl hk2 Tryd.sizePk rfl (by kernel_rfl) ?_))
  refine bodyPost_ret (v := .tuple #[.agg #[.int .i64 (fromL l), .int .i64 (startL l), .int .i64 (ackL l), .slice (some ⟨g, 0, none⟩) (n - 8) cap], .int .i64 0]) ?_ rfl ⟨g, cap, rfl, ?_, by omega, ?_⟩
  · rw [results_cell_tmp Tryd.results25]
    exact ret_cell_tmp (hk2.setRow _) Tryd.underlying46 rfl Tryd.sizePk
  · exact ((unhide HOW).kept (grown_below hb2 none) (.inr (by simp [Value.ownBlock]))).kept (grown_setRow _ w.heap.size _) (.inr (by simp [Value.ownBlock]; omega))
  · exact below_setRow ((unhide HB1).trans (hb2.mono (unhide HB1).size)) (Nat.le_refl _) _
end Go.Proofs.YtandblanpafjoaaDoor
