import Derived.Test.YtandblanpafjoabGreatDoorNewG
namespace Go.Proofs.YtandblanpafjoabGreatDoor
open Go.RowKit Go.Extern.Stop Go.Stop Go.Extern

set_option maxRecDepth 10000 in
set_option maxHeartbeats 800000 in
theorem possible_yes (n win delay kind : Nat) (lv : Value) (lags : List Int) (w : World) (h : LagSrc w lv lags) (hl : lags.length ≤ 8) (hr : ∀ x ∈ lags, -1 ≤ x ∧ x ≤ 20) (hn2 : 2 ≤ n) (hn : n ≤ 4) (hw1 : 1 ≤ win) (hw : win ≤ 8) (hd : delay ≤ 3) (hk : kind ≤ 1) :
    Calls Tryz.prog 61 #[.agg #[.int .i64 (n : Int), .int .i64 (win : Int), .int .i64 (delay : Int), .int .i64 (kind : Int), lv]] w fun e w' => e = .returned (.bool true) ∧ Below w.heap.size w w' := by
  have bB : Below w.heap.size w (w.alloc (.cells #[.int .i64 (n : Int), .int .i64 (win : Int), .int .i64 (delay : Int), .int .i64 (kind : Int), lv] 26)) := (Below.refl _ w).alloc (Nat.le_refl _) _
  have xB : Blk (w.alloc (.cells #[.int .i64 (n : Int), .int .i64 (win : Int), .int .i64 (delay : Int), .int .i64 (kind : Int), lv] 26)) w.heap.size #[.int .i64 (n : Int), .int .i64 (win : Int), .int .i64 (delay : Int), .int .i64 (kind : Int), lv] 26 := Blk.new _ _ _
  go_enter Tryz.func61, Tryz.ntmps61
  go_wp2_with fail
  refine (canPlay_yes n _ ⟨hn2, hn⟩).mono ?_
  rintro e w1 ⟨rfl, rfl⟩
  generalize w.alloc (.cells #[.int .i64 (n : Int), .int .i64 (win : Int), .int .i64 (delay : Int), .int .i64 (kind : Int), lv] 26) = W1 at *
  have m1 : W1.cell? ⟨w.heap.size, 1, none⟩ = some (.int .i64 (win : Int)) := xB.cell 1
  have m2 : W1.cell? ⟨w.heap.size, 2, none⟩ = some (.int .i64 (delay : Int)) := xB.cell 2
  have m3 : W1.cell? ⟨w.heap.size, 3, none⟩ = some (.int .i64 (kind : Int)) := xB.cell 3
  have m4 : W1.cell? ⟨w.heap.size, 4, none⟩ = some lv := xB.cell 4
  have d1 : decide ((1 : Int) ≤ (win : Int)) = true := by simp; omega
  have d2 : decide ((win : Int) ≤ 8) = true := by simp; omega
  have d3 : decide ((0 : Int) ≤ (delay : Int)) = true := by simp
  have d4 : decide ((delay : Int) ≤ 3) = true := by simp; omega
  have HX := hide (And.intro bB (h.below bB))
  clear bB xB h
  have HR := hide hr
  clear hr
  by_cases hk0 : kind = 0
  · have e1 : ((kind : Int) == 0) = true := by rw [beq_iff_eq]; omega
    clear hk0 hk
    go_wp2_with fail
    refine (lags_yes lv lags W1 (unhide HX).2 hl (unhide HR)).mono ?_
    rintro e w2 ⟨rfl, rfl⟩
    go_wp2
    go_ret
    exact ⟨rfl, (unhide HX).1⟩
  · have e1 : ((kind : Int) == 0) = false := by rw [beq_eq_false_iff_ne]; omega
    have e2 : ((kind : Int) == 1) = true := by rw [beq_iff_eq]; omega
    clear hk0 hk
    go_wp2_with fail
    refine (lags_yes lv lags W1 (unhide HX).2 hl (unhide HR)).mono ?_
    rintro e w2 ⟨rfl, rfl⟩
    go_wp2
    go_ret
    exact ⟨rfl, (unhide HX).1⟩

set_option maxRecDepth 10000 in
set_option maxHeartbeats 4000000 in
theorem wnew_any (lv : Value) (lags : List Int) (w : World) (h : LagSrc w lv lags) (hl : lags.length ≤ 8) :
    Calls Tryz.prog 62 #[lv] w fun e w' => ∃ lv', e = .returned (.agg #[lv', .int .i64 0, .int .i64 0, .slice none 0 0]) ∧ w'.ownsRow 0 3 1 lv' lags.length (lags.map (Value.int .i64)) ∧ (∀ k, lv'.ownBlock = some k → w.heap.size ≤ k) ∧ (∃ ao n c, lv' = .slice ao n c) ∧ Below w.heap.size w w' := by
  obtain ⟨i8, hi8, hz0, hz1, hz2⟩ := info_parts Tryz.infoI64
  rcases h with ⟨rfl, rfl⟩ | ⟨b, c, rfl, h0, hbl, hc⟩
  · go_enter Tryz.func62, Tryz.ntmps62
    go_wp2
    have hb : Blk (w.alloc (.cells #[.slice none 0 0, .int .i64 0, .int .i64 0, .slice none 0 0] 81)) w.heap.size #[.slice none 0 0, .int .i64 0, .int .i64 0, .slice none 0 0] 81 := Blk.new _ _ _
    refine bodyPost_ret (v := .agg #[.slice none 0 0, .int .i64 0, .int .i64 0, .slice none 0 0]) ?_ rfl ⟨.slice none 0 0, rfl, ⟨by simp, .inl ⟨rfl, rfl⟩⟩, fun k hk => (by simp [Value.ownBlock] at hk), ⟨_, _, _, rfl⟩, (Below.refl _ w).alloc (Nat.le_refl _) _⟩
    exact results_cell_row Tryz.results62 _ _ w.heap.size 81 _ (0, 0) _ rfl hb Tryz.underlying81 rfl Tryz.sizeWire
  · have HC := hide hc
    clear hc
    have bB : Below w.heap.size w (w.alloc (.cells #[.slice none 0 0, .int .i64 0, .int .i64 0, .slice none 0 0] 81)) := (Below.refl _ w).alloc (Nat.le_refl _) _
    have xB : Blk (w.alloc (.cells #[.slice none 0 0, .int .i64 0, .int .i64 0, .slice none 0 0] 81)) w.heap.size #[.slice none 0 0, .int .i64 0, .int .i64 0, .slice none 0 0] 81 := Blk.new _ _ _
    have zB : (w.alloc (.cells #[.slice none 0 0, .int .i64 0, .int .i64 0, .slice none 0 0] 81)).heap.size = w.heap.size + 1 := by simp
    have hnews : ∀ j u, (lags.map (Value.int .i64))[j]? = some u → (w.alloc (.cells #[.slice none 0 0, .int .i64 0, .int .i64 0, .slice none 0 0] 81)).cell? ((⟨b, 0, none⟩ : Addr).add j) = some u := fun j u hj => by
      have hjl : j < lags.length := by have := (List.getElem?_eq_some_iff.1 hj).1; simpa using this
      rw [Addr.add_mid, Nat.zero_add, bB.cell (p := ⟨b, j, none⟩) hbl, unhide HC j hjl]
      rw [List.getElem?_map, List.getElem?_eq_getElem hjl] at hj
      rw [List.getD_eq_getElem?_getD, List.getElem?_eq_getElem hjl]
      simpa using hj
    have hone : ∀ u ∈ lags.map (Value.int .i64), u.oneCell' = true := fun u hu => by
      obtain ⟨x, _, rfl⟩ := List.mem_map.1 hu
      rfl
    have HX := hide (And.intro bB (And.intro xB zB))
    clear bB xB zB
    go_enter Tryz.func62, Tryz.ntmps62
    go_wp2_with (at_builtin; refine wpList_append_own_at (w.alloc (.cells #[.slice none 0 0, .int .i64 0, .int .i64 0, .slice none 0 0] 81)) rfl (.const (.slice none 0 0)) (.tmp 3) 24 rfl 0 3 i8 (.int .i64 0) 1 8 Tryz.underlying24 hi8 hz0 hz1 hz2 rfl (by decide) (.slice none 0 0) 0 [] rfl ⟨rfl, .inl ⟨rfl, rfl⟩⟩ ⟨b, 0, none⟩ lags.length c (lags.map (Value.int .i64)) rfl (by simp) hnews hone (by unfold maxLen; omega) (by omega) (Nat.zero_le _) ?_)
    intro v' w3 hown3 hg3 hnil3 hloc3
    obtain ⟨g', cap', rfl, _, _, _⟩ := own_some hown3 (by omega)
    obtain ⟨bB, xB, zB⟩ := unhide HX
    have hb3 : Below w.heap.size w w3 := ⟨hg3.os.trans bB.os, hg3.tape.trans bB.tape, hg3.output.trans bB.output, Nat.le_trans bB.size hg3.size, fun k hk => (hg3.block k (by omega) (by simp [Value.ownBlock])).trans (bB.block k hk)⟩
    have x3 : Blk w3 w.heap.size #[.slice none 0 0, .int .i64 0, .int .i64 0, .slice none 0 0] 81 := (hg3.block _ (by omega) (by simp [Value.ownBlock])).trans xB
    have hgn : w.heap.size + 1 ≤ g' := by
      rcases hloc3 with e | e
      · simp [Value.ownBlock] at e
      · injection e with e; have : g' = w.heap.size + 1 := e
        omega
    have r0 : w3.cell? ⟨w.heap.size, 0, none⟩ = some (.slice none 0 0) := x3.cell 0
    have r1 : w3.cell? ⟨w.heap.size, 1, none⟩ = some (.int .i64 0) := x3.cell 1
    have r2 : w3.cell? ⟨w.heap.size, 2, none⟩ = some (.int .i64 0) := x3.cell 2
    have r3 : w3.cell? ⟨w.heap.size, 3, none⟩ = some (.slice none 0 0) := x3.cell 3
    have q0 : w3.frozen? ⟨w.heap.size, 0, none⟩ = false := x3.frozen 0
    have q1 : w3.frozen? ⟨w.heap.size, 1, none⟩ = false := x3.frozen 1
    have q2 : w3.frozen? ⟨w.heap.size, 2, none⟩ = false := x3.frozen 2
    have q3 : w3.frozen? ⟨w.heap.size, 3, none⟩ = false := x3.frozen 3
    have H3 := hide (And.intro hown3 (And.intro hb3 x3))
    clear hown3 hg3 hnil3 hloc3 hnews hone hb3 x3 bB xB zB
    go_wp2
    obtain ⟨hown3, hb3, x3⟩ := unhide H3
    have x4 : Blk ((((w3.setCell ⟨w.heap.size, 0, none⟩ (.slice (some ⟨g', 0, none⟩) lags.length cap')).setCell ⟨w.heap.size, 1, none⟩ (.int .i64 0)).setCell ⟨w.heap.size, 2, none⟩ (.int .i64 0)).setCell ⟨w.heap.size, 3, none⟩ (.slice none 0 0)) w.heap.size #[.slice (some ⟨g', 0, none⟩) lags.length cap', .int .i64 0, .int .i64 0, .slice none 0 0] 81 := by
      have := (((x3.set 0 (.slice (some ⟨g', 0, none⟩) lags.length cap')).set 1 (.int .i64 0)).set 2 (.int .i64 0)).set 3 (.slice none 0 0)
      simpa using this
    have o4 : ((((w3.setCell ⟨w.heap.size, 0, none⟩ (.slice (some ⟨g', 0, none⟩) lags.length cap')).setCell ⟨w.heap.size, 1, none⟩ (.int .i64 0)).setCell ⟨w.heap.size, 2, none⟩ (.int .i64 0)).setCell ⟨w.heap.size, 3, none⟩ (.slice none 0 0)).ownsRow 0 3 1 (.slice (some ⟨g', 0, none⟩) lags.length cap') lags.length (lags.map (Value.int .i64)) := by
      have hown4 : w3.ownsRow 0 3 1 (.slice (some ⟨g', 0, none⟩) lags.length cap') lags.length (lags.map (Value.int .i64)) := by simpa using hown3
      refine owns_same hown4 (fun k hk => ?_)
      injection hk with hk
      have e : g' = k := hk
      have hne : k ≠ w.heap.size := by omega
      rw [heap_setCell_other _ _ _ _ hne, heap_setCell_other _ _ _ _ hne, heap_setCell_other _ _ _ _ hne, heap_setCell_other _ _ _ _ hne]
    have b4 : Below w.heap.size w ((((w3.setCell ⟨w.heap.size, 0, none⟩ (.slice (some ⟨g', 0, none⟩) lags.length cap')).setCell ⟨w.heap.size, 1, none⟩ (.int .i64 0)).setCell ⟨w.heap.size, 2, none⟩ (.int .i64 0)).setCell ⟨w.heap.size, 3, none⟩ (.slice none 0 0)) := (((hb3.setCell (p := ⟨w.heap.size, 0, none⟩) (Nat.le_refl _) _).setCell (p := ⟨w.heap.size, 1, none⟩) (Nat.le_refl _) _).setCell (p := ⟨w.heap.size, 2, none⟩) (Nat.le_refl _) _).setCell (p := ⟨w.heap.size, 3, none⟩) (Nat.le_refl _) _
    generalize ((((w3.setCell ⟨w.heap.size, 0, none⟩ (.slice (some ⟨g', 0, none⟩) lags.length cap')).setCell ⟨w.heap.size, 1, none⟩ (.int .i64 0)).setCell ⟨w.heap.size, 2, none⟩ (.int .i64 0)).setCell ⟨w.heap.size, 3, none⟩ (.slice none 0 0)) = W4 at *
    refine bodyPost_ret (v := .agg #[.slice (some ⟨g', 0, none⟩) lags.length cap', .int .i64 0, .int .i64 0, .slice none 0 0]) ?_ rfl ⟨.slice (some ⟨g', 0, none⟩) lags.length cap', rfl, o4, fun k hk => ?_, ⟨_, _, _, rfl⟩, b4⟩
    · exact results_cell_row Tryz.results62 _ _ w.heap.size 81 _ (0, 0) _ rfl x4 Tryz.underlying81 rfl Tryz.sizeWire
    · injection hk with hk
      have e : g' = k := hk
      omega
end Go.Proofs.YtandblanpafjoabGreatDoor
