import Derived.Test.YtandblanpafjoabGreatDoorNewI
import Derived.Test.YtandblanpafjoabGreatDoorTold
namespace Go.Proofs.YtandblanpafjoabGreatDoor
open Go.RowKit Go.Extern.Stop Go.Stop Go.Extern

/-! The program as it is asked from outside. -/
set_option maxHeartbeats 800000 in
theorem ppnew_any (n win delay kind : Nat) (lv : Value) (lags : List Int) (w : World) (h : LagSrc w lv lags) (hl : lags.length ≤ 8) (hr : ∀ x ∈ lags, -1 ≤ x ∧ x ≤ 20) (hn2 : 2 ≤ n) (hn : n ≤ 4) (hw1 : 1 ≤ win) (hw : win ≤ 8) (hd : delay ≤ 3) (hk : kind ≤ 1) (hlc : ∃ ao m c, lv = .slice ao m c) :
    Calls Tryz.prog 23 #[.agg #[.int .i64 (n : Int), .int .i64 (win : Int), .int .i64 (delay : Int), .int .i64 (kind : Int), lv]] w fun e w' => ∃ g pv pb F, e = .returned (.tuple #[.pointer (some ⟨g, 0, none⟩), .int .i64 0]) ∧ NetQ w' g pv pb F (newM n win delay lags) ∧ (∀ k, F k → w.heap.size ≤ k) ∧ Below w.heap.size w w' := by
  have hlc2 := hlc
  obtain ⟨ao0, m0', c0', rfl⟩ := hlc2
  have bB : Below w.heap.size w (w.alloc (.cells #[.int .i64 (n : Int), .int .i64 (win : Int), .int .i64 (delay : Int), .int .i64 (kind : Int), .slice ao0 m0' c0'] 26)) := (Below.refl _ w).alloc (Nat.le_refl _) _
  have HL := hide (And.intro bB (And.intro (h.below bB) hr))
  clear h bB hr
  go_enter Tryz.func23, Tryz.ntmps23
  go_wp2_with fail
  refine (nnew_any n win delay kind _ lags _ (unhide HL).2.1 hl (unhide HL).2.2 hn2 hn hw1 hw hd hk ⟨_, _, _, rfl⟩).mono ?_
  rintro e w2 ⟨g, pv, pb, F, rfl, hQ, hF, hb2⟩
  have H2 := hide (And.intro hQ (And.intro hF hb2))
  clear hQ hF hb2
  go_wp2_with fail
  refine (told_nil w2).mono ?_
  rintro e w3 ⟨rfl, hb3⟩
  go_wp2
  go_ret2
  obtain ⟨hQ, hF, hb2⟩ := unhide H2
  have z1 := (unhide HL).1.size
  have z2 := hb2.size
  exact ⟨g, pv, pb, F, rfl, hQ.below hb3, fun k hk => Nat.le_trans z1 (hF k hk), ((unhide HL).1.trans (hb2.mono z1)).trans (hb3.mono (by omega))⟩
set_option maxHeartbeats 800000 in
theorem ppadv_yes (g p : Nat) (i : Int) (pv : Value) (pb : Nat → Nat) (F : Nat → Prop) (m : NetM) (w : World) (h : NetQ w g pv pb F m) (hp : p < m.players) (hi : 0 ≤ i ∧ i ≤ 255) (hs : m.sent + 4 ≤ 900000) (hnow : m.now ≤ 900000) (h0 : (m.advance p i).1 = 0) :
    Calls Tryz.prog 21 #[.pointer (some ⟨g, 0, none⟩), .int .i64 (p : Int), .int .u8 i] w fun e w' => e = .returned (.tuple #[.int .i64 0, .int .i64 (-1)]) ∧ Chg F w w' ∧ ∃ F', NetQ w' g pv pb F' (m.advance p i).2 ∧ ∀ k, F' k → F k ∨ w.heap.size ≤ k := by
  have hfr : (m.peers p).frame ≤ 200 := by
    obtain ⟨_, _, _, _, hP⟩ := h.at hp
    exact hP.ok.frame
  have hadv : (m.peers p).frame < 200 ∧ (m.peers p).frame < m.conf p + m.window ∧ (m.advance p i).2 = sendTo (m.stepped p i) p m.players := by
    unfold NetM.advance at h0 ⊢
    by_cases h1 : (m.peers p).frame = 200
    · rw [if_pos h1] at h0; simp at h0
    · rw [if_neg h1] at h0 ⊢
      by_cases h2 : m.window ≤ (m.peers p).frame - m.conf p
      · rw [if_pos h2] at h0; simp at h0
      · rw [if_neg h2]
        exact ⟨by omega, by omega, rfl⟩
  rw [hadv.2.2]
  have HN := hide (And.intro h hadv)
  clear h hadv h0 hfr
  go_enter Tryz.func21, Tryz.ntmps21
  go_wp2_with fail
  refine (nadvance_yes g p i pv pb F m w (unhide HN).1 hp hi hs hnow (unhide HN).2.1 (unhide HN).2.2.1).mono ?_
  rintro e w2 ⟨rfl, hC, F2, hQ, hF2⟩
  have H2 := hide (And.intro hC (And.intro hQ hF2))
  clear hC hQ hF2
  go_wp2_with fail
  refine (told_nil w2).mono ?_
  rintro e w3 ⟨rfl, hb3⟩
  go_wp2
  go_ret2
  obtain ⟨hC, hQ, hF2⟩ := unhide H2
  exact ⟨rfl, hC.thenBelow (hb3.mono hC.size), F2, hQ.below hb3, hF2⟩
set_option maxHeartbeats 800000 in
theorem ppadv_no (g p : Nat) (i : Int) (k : Nat) (pv : Value) (pb : Nat → Nat) (F : Nat → Prop) (m : NetM) (w : World) (hgL : Laid w) (h : NetQ w g pv pb F m) (hp : p < m.players) (hk : (m.advance p i).1 = k) (hk0 : k ≠ 0) :
    Calls Tryz.prog 21 #[.pointer (some ⟨g, 0, none⟩), .int .i64 (p : Int), .int .u8 i] w fun e w' => e = .returned (.tuple #[.int .i64 (k : Int), .int .i64 (p : Int)]) ∧ Below w.heap.size w w' := by
  have HN := hide h
  clear h
  go_enter Tryz.func21, Tryz.ntmps21
  go_wp2_with fail
  refine (nadvance_no g p i k pv pb F m w (unhide HN) hp hk hk0).mono ?_
  rintro e w2 ⟨⟨g2, rfl, hg2, c0, c1⟩, hb2⟩
  go_wp2_with fail
  refine (told_peer g2 (p : Int) (k : Int) w2 (hgL.below hgL.lt hb2) c0 c1).mono ?_
  rintro e w3 ⟨rfl, hb3⟩
  go_wp2
  go_ret2
  exact ⟨rfl, hb2.trans (hb3.mono hb2.size)⟩
set_option maxHeartbeats 800000 in
theorem ppmem_any (g p : Nat) (pv : Value) (pb : Nat → Nat) (F : Nat → Prop) (m : NetM) (w : World) (h : NetQ w g pv pb F m) (hp : p < m.players) :
    Calls Tryz.prog 24 #[.pointer (some ⟨g, 0, none⟩), .int .i64 (p : Int)] w fun e w' => ∃ g2, e = .returned (.tuple #[.slice (some ⟨g2, 0, none⟩) 288 288, .int .i64 0, .int .i64 (-1)]) ∧ w.heap.size ≤ g2 ∧ Blk w' g2 (nums .u8 (stF m.players (insM (m.peers p) m.players) (m.peers p).frame)) 5 ∧ Below w.heap.size w w' := by
  have HN := hide h
  clear h
  go_enter Tryz.func24, Tryz.ntmps24
  go_wp2_with fail
  refine (nmemory_any g p pv pb F m w (unhide HN) hp).mono ?_
  rintro e w2 ⟨g2, rfl, hg2, hB2, hb2⟩
  have H2 := hide (And.intro hB2 hb2)
  clear hB2 hb2
  go_wp2_with fail
  refine (told_nil w2).mono ?_
  rintro e w3 ⟨rfl, hb3⟩
  go_wp2
  go_ret3
  obtain ⟨hB2, hb2⟩ := unhide H2
  exact ⟨g2, rfl, hg2, (hb3.block g2 hB2.lt).trans hB2, hb2.trans (hb3.mono hb2.size)⟩
end Go.Proofs.YtandblanpafjoabGreatDoor
