import Derived.Test.YtandblanpafjoabGreatDoorPlay3
namespace Go.Proofs.YtandblanpafjoabGreatDoor
open Go.RowKit Go.Extern.Stop Go.Stop Go.Extern

set_option maxHeartbeats 1000000 in
theorem pplay_player (p : Int) (v : Value) (w : World) (hgL : Laid w) (hp : p < 2 ∨ 4 < p) :
    Calls Tryz.prog 15 #[.int .i64 p, v] w fun e w' => e = .returned (.tuple #[.slice none 0 0, .int .i64 2]) ∧ Below w.heap.size w w' := by
  go_enter Tryz.func15, Tryz.ntmps15
  go_wp2_with fail
  refine (play_player p v w hp).mono ?_
  rintro e w1 ⟨rfl, rfl⟩
  go_wp2_with fail
  refine (told_kind 2 w1 hgL).mono ?_
  rintro e w2 ⟨rfl, hb2⟩
  go_wp2
  go_ret2
  exact ⟨rfl, hb2⟩

set_option maxHeartbeats 1000000 in
theorem pplay_inputs (n : Nat) (v : Value) (fs : List (List Int)) (w : World) (hgL : Laid w) (hn2 : 2 ≤ n) (hn4 : n ≤ 4) (hfr : FrAt w v fs) (hN : fs.length ≤ 100000) (hl : ∀ i : Nat, (fs.getD i []).length ≤ 100000) (hf : fitB (n : Int) fs = false) :
    Calls Tryz.prog 15 #[.int .i64 (n : Int), v] w fun e w' => e = .returned (.tuple #[.slice none 0 0, .int .i64 7]) ∧ Below w.heap.size w w' := by
  have HL := hide hl
  have HFR := hide hfr
  clear hl hfr
  go_enter Tryz.func15, Tryz.ntmps15
  go_wp2_with fail
  refine (play_inputs n v fs w hn2 hn4 (unhide HFR) hN (unhide HL) hf).mono ?_
  rintro e w1 ⟨rfl, rfl⟩
  go_wp2_with fail
  refine (told_kind 7 w1 hgL).mono ?_
  rintro e w2 ⟨rfl, hb2⟩
  go_wp2
  go_ret2
  exact ⟨rfl, hb2⟩

set_option maxHeartbeats 1000000 in
theorem pplay_yes (n : Nat) (v : Value) (fs : List (List Int)) (w : World) (hn2 : 2 ≤ n) (hn4 : n ≤ 4) (hfr : FrAt w v fs) (hN : fs.length ≤ 100000) (hl : ∀ i : Nat, (fs.getD i []).length ≤ 100000) (hf : fitB (n : Int) fs = true)
    (hrg : ∀ i j : Nat, 0 ≤ (fs.getD i []).getD j 0 ∧ (fs.getD i []).getD j 0 ≤ 255) :
    Calls Tryz.prog 15 #[.int .i64 (n : Int), v] w fun e w' => ∃ g, e = .returned (.tuple #[.slice (some ⟨g, 0, none⟩) 288 288, .int .i64 0]) ∧ w.heap.size ≤ g ∧ Blk w' g (nums .u8 (playL n fs)) 5 ∧ Below w.heap.size w w' := by
  have HL := hide hl
  have HFR := hide hfr
  have HRG := hide hrg
  clear hl hfr hrg
  go_enter Tryz.func15, Tryz.ntmps15
  go_wp2_with fail
  refine (play_yes n v fs w hn2 hn4 (unhide HFR) hN (unhide HL) hf (unhide HRG)).mono ?_
  rintro e w1 ⟨g, rfl, hg1, hbg, hb1⟩
  go_wp2_with fail
  refine (told_nil w1).mono ?_
  rintro e w2 ⟨rfl, hb2⟩
  go_wp2
  go_ret2
  exact ⟨g, rfl, hg1, hbg.below hbg.lt hb2, hb1.trans (hb2.mono hb1.size)⟩

/-! The frames that a text is cut into. -/
end Go.Proofs.YtandblanpafjoabGreatDoor
