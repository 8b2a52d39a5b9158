import Derived.Test.YtandblanpafjoabGreatDoorPlay
namespace Go.Proofs.YtandblanpafjoabGreatDoor
open Go.RowKit Go.Extern.Stop Go.Stop Go.Extern

/-- A value that is a list of frames. -/
def FrAt (w : World) (v : Value) (fs : List (List Int)) : Prop :=
  (fs = [] ∧ v = .slice none 0 0) ∨ ∃ f cap, v = .slice (some ⟨f, 0, none⟩) fs.length cap ∧ f < w.heap.size ∧
    ∀ i, i < fs.length → ∃ b c, w.cell? ⟨f, i, none⟩ = some (.slice (some ⟨b, 0, none⟩) (fs.getD i []).length c) ∧ b < w.heap.size ∧ ∀ j, j < (fs.getD i []).length → w.cell? ⟨b, j, none⟩ = some (.int .u8 ((fs.getD i []).getD j 0))
theorem FrAt.below {w w' : World} {v : Value} {fs : List (List Int)} (h : FrAt w v fs) (hb : Below w.heap.size w w') : FrAt w' v fs := by
  rcases h with h | ⟨f, cap, h1, h2, h3⟩
  · exact Or.inl h
  · refine Or.inr ⟨f, cap, h1, Nat.lt_of_lt_of_le h2 hb.size, fun i hi => ?_⟩
    obtain ⟨b, c, c1, c2, c3⟩ := h3 i hi
    exact ⟨b, c, by rw [hb.cell (p := ⟨f, i, none⟩) h2]; exact c1, Nat.lt_of_lt_of_le c2 hb.size, fun j hj => by rw [hb.cell (p := ⟨b, j, none⟩) c2]; exact c3 j hj⟩

/-- Are they frames of a game? -/
def fitB (p : Int) (fs : List (List Int)) : Bool := decide (fs.length ≤ 200) && decide (∀ i, i < fs.length → ((fs.getD i []).length : Int) = p)

set_option maxHeartbeats 1000000 in
theorem playable_any (p : Int) (v : Value) (fs : List (List Int)) (w : World) (hfr : FrAt w v fs) (hN : fs.length ≤ 100000) (hl : ∀ i : Nat, (fs.getD i []).length ≤ 100000) :
    Calls Tryz.prog 44 #[.int .i64 p, v] w fun e w' => e = .returned (.bool (fitB p fs)) ∧ w' = w := by
  rcases hfr with ⟨rfl, rfl⟩ | ⟨f, cap, rfl, hf, hcell⟩
  · go_enter Tryz.func44, Tryz.ntmps44
    go_wp2_with fail
    refine wp_loop_rounds 1 ?_
    rw [rounds_succ]
    go_wp2
    go_ret
    exact ⟨rfl, rfl⟩
  · by_cases h200 : 200 < fs.length
    · have h200' : (200 : Int) < (fs.length : Int) := by omega
      have e : fitB p fs = false := by unfold fitB; rw [decide_eq_false (by omega), Bool.false_and]
      rw [e]
      clear e
      go_enter Tryz.func44, Tryz.ntmps44
      go_wp2_with fail
      go_ret
      exact ⟨rfl, rfl⟩
    · have h200' : ¬ ((200 : Int) < (fs.length : Int)) := by omega
      have HE : Hid (fitB p fs = decide (∀ i, i < fs.length → ((fs.getD i []).length : Int) = p)) := hide (by unfold fitB; rw [decide_eq_true (by omega), Bool.true_and])
      have HC := hide hcell
      have HL := hide hl
      clear hcell hl
      go_enter Tryz.func44, Tryz.ntmps44
      go_wp2_with fail
      go_loop [12] (fun i => ∃ k : Nat, k ≤ fs.length ∧ i = .int .i64 k ∧ ∀ j, j < k → ((fs.getD j []).length : Int) = p) (fun i => fs.length - (intOf i).toNat)
      case atStart => exact ⟨0, by omega, rfl, fun j hj => absurd hj (by omega)⟩
      case round =>
        obtain ⟨k, hk, rfl, hall⟩ := hrel
        have HA := hide hall
        clear hall
        by_cases hlt : k < fs.length
        · obtain ⟨b, c, c1, c2, c3⟩ := unhide HC k hlt
          have hlk := unhide HL k
          have hlt' : (k : Int) < (fs.length : Int) := by omega
          clear c3
          by_cases heq : ((fs.getD k []).length : Int) = p
          · have hne : (((fs.getD k []).length : Int) != p) = false := by rw [heq]; simp
            have HA2 : Hid (∀ j, j < k + 1 → ((fs.getD j []).length : Int) = p) := hide (fun j hj => by
              by_cases hjk : j = k
              · rw [hjk]; exact heq
              · exact unhide HA j (by omega))
            clear heq
            generalize (fs.getD k []).length = q at *
            go_wp2_with fail
            go_round
            case rel => exact ⟨k + 1, by omega, by go_num, unhide HA2⟩
            case measure => simp [intOf]; omega
          · have hne : (((fs.getD k []).length : Int) != p) = true := by rw [bne_iff_ne]; exact heq
            have HF : Hid (fitB p fs = false) := hide (by rw [unhide HE]; exact decide_eq_false (fun hh => heq (hh k hlt)))
            clear heq
            generalize (fs.getD k []).length = q at *
            go_wp2_with fail
            go_ret
            exact ⟨by rw [unhide HF]; rfl, rfl⟩
        · have HF : Hid (fitB p fs = true) := hide (by rw [unhide HE]; exact decide_eq_true (fun j hj => unhide HA j (by omega)))
          go_wp2_with fail
          go_ret
          exact ⟨by rw [unhide HF]; rfl, rfl⟩

end Go.Proofs.YtandblanpafjoabGreatDoor
