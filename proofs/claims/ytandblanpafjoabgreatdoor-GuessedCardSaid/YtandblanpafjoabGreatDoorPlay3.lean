import Derived.Test.YtandblanpafjoabGreatDoorPlay2
import Derived.Test.YtandblanpafjoabGreatDoorPlayP
namespace Go.Proofs.YtandblanpafjoabGreatDoor
open Go.RowKit Go.Extern.Stop Go.Stop Go.Extern

set_option maxHeartbeats 1000000 in
theorem canplay_no (p : Int) (w : World) (hp : p < 2 ∨ 4 < p) : Calls Tryz.prog 43 #[.int .i64 p] w fun e w' => e = .returned (.bool false) ∧ w' = w := by
  by_cases h : (2 : Int) ≤ p
  · have d1 : decide ((2 : Int) ≤ p) = true := by simp [h]
    have d2 : decide (p ≤ 4) = false := by simp; omega
    go_enter Tryz.func43, Tryz.ntmps43
    go_wp2
    go_ret
    exact ⟨rfl, rfl⟩
  · have d1 : decide ((2 : Int) ≤ p) = false := by simp; omega
    go_enter Tryz.func43, Tryz.ntmps43
    go_wp2
    go_ret
    exact ⟨rfl, rfl⟩
set_option maxHeartbeats 1000000 in
theorem canplay_yes (p : Int) (w : World) (h2 : 2 ≤ p) (h4 : p ≤ 4) : Calls Tryz.prog 43 #[.int .i64 p] w fun e w' => e = .returned (.bool true) ∧ w' = w := by
  have d1 : decide ((2 : Int) ≤ p) = true := by simp [h2]
  have d2 : decide (p ≤ 4) = true := by simp [h4]
  go_enter Tryz.func43, Tryz.ntmps43
  go_wp2
  go_ret
  exact ⟨rfl, rfl⟩

set_option maxHeartbeats 1000000 in
theorem play_player (p : Int) (v : Value) (w : World) (hp : p < 2 ∨ 4 < p) :
    Calls Tryz.prog 27 #[.int .i64 p, v] w fun e w' => e = .returned (.tuple #[.slice none 0 0, .iface 39 (.int .i64 2)]) ∧ w' = w := by
  go_enter Tryz.func27, Tryz.ntmps27
  go_wp2_with fail
  refine (canplay_no p w hp).mono ?_
  rintro e w1 ⟨rfl, rfl⟩
  go_wp2_with fail
  go_ret2
  exact ⟨rfl, rfl⟩

set_option maxHeartbeats 1000000 in
theorem play_inputs (n : Nat) (v : Value) (fs : List (List Int)) (w : World) (hn2 : 2 ≤ n) (hn4 : n ≤ 4) (hfr : FrAt w v fs) (hN : fs.length ≤ 100000) (hl : ∀ i : Nat, (fs.getD i []).length ≤ 100000) (hf : fitB (n : Int) fs = false) :
    Calls Tryz.prog 27 #[.int .i64 (n : Int), v] w fun e w' => e = .returned (.tuple #[.slice none 0 0, .iface 39 (.int .i64 7)]) ∧ w' = w := by
  have h2 : ¬ ((n : Int) < 2) := by omega
  have h4 : ¬ ((4 : Int) < (n : Int)) := by omega
  have HL := hide hl
  clear hl
  go_enter Tryz.func27, Tryz.ntmps27
  go_wp2_with fail
  refine (canplay_yes (n : Int) w (by omega) (by omega)).mono ?_
  rintro e w ⟨rfl, rfl⟩
  go_wp2_with fail
  refine (playable_any (n : Int) v fs w hfr hN (unhide HL)).mono ?_
  rintro e w1 ⟨rfl, rfl⟩
  go_wp2_with fail
  go_ret2
  exact ⟨rfl, rfl⟩

set_option maxRecDepth 100000 in
set_option maxHeartbeats 1000000 in
theorem play_yes (n : Nat) (v : Value) (fs : List (List Int)) (w : World) (hn2 : 2 ≤ n) (hn4 : n ≤ 4) (hfr : FrAt w v fs) (hN : fs.length ≤ 100000) (hl : ∀ i : Nat, (fs.getD i []).length ≤ 100000) (hf : fitB (n : Int) fs = true)
    (hrg : ∀ i j : Nat, 0 ≤ (fs.getD i []).getD j 0 ∧ (fs.getD i []).getD j 0 ≤ 255) :
    Calls Tryz.prog 27 #[.int .i64 (n : Int), v] w fun e w' => ∃ g, e = .returned (.tuple #[.slice (some ⟨g, 0, none⟩) 288 288, .nilIface]) ∧ w.heap.size ≤ g ∧ Blk w' g (nums .u8 (playL n fs)) 5 ∧ Below w.heap.size w w' := by
  have h2 : ¬ ((n : Int) < 2) := by omega
  have h4 : ¬ ((4 : Int) < (n : Int)) := by omega
  have hz := Tryz.zeroMem
  have hlen : ∀ i, i < fs.length → (fs.getD i []).length = n := fun i hi => by
    have hf' := hf
    unfold fitB at hf'
    rw [Bool.and_eq_true] at hf'
    have := of_decide_eq_true hf'.2 i hi
    omega
  have HL := hide hl
  have HLE := hide hlen
  have HRG := hide hrg
  have HFR := hide hfr
  clear hl hlen hrg hfr
  go_enter Tryz.func27, Tryz.ntmps27
  go_wp2_with fail
  refine (canplay_yes (n : Int) w (by omega) (by omega)).mono ?_
  rintro e w ⟨rfl, rfl⟩
  go_wp2_with fail
  refine (playable_any (n : Int) v fs w (unhide HFR) hN (unhide HL)).mono ?_
  rintro e w1 ⟨rfl, rfl⟩
  rw [hf]
  go_wp2_with fail
  refine (start_any n w1 hn4).mono ?_
  rintro e w2 ⟨rfl, hb2⟩
  have hz2 := hb2.size
  have hfr2 := (unhide HFR).below hb2
  rcases hfr2 with ⟨hfs, rfl⟩ | ⟨f, cap, rfl, hf2, hcell⟩
  · subst hfs
    go_wp2_with (first | (refine wpList_store_new rfl 106 _ _ rfl (nums .u8 Z288) (nums .u8 (startTo n)) rfl rfl (Tryz.sizeMem _ (startTo_len n)) (by rw [nums_size, nums_size, startTo_len, Z288_len]) (nums_one _ _) ?_))
    refine wp_loop_rounds 1 ?_
    rw [rounds_succ]
    go_wp2_with (first | (refine wpList_load_blk rfl 106 _ rfl w2.heap.size rfl 106 (nums .u8 (startTo n)) _ (Blk.new _ _ _) Tryz.underlying106 rfl (Tryz.sizeMem _ (startTo_len n)) ?_))
    refine (bytes_any (startTo n) _ (startTo_len n)).mono ?_
    rintro e w3 ⟨g, rfl, hg3, hbg, hb3⟩
    go_wp2
    go_ret2
    exact ⟨g, rfl, by simp at hg3; omega, hbg, (hb2.alloc hz2 _).trans (hb3.mono (by simp; omega))⟩
  · have HC := hide hcell
    clear hcell
    go_wp2_with (first | (refine wpList_store_new rfl 106 _ _ rfl (nums .u8 Z288) (nums .u8 (startTo n)) rfl rfl (Tryz.sizeMem _ (startTo_len n)) (by rw [nums_size, nums_size, startTo_len, Z288_len]) (nums_one _ _) ?_))
    go_loopw [22] (fun i wr => ∃ k : Nat, k ≤ fs.length ∧ i = .int .i64 k ∧ Below w2.heap.size w2 wr ∧ Blk wr w2.heap.size (nums .u8 (playTo n fs k)) 106) (fun i _ => fs.length - (intOf i).toNat)
    case atStart => exact ⟨0, by omega, rfl, (Below.refl _ _).alloc (Nat.le_refl _) _, Blk.new _ _ _⟩
    case round =>
      obtain ⟨k, hk, rfl, hb3, hbm⟩ := hrel
      have hgk := good_play n hn4 fs k
      have hlk := hgk.len
      have HBM := hide hbm
      have hlm := hbm.lt
      have HGK := hide hgk
      clear hbm hgk
      by_cases hlt : k < fs.length
      · obtain ⟨b, c, c1, c2, c3⟩ := unhide HC k hlt
        have hlt' : (k : Int) < (fs.length : Int) := by omega
        have hck : wr.cell? ⟨f, k, none⟩ = some (.slice (some ⟨b, 0, none⟩) n c) := by
          rw [hb3.cell (p := ⟨f, k, none⟩) hf2, c1, unhide HLE k hlt]
        have HLN : Hid ((frameL (playTo n fs k) n (fs.getD k [])).length = 288) := hide (good_play n hn4 fs (k + 1)).len
        clear c1
        have HC3 := hide c3
        clear c3
        go_wp2_with (refine wpList_load_blk rfl 106 _ rfl w2.heap.size rfl 106 (nums .u8 (playTo n fs k)) _ (unhide HBM) Tryz.underlying106 rfl (Tryz.sizeMem _ hlk) ?_)
        refine (next_any b n c (playTo n fs k) (fs.getD k []) wr hn4 (unhide HGK) (unhide HLE k hlt) (unhide HRG k) (by have := hb3.size; omega) (fun j hj => by rw [hb3.cell (p := ⟨b, j, none⟩) c2]; exact unhide HC3 j (by rw [unhide HLE k hlt]; exact hj))).mono ?_
        rintro e w4 ⟨rfl, hb4⟩
        have hz4 := hb4.size
        have hbm4 := (unhide HBM).below hlm hb4
        have hln := unhide HLN
        have HNM : Hid (playTo n fs (k + 1) = frameL (playTo n fs k) n (fs.getD k [])) := hide rfl
        clear HLN
        generalize frameL (playTo n fs k) n (fs.getD k []) = nm at *
        go_wp2_with (refine wpList_store_blk rfl 106 _ _ rfl w2.heap.size 106 (nums .u8 (playTo n fs k)) (nums .u8 nm) rfl rfl hbm4 (Tryz.sizeMem _ hln) (by rw [nums_size, nums_size, hlk, hln]) (nums_one _ _) ?_)
        go_roundw
        case rel => exact ⟨k + 1, by omega, by go_num, below_setRow (hb3.trans (hb4.mono (by omega))) (Nat.le_refl _) _, by rw [unhide HNM]; exact hbm4.setRow _⟩
        case measure => simp [intOf]; omega
      · have hkn : k = fs.length := by omega
        subst hkn
        go_wp2_with (refine wpList_load_blk rfl 106 _ rfl w2.heap.size rfl 106 (nums .u8 (playTo n fs fs.length)) _ (unhide HBM) Tryz.underlying106 rfl (Tryz.sizeMem _ hlk) ?_)
        refine (bytes_any (playTo n fs fs.length) _ hlk).mono ?_
        rintro e w4 ⟨g, rfl, hg4, hbg, hb4⟩
        go_wp2
        go_ret2
        have hz3 := hb3.size
        exact ⟨g, rfl, by omega, hbg, (hb2.trans (hb3.mono hz2)).trans (hb4.mono (by omega))⟩
end Go.Proofs.YtandblanpafjoabGreatDoor
