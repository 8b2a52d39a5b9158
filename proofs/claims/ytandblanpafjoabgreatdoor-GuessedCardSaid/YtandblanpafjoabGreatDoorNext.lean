import Derived.Test.YtandblanpafjoabGreatDoorGame
import Derived.Test.YtandblanpafjoabGreatDoorMemZ
import Derived.WalkMore
import Derived.Deep.LoopGhost
namespace Go.Proofs.YtandblanpafjoabGreatDoor
open Go.RowKit Go.Extern.Stop Go.Stop Go.Extern

theorem sizeC128 : (Tryz.prog.info? 155).map (·.size) = some 1 := by kernel_rfl
theorem field_place (a b c : Value) (w : World) : (Instr.field 159 (.agg #[a, b, c]) 0).run Tryz.prog w = .ok a w := by kernel_rfl
theorem settle_at (S : Int) (g k x y h t s i : Nat) (hS : S = (s : Int)) (m : List Int) (w : World) (hm : m.length = 288) (hk : k < 4) (hx : x < 16) (hy : y < 16) (hh : h < 4) (ht : t < 4) (hs : s < 65536) (hi : i < 256) (hr : ∀ j : Nat, 0 ≤ m.getD j 0 ∧ m.getD j 0 ≤ 255)
    (hblk : Blk w g (nums .u8 m) 106) :
    Calls Tryz.prog 74 #[.pointer (some ⟨g, 0, none⟩), .int .i64 (k : Int), .agg #[.complex .f64 (fo (x : Int)) (fo (y : Int)), .complex .f64 (tre h t) (tim h t), .int .u16 S], .int .u8 (i : Int)] w
      fun e w' => e = .returned (.tuple #[]) ∧ Blk w' g (nums .u8 (settleL m k x y (newHead h t) s i)) 106 ∧ w.grownBy w' (some g) := by
  subst hS; exact settle_any g k x y h t s i m w hm hk hx hy hh ht hs hi hr hblk
theorem blocked_yes {m : List Int} {n k tx ty : Nat} (o : Nat) (ho : o < n) (hne : ¬ o = k) (h : gx m o = tx ∧ gy m o = ty) : blocked m n k tx ty = true := by
  unfold blocked
  rw [List.any_eq_true]
  exact ⟨o, List.mem_range.2 ho, by simp [hne, h.1, h.2]⟩
theorem blocked_no {m : List Int} {n k tx ty : Nat} (h : ∀ j, j < n → j ≠ k → ¬ (gx m j = tx ∧ gy m j = ty)) : blocked m n k tx ty = false := by
  unfold blocked
  rw [List.any_eq_false]
  intro o ho
  have := h o (List.mem_range.1 ho)
  simp
  exact fun h1 h2 h3 => this h1 ⟨h2, h3⟩

set_option maxRecDepth 100000 in
set_option maxHeartbeats 1000000 in
theorem next_any (b n c : Nat) (m ins : List Int) (w : World) (hn : n ≤ 4) (hg : Good m n) (hlen : ins.length = n) (hri : ∀ j : Nat, 0 ≤ ins.getD j 0 ∧ ins.getD j 0 ≤ 255) (hbl : b < w.heap.size)
    (hc : ∀ j, j < n → w.cell? ⟨b, j, none⟩ = some (.int .u8 (ins.getD j 0))) :
    Calls Tryz.prog 46 #[.agg (nums .u8 m), .slice (some ⟨b, 0, none⟩) n c] w fun e w' => e = .returned (.agg (nums .u8 (frameL m n ins))) ∧ Below w.heap.size w w' := by
  have hz := Tryz.zeroMem
  have hsc := store_complex
  have hfld := field_place
  have HC := hide hc
  have HRI := hide hri
  have HG := hide hg
  clear hc hri hg
  go_enter Tryz.func46, Tryz.ntmps46
  go_wp2_with fail
  go_step3
  go_wp2_with fail
  go_step3
  go_wp2_with fail
  go_loopg [12] n (fun gk i wr => ∃ k : Nat, gk = n - k ∧ k ≤ n ∧ i = .int .i64 k ∧ Below w.heap.size w wr ∧ Blk wr w.heap.size (nums .u8 (turnsL m n ins k)) 106 ∧ Blk wr (w.heap.size + 1) (nums .u8 Z288) 106)
  case atStart => exact ⟨0, rfl, by omega, rfl, ((Below.refl _ _).alloc (Nat.le_refl _) _).alloc (by simp) _, heap_alloc2_old _ _ _, heap_alloc2_new _ _ _⟩
  case round =>
    obtain ⟨k, hgk0, hk, rfl, hb, hbm, hbz⟩ := hrel
    have HGK0 := hide hgk0
    clear hgk0
    by_cases hlt : k < n
    · have hgk := good_turns (unhide HG) ins hn k hk
      have hik := unhide HRI k
      obtain ⟨i, hi⟩ : ∃ i : Nat, ins.getD k 0 = (i : Int) := ⟨(ins.getD k 0).toNat, by omega⟩
      have hcell : wr.cell? ⟨b, k, none⟩ = some (.int .u8 (i : Int)) := by
        rw [hb.cell (p := ⟨b, k, none⟩) hbl, unhide HC k hlt, hi]
      have hi256 : i < 256 := by omega
      have HT : Hid (turnsL m n ins (k + 1) = turnL (turnsL m n ins k) n k i) := hide (by
        show turnL (turnsL m n ins k) n k (ins.getD k 0).toNat = _
        rw [hi]; rfl)
      generalize turnsL m n ins k = mk at *
      have hlk : (k : Int) < (n : Int) := by omega
      have HBM := hide hbm
      have HBZ := hide hbz
      have HGK := hide hgk
      clear hik hi hbm hbz hgk
      go_wp2_with fail
      refine (ship_any w.heap.size k _ _ _ _ _ mk wr (unhide HGK).len (by omega) ((unhide HGK).ship hlt) (unhide HBM)).mono ?_
      rintro e w1 ⟨rfl, hb1⟩
      have hz1 := hb1.size
      go_wp2_with fail
      refine (turned_any _ _ (gh mk k) i _ w1 ((unhide HGK).sh k hlt) hi256).mono ?_
      rintro e w2 ⟨rfl, hb2⟩
      have hz2 := hb2.size
      go_wp2_with fail
      refine (target_any (gx mk k) (gy mk k) (gh mk k) i _ _ ((unhide HGK).sx k hlt) ((unhide HGK).sy k hlt) ((unhide HGK).sh k hlt) hi256).mono ?_
      rintro e w3 ⟨rfl, hb3⟩
      have hz3 := hb3.size
      obtain ⟨W3, hW3⟩ : ∃ x, x = w3 := ⟨_, rfl⟩
      subst hW3
      have b12 : Below wr.heap.size wr w2 := hb1.trans (hb2.mono hz1)
      have b13 : Below wr.heap.size wr W3 := (b12.alloc b12.size _).trans (hb3.mono (by simp; omega))
      simp only [World.size_alloc] at hz3
      have bm3 : Blk W3 w.heap.size (nums .u8 mk) 106 := (unhide HBM).below (unhide HBM).lt b13
      have bz3 : Blk W3 (w.heap.size + 1) (nums .u8 Z288) 106 := (unhide HBZ).below (unhide HBZ).lt b13
      have bs3 : Blk W3 w2.heap.size #[.complex .f64 (fo (gx mk k : Int)) (fo (gy mk k : Int)), .complex .f64 (tre (gh mk k) (i % 4)) (tim (gh mk k) (i % 4)), .int .u16 ((ga mk k : Int) * 256 + (gb mk k : Int))] 159 := (Blk.new w2 _ _).below (by simp) hb3
      have bw3 : Below w.heap.size w W3 := hb.trans (b13.mono hb.size)
      have hlm := (unhide HBM).lt
      have hlz := (unhide HBZ).lt
      have HX := hide (unhide HGK).sx
      have HY := hide (unhide HGK).sy
      have htx := goX_lt (gx mk k) (gh mk k) (i % 4) (unhide HX k hlt)
      have hty := goY_lt (gy mk k) (gh mk k) (i % 4) (unhide HY k hlt)
      have HTU : Hid (turnL mk n k i = if blocked mk n k (goX (gx mk k) (gh mk k) (i % 4)) (goY (gy mk k) (gh mk k) (i % 4)) then settleL mk k (gx mk k) (gy mk k) (newHead (gh mk k) (i % 4)) (gs mk k) i
        else settleL mk k (goX (gx mk k) (gh mk k) (i % 4)) (goY (gy mk k) (gh mk k) (i % 4)) (newHead (gh mk k) (i % 4)) (gs mk k) i) := hide rfl
      generalize goX (gx mk k) (gh mk k) (i % 4) = tx at *
      generalize goY (gy mk k) (gh mk k) (i % 4) = ty at *
      have ht4 : i % 4 < 4 := Nat.mod_lt _ (by omega)
      have hne1 : w2.heap.size ≠ w.heap.size := by omega
      have hne2 : w2.heap.size ≠ w.heap.size + 1 := by omega
      have HBM3 := hide bm3
      have HBZ3 := hide bz3
      have HBS3 := hide bs3
      clear hb1 hb2 hb3 b12 b13 bm3 bz3 bs3 hb HBM HBZ
      go_wp2_with fail
      go_loopg [26] n (fun gj i w4 => ∃ o : Nat, gj = n - o ∧ o ≤ n ∧ i = .int .i64 o ∧ Below W3.heap.size W3 w4 ∧ (∀ j, j < o → j ≠ k → ¬ (gx mk j = tx ∧ gy mk j = ty)))
      case atStart => exact ⟨0, rfl, by omega, rfl, Below.refl _ _, fun j hj => absurd hj (by omega)⟩
      case round =>
        obtain ⟨o, hgo, ho, rfl, hb4, hno⟩ := hrel
        have HGO := hide hgo
        have HNO := hide hno
        clear hgo hno
        have hz4 := hb4.size
        by_cases hon : o < n
        · have hon' : (o : Int) < (n : Int) := by omega
          by_cases hok : o = k
          · subst hok
            go_wp2_with fail
            go_roundg (n - (o + 1))
            case measure => have := unhide HGO; omega
            case rel => exact ⟨o + 1, rfl, by omega, by go_num, hb4, fun j hj hne => unhide HNO j (by omega) hne⟩
          · have hne : ((o : Int) != (k : Int)) = true := by rw [bne_iff_ne]; omega
            have hceq := ceq (gx mk o) (gy mk o) tx ty (unhide HX o hon) (unhide HY o hon) htx hty
            by_cases hit : gx mk o = tx ∧ gy mk o = ty
            · have hd : (decide (gx mk o = tx) && decide (gy mk o = ty)) = true := by simp [hit.1, hit.2]
              rw [hd] at hceq
              clear hd
              have HTL : Hid (turnL mk n k i = settleL mk k (gx mk k) (gy mk k) (newHead (gh mk k) (i % 4)) (gs mk k) i) := by
                rw [unhide HTU, if_pos (blocked_yes o hon hok hit)]; exact hide rfl
              have HIT := hide hit
              clear hit
              go_wp2_with fail
              refine (ship_any w.heap.size o _ _ _ _ _ mk wr (unhide HGK).len (by omega) ((unhide HGK).ship hon) ((unhide HBM3).below (by omega) hb4)).mono ?_
              rintro e w5 ⟨rfl, hb5⟩
              have b35 : Below W3.heap.size W3 w5 := hb4.trans (hb5.mono hz4)
              have hz5 := b35.size
              have bs5 := (unhide HBS3).below (unhide HBS3).lt b35
              have hcs := bs5.cell
              go_wp2_with fail
              refine (settle_at _ w.heap.size k (gx mk k) (gy mk k) (gh mk k) (i % 4) (gs mk k) i (by unfold gs; omega) mk w5 (unhide HGK).len (by omega) (unhide HX k hlt) (unhide HY k hlt) ((unhide HGK).sh k hlt) ht4 (unhide HGK).score hi256 (unhide HGK).rng ((unhide HBM3).below (by omega) b35)).mono ?_
              rintro e w6 ⟨rfl, hb6, hg6⟩
              go_wp2_with fail
              go_roundg (n - (k + 1))
              case measure => have := unhide HGK0; omega
              case rel =>
                refine ⟨k + 1, rfl, by omega, by go_num, (bw3.trans (b35.mono bw3.size)).trans (below_grown hg6 (by have := bw3.size; omega) (Nat.le_refl _)), ?_, ((unhide HBZ3).below (by omega) b35).grown hg6 (by omega)⟩
                rw [unhide HT, unhide HTL]; exact hb6
            · have hd : (decide (gx mk o = tx) && decide (gy mk o = ty)) = false := by
                rw [Bool.and_eq_false_iff]
                by_cases h1 : gx mk o = tx
                · exact Or.inr (decide_eq_false (fun h2 => hit ⟨h1, h2⟩))
                · exact Or.inl (decide_eq_false h1)
              rw [hd] at hceq
              have HIT := hide hit
              clear hd hit
              go_wp2_with fail
              refine (ship_any w.heap.size o _ _ _ _ _ mk wr (unhide HGK).len (by omega) ((unhide HGK).ship hon) ((unhide HBM3).below (by omega) hb4)).mono ?_
              rintro e w5 ⟨rfl, hb5⟩
              have b35 : Below W3.heap.size W3 w5 := hb4.trans (hb5.mono hz4)
              go_wp2_with fail
              go_roundg (n - (o + 1))
              case measure => have := unhide HGO; omega
              case rel =>
                refine ⟨o + 1, rfl, by omega, by go_num, b35, fun j hj hne => ?_⟩
                by_cases hjo : j = o
                · subst hjo; exact unhide HIT
                · exact unhide HNO j (by omega) hne
        · have hon' : ¬ ((o : Int) < (n : Int)) := by omega
          have HTL : Hid (turnL mk n k i = settleL mk k tx ty (newHead (gh mk k) (i % 4)) (gs mk k) i) := by
            rw [unhide HTU, blocked_no (fun j hj hne => unhide HNO j (by omega) hne), if_neg (by decide)]; exact hide rfl
          have bs4 := (unhide HBS3).below (unhide HBS3).lt hb4
          go_wp2_with (refine wpList_store_one rfl 155 _ _ rfl _ _ _ _ _ rfl rfl rfl (by assumption) (by simp) sizeC128 ?_; intro w5 hb5 hg5 hz5 hcl5; have hcs := hb5.cell)
          refine (settle_at _ w.heap.size k tx ty (gh mk k) (i % 4) (gs mk k) i (by unfold gs; omega) mk w5 (unhide HGK).len (by omega) htx hty ((unhide HGK).sh k hlt) ht4 (unhide HGK).score hi256 (unhide HGK).rng (((unhide HBM3).below (by omega) hb4).grown hg5 (Ne.symm hne1))).mono ?_
          rintro e w6 ⟨rfl, hb6, hg6⟩
          go_wp2_with fail
          go_roundg (n - (k + 1))
          case measure => have := unhide HGK0; omega
          case rel =>
            refine ⟨k + 1, rfl, by omega, by go_num, ((bw3.trans (hb4.mono bw3.size)).trans (below_grown hg5 (by have := bw3.size; omega) (by have := bw3.size; omega))).trans (below_grown hg6 (by have := bw3.size; omega) (Nat.le_refl _)), ?_, (((unhide HBZ3).below (by omega) hb4).grown hg5 (Ne.symm hne2)).grown hg6 (by omega)⟩
            rw [unhide HT, unhide HTL]; exact hb6
    · have hkn : k = n := by omega
      subst hkn
      have hlm := (good_turns (unhide HG) ins hn k (Nat.le_refl _)).len
      have HBM := hide hbm
      have HBZ := hide hbz
      clear hbm hbz
      go_wp2_with (first | (refine wpList_load_blk rfl 106 _ rfl w.heap.size rfl 106 (nums .u8 (turnsL m k ins k)) _ (unhide HBM) Tryz.underlying106 rfl (Tryz.sizeMem _ hlm) ?_) | (refine wpList_store_blk rfl 106 _ _ rfl (w.heap.size + 1) 106 (nums .u8 Z288) (nums .u8 (turnsL m k ins k)) rfl rfl (unhide HBZ) (Tryz.sizeMem _ hlm) (by rw [nums_size, nums_size, hlm, Z288_len]) (nums_one _ _) ?_))
      try rw [Exit.noGoto_ret]
      refine bodyPost_ret (v := .agg (nums .u8 (turnsL m k ins k))) ?_ rfl ⟨rfl, ?_⟩
      · exact results_cell_row Tryz.results46 _ _ (w.heap.size + 1) 106 _ (0, 0) _ rfl ((unhide HBZ).setRow _) Tryz.underlying106 rfl (Tryz.sizeMem _ hlm)
      · exact below_setRow hb (by omega) _
end Go.Proofs.YtandblanpafjoabGreatDoor
