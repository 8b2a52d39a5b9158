import Derived.Test.YtandblanpafjoaaGreatDoorPack14
import Derived.Deep.DeepCutAuto
namespace Go.Proofs.YtandblanpafjoaaGreatDoor
open Go.RowKit Go.Extern.Stop Go.Stop Go.Extern
section
variable {P : Program}
theorem wpList_store_cellnum {ops : Array Oper} {rest : List Oper} {op : Oper} {a : Act} {w : World} {Q : Exit → Act → World → Prop} (hgd : op.guard = none) (ty : TypeId) (x y : Operand) (ho : op.op = .store ty x y)
    (g i : Nat) (k : IntKind) (v : Int) (l : List Int) (t : TypeId) (hx : a.eval x = .pointer (some ⟨g, i, none⟩)) (hy : a.eval y = .int k v) (hg : Blk w g (nums k l) t) (hi : i < l.length)
    (hs : (P.info? ty).map (·.size) = some 1)
    (h : ∀ w', Blk w' g (nums k (l.set i v)) t → w.grownBy w' (some g) → w'.cell? ⟨g, i, none⟩ = some (.int k v) → (∀ o, o ≠ i → w'.cell? ⟨g, o, none⟩ = w.cell? ⟨g, o, none⟩) → wpList P ops Q rest (a.put op.dst undef) w') : wpList P ops Q (op :: rest) a w := by
  refine wpList_store_num hgd ty x y ho g i k v l t hx hy hg hi hs (fun w' hb hgr _ _ => h w' hb hgr ?_ ?_)
  · rw [hb.num i (by rw [List.length_set]; exact hi), getD_set _ _ _ _ hi, if_pos rfl]
  · intro o hne
    by_cases ho : o < l.length
    · rw [hb.num o (by rw [List.length_set]; exact ho), hg.num o ho, getD_set _ _ _ _ hi, if_neg (Ne.symm hne)]
    · rw [hb.cell, hg.cell, Array.getElem?_eq_none (by rw [nums_size, List.length_set]; omega), Array.getElem?_eq_none (by rw [nums_size]; omega)]
end
theorem list_ext {a b : List Int} (hl : a.length = b.length) (h : ∀ j : Nat, a.getD j 0 = b.getD j 0) : a = b := by
  apply List.ext_getElem hl
  intro j h1 h2
  have := h j
  simpa [h1, h2] using this
theorem sdx_go (x h t : Nat) (ht : t ≠ 3) : ((x : Int) + sdx (newHead h t)) % 16 = (goX x h t : Int) := by
  unfold goX; rw [if_neg ht]
  have : sdx (newHead h t) = dxI (newHead h t) ∨ sdx (newHead h t) = dxI (newHead h t) + 16 := by
    generalize newHead h t = q
    rcases q with _ | _ | _ | _ | q <;> simp [sdx, dxI]
  omega
theorem sdy_go (x h t : Nat) (ht : t ≠ 3) : ((x : Int) + sdy (newHead h t)) % 16 = (goY x h t : Int) := by
  unfold goY; rw [if_neg ht]
  have : sdy (newHead h t) = dyI (newHead h t) ∨ sdy (newHead h t) = dyI (newHead h t) + 16 := by
    generalize newHead h t = q
    rcases q with _ | _ | _ | _ | q <;> simp [sdy, dyI]
  omega
theorem sdx_range (h : Nat) : 0 ≤ sdx h ∧ sdx h ≤ 15 := by unfold sdx; split <;> omega
theorem sdy_range (h : Nat) : 0 ≤ sdy h ∧ sdy h ≤ 15 := by unfold sdy; split <;> omega
theorem settle_keep {m M : List Int} {k fx fy H' X Y H i : Nat} (hm : m.length = 288) (hk : k < 4) (hs : ShipAt m k X Y H (ga m k) (gb m k)) (hM : M.length = 288)
    (hG : ∀ j : Nat, M.getD j 0 = if 256 + 8 * k + 1 = j then (fy : Int) else if 256 + 8 * k = j then (fx : Int) else if 256 + 8 * k + 2 = j then (H' : Int) else m.getD j 0)
    (hn : ¬ (i / 4 % 2 = 1 ∧ m.getD (16 * fy + fx) 0 ≠ (k : Int) + 1)) : settleL m k fx fy H' (gs m k) i = M := by
  unfold settleL
  rw [if_neg hn]
  refine list_ext (by rw [putL_len, hm, hM]) (fun j => ?_)
  rw [putL_get m k fx fy H' (gs m k) j hm hk, hG j]
  have h3 := hs.ea
  have h4 := hs.eb
  have h5 := hs.hb
  have e1 : gs m k % 256 = gb m k := by unfold gs; omega
  have e2 : gs m k / 256 = ga m k := by unfold gs; omega
  rw [e1, e2, ← h3, ← h4]
  by_cases j4 : j = 256 + 8 * k + 4
  · subst j4; rw [if_pos rfl, if_neg (by omega), if_neg (by omega), if_neg (by omega)]
  · by_cases j3 : j = 256 + 8 * k + 3
    · subst j3; rw [if_neg (by omega), if_pos rfl, if_neg (by omega), if_neg (by omega), if_neg (by omega)]
    · rw [if_neg j4, if_neg j3]
      by_cases j2 : j = 256 + 8 * k + 2
      · subst j2; rw [if_pos rfl, if_neg (by omega), if_neg (by omega), if_pos rfl]
      · by_cases j1 : j = 256 + 8 * k + 1
        · subst j1; rw [if_neg (by omega), if_pos rfl, if_pos rfl]
        · by_cases j0 : j = 256 + 8 * k
          · subst j0; rw [if_neg (by omega), if_neg (by omega), if_pos rfl, if_neg (by omega), if_pos rfl]
          · rw [if_neg j2, if_neg j1, if_neg j0, if_neg (fun h => j1 h.symm), if_neg (fun h => j0 h.symm), if_neg (fun h => j2 h.symm)]
theorem settle_paint {m M : List Int} {k fx fy H' X Y H i : Nat} (hm : m.length = 288) (hk : k < 4) (hs : ShipAt m k X Y H (ga m k) (gb m k)) (hM : M.length = 288)
    (hG : ∀ j : Nat, M.getD j 0 = if 256 + 8 * k + 1 = j then (fy : Int) else if 256 + 8 * k = j then (fx : Int) else if 256 + 8 * k + 2 = j then (H' : Int) else m.getD j 0)
    (hfx : fx < 16) (hfy : fy < 16) (hn : i / 4 % 2 = 1 ∧ m.getD (16 * fy + fx) 0 ≠ (k : Int) + 1) :
    settleL m k fx fy H' (gs m k) i = ((M.set (16 * fy + fx) ((k : Int) + 1)).set (256 + 8 * k + 3) ((256 * (ga m k : Int) + (gb m k : Int) + 1) % 65536 / 256)).set (256 + 8 * k + 4) ((256 * (ga m k : Int) + (gb m k : Int) + 1) % 65536 % 256) := by
  unfold settleL
  rw [if_pos hn]
  refine list_ext (by simp only [putL_len, List.length_set]; rw [hm, hM]) (fun j => ?_)
  rw [putL_get _ k fx fy H' _ j (by rw [List.length_set]; exact hm) hk, getD_set m _ _ _ (by omega), getD_set _ _ _ _ (by simp only [List.length_set]; omega), getD_set _ _ _ _ (by simp only [List.length_set]; omega), getD_set M _ _ _ (by omega), hG j]
  have ha := hs.ha
  have hb := hs.hb
  have e1 : (((gs m k + 1) % 65536 % 256 : Nat) : Int) = (256 * (ga m k : Int) + (gb m k : Int) + 1) % 65536 % 256 := by unfold gs; omega
  have e2 : (((gs m k + 1) % 65536 / 256 : Nat) : Int) = (256 * (ga m k : Int) + (gb m k : Int) + 1) % 65536 / 256 := by unfold gs; omega
  rw [e1, e2]
  have hc : 16 * fy + fx < 256 := by omega
  clear hG e1 e2 hn
  generalize (256 * (ga m k : Int) + (gb m k : Int) + 1) % 65536 % 256 = u
  generalize (256 * (ga m k : Int) + (gb m k : Int) + 1) % 65536 / 256 = v
  generalize 16 * fy + fx = c at *
  by_cases j4 : j = 256 + 8 * k + 4
  · simp [j4]
  · by_cases j3 : j = 256 + 8 * k + 3
    · simp [j3]
    · by_cases j2 : j = 256 + 8 * k + 2
      · simp [j2]; omega
      · by_cases j1 : j = 256 + 8 * k + 1
        · simp [j1]; omega
        · by_cases j0 : j = 256 + 8 * k
          · simp [j0]; omega
          · have k4 : ¬ 256 + 8 * k + 4 = j := fun h => j4 h.symm
            have k3 : ¬ 256 + 8 * k + 3 = j := fun h => j3 h.symm
            have k2 : ¬ 256 + 8 * k + 2 = j := fun h => j2 h.symm
            have k1 : ¬ 256 + 8 * k + 1 = j := fun h => j1 h.symm
            have k0 : ¬ 256 + 8 * k = j := fun h => j0 h.symm
            rw [if_neg j4, if_neg j3, if_neg j2, if_neg j1, if_neg j0, if_neg k4, if_neg k3]
            by_cases jc : c = j
            · rw [if_pos jc, if_pos jc]
            · rw [if_neg jc, if_neg jc, if_neg k1, if_neg k0, if_neg k2]
set_option maxRecDepth 10000 in
set_option maxHeartbeats 2000000 in
theorem move_any (g n k i : Nat) (m : List Int) (w : World) (hn : n ≤ 4) (hk : k < n) (hi : i < 256) (hgd : Good m n) (hblk : Blk w g (nums .i64 m) 3) :
    Calls Tryz.prog 96 #[.slice (some ⟨g, 0, none⟩) 288 288, .int .i64 (n : Int), .int .i64 (k : Int), .int .i64 (i : Int)] w fun e w' => e = .returned (.tuple #[]) ∧ Blk w' g (nums .i64 (turnL m n k i)) 3 ∧ w.grownBy w' (some g) := by
  have hm := hgd.len
  have hs := hgd.ship hk
  have c0 := hblk.num (256 + 8 * k) (by omega)
  have c1 := hblk.num (256 + 8 * k + 1) (by omega)
  have c2 := hblk.num (256 + 8 * k + 2) (by omega)
  have c3 := hblk.num (256 + 8 * k + 3) (by omega)
  have c4 := hblk.num (256 + 8 * k + 4) (by omega)
  rw [hs.ex] at c0
  rw [hs.ey] at c1
  rw [hs.eh] at c2
  rw [hs.ea] at c3
  rw [hs.eb] at c4
  have hX := hs.hx
  have hY := hs.hy
  have hH := hs.hh
  have hA := hs.ha
  have hB := hs.hb
  have t0 : (256 + 8 * (k : Int)).toNat = 256 + 8 * k := by omega
  have t1 : (256 + 8 * (k : Int) + 1).toNat = 256 + 8 * k + 1 := by omega
  have t2 : (256 + 8 * (k : Int) + 2).toNat = 256 + 8 * k + 2 := by omega
  have t3 : (256 + 8 * (k : Int) + 3).toNat = 256 + 8 * k + 3 := by omega
  have t4 : (256 + 8 * (k : Int) + 4).toNat = 256 + 8 * k + 4 := by omega
  have i0 : (0 : Int) ≤ 256 + 8 * (k : Int) := by omega
  have i1 : (0 : Int) ≤ 256 + 8 * (k : Int) + 1 := by omega
  have i3 : (0 : Int) ≤ 256 + 8 * (k : Int) + 3 := by omega
  have i4 : (0 : Int) ≤ 256 + 8 * (k : Int) + 4 := by omega
  have j0 : 256 + 8 * (k : Int) < 288 := by omega
  have j1 : 256 + 8 * (k : Int) + 1 < 288 := by omega
  have j3 : 256 + 8 * (k : Int) + 3 < 288 := by omega
  have j4 : 256 + 8 * (k : Int) + 4 < 288 := by omega
  have w1 := i64_id (256 + 8 * (k : Int) + 1) (by omega) (by omega)
  have w3 := i64_id (256 + 8 * (k : Int) + 3) (by omega) (by omega)
  have w4 := i64_id (256 + 8 * (k : Int) + 4) (by omega) (by omega)
  have wA := i64_id (256 * (ga m k : Int)) (by omega) (by omega)
  have wB := i64_id (256 * (ga m k : Int) + (gb m k : Int)) (by omega) (by omega)
  have wC := i64_id (256 * (ga m k : Int) + (gb m k : Int) + 1) (by omega) (by omega)
  have hr : (i : Int) % 4 = ((i % 4 : Nat) : Int) := by omega
  have hlt4 : i % 4 < 4 := Nat.mod_lt _ (by omega)
  have HS := hide hs
  have HG := hide hgd
  have HT : Hid (turnL m n k i = if blocked m n k (goX (gx m k) (gh m k) (i % 4)) (goY (gy m k) (gh m k) (i % 4)) then settleL m k (gx m k) (gy m k) (newHead (gh m k) (i % 4)) (gs m k) i
        else settleL m k (goX (gx m k) (gh m k) (i % 4)) (goY (gy m k) (gh m k) (i % 4)) (newHead (gh m k) (i % 4)) (gs m k) i) := hide rfl
  have hn4 := newHead_lt (gh m k) (i % 4) hH
  clear hs hgd
  have HN1 : Hid (i % 4 = 1 → ((gh m k : Int) + 1) % 4 = (newHead (gh m k) (i % 4) : Int)) := hide (fun h => by unfold newHead; rw [if_pos h]; omega)
  have HN2 : Hid (i % 4 = 2 → ((gh m k : Int) + 3) % 4 = (newHead (gh m k) (i % 4) : Int)) := hide (fun h => by unfold newHead; rw [if_neg (by omega), if_pos h]; omega)
  have HN0 : Hid (i % 4 ≠ 1 → i % 4 ≠ 2 → gh m k = newHead (gh m k) (i % 4)) := hide (fun h1 h2 => by unfold newHead; rw [if_neg h1, if_neg h2])
  have HG3 : Hid (i % 4 = 3 → goX (gx m k) (gh m k) (i % 4) = gx m k ∧ goY (gy m k) (gh m k) (i % 4) = gy m k) := hide (fun h => by unfold goX goY; rw [if_pos h, if_pos h]; exact ⟨rfl, rfl⟩)
  have HXG := hide (sdx_go (gx m k) (gh m k) (i % 4))
  have HYG := hide (sdy_go (gy m k) (gh m k) (i % 4))
  have hgx := goX_lt (gx m k) (gh m k) (i % 4) hX
  have hgy := goY_lt (gy m k) (gh m k) (i % 4) hY
  have hsx := sdx_range (newHead (gh m k) (i % 4))
  have hsy := sdy_range (newHead (gh m k) (i % 4))
  generalize goX (gx m k) (gh m k) (i % 4) = tx at *
  generalize goY (gy m k) (gh m k) (i % 4) = ty at *
  generalize newHead (gh m k) (i % 4) = H' at *
  generalize i % 4 = t at *
  go_enter Tryz.func96, Tryz.ntmps96
  go_upto_if 23 with fail
  go_cut [8] (fun s8 wx => s8 = .int .i64 (256 + 8 * (k : Int)) ∧ Blk wx g (nums .i64 (if t = 1 then m.set (256 + 8 * k + 2) (H' : Int) else m)) 3 ∧ w.grownBy wx (some g))
  case first =>
    by_cases h1 : t = 1
    · have h1' : ((t : Int) == 1) = true := by rw [h1]; rfl
      have HE := hide (unhide HN1 h1)
      have HH1 := hide h1
      clear h1
      go_wp2_with (refine wpList_store_cellnum rfl 3 _ _ rfl _ _ .i64 _ _ _ rfl rfl (by assumption) (by (try simp only [List.length_set]); omega) sizeInt ?_; intro wa hba hga hsa hoa)
      go_meet
      case rel => exact ⟨rfl, by rw [if_pos (unhide HH1)]; rw [unhide HE] at hba; exact hba, hga⟩
    · have h1' : ((t : Int) == 1) = false := by rw [beq_eq_false_iff_ne]; omega
      have HH1 := hide h1
      clear h1
      go_wp2_with fail
      go_meet
      case rel => exact ⟨rfl, by rw [if_neg (unhide HH1)]; exact hblk, grown_refl _ _⟩
  case rest =>
    obtain ⟨rfl, hbw, hgw⟩ := hcut
    clear c0 c1 c2 c3 c4
    obtain ⟨W1, hW1⟩ : ∃ x, x = wc := ⟨_, rfl⟩
    subst hW1
    go_upto_if 36 with fail
    go_cut [8] (fun s8 wx => s8 = .int .i64 (256 + 8 * (k : Int)) ∧ Blk wx g (nums .i64 (m.set (256 + 8 * k + 2) (H' : Int))) 3 ∧ w.grownBy wx (some g))
    case first =>
      by_cases h2 : t = 2
      · have h2' : ((t : Int) == 2) = true := by rw [h2]; rfl
        have HE := hide (unhide HN2 h2)
        rw [if_neg (by omega)] at hbw
        have c2 := hbw.num (256 + 8 * k + 2) (by omega)
        rw [(unhide HS).eh] at c2
        clear h2
        go_wp2_with (refine wpList_store_cellnum rfl 3 _ _ rfl _ _ .i64 _ _ _ rfl rfl (by assumption) (by (try simp only [List.length_set]); omega) sizeInt ?_; intro wa hba hga hsa hoa)
        go_meet
        case rel => exact ⟨rfl, by rw [unhide HE] at hba; exact hba, grown_trans hgw hga⟩
      · have h2' : ((t : Int) == 2) = false := by rw [beq_eq_false_iff_ne]; omega
        have HL : Hid ((if t = 1 then m.set (256 + 8 * k + 2) (H' : Int) else m) = m.set (256 + 8 * k + 2) (H' : Int)) := hide (by
          by_cases h1 : t = 1
          · rw [if_pos h1]
          · rw [if_neg h1]
            have he := unhide HN0 h1 h2
            refine list_ext (by rw [List.length_set]) (fun j => ?_)
            rw [getD_set _ _ _ _ (by omega)]
            by_cases hj : 256 + 8 * k + 2 = j
            · rw [if_pos hj, ← hj, (unhide HS).eh, ← he]
            · rw [if_neg hj])
        clear h2
        go_wp2_with fail
        go_meet
        case rel => exact ⟨rfl, by rw [← unhide HL]; exact hbw, hgw⟩
    case rest =>
      clear hbw hgw hblk
      obtain ⟨rfl, hbw, hgw⟩ := hcut
      obtain ⟨W2, hW2⟩ : ∃ x, x = wc := ⟨_, rfl⟩
      subst hW2
      have c0 : W2.cell? ⟨g, 256 + 8 * k, none⟩ = some (.int .i64 (gx m k : Int)) := by rw [hbw.num _ (by rw [List.length_set]; omega), getD_set _ _ _ _ (by omega), if_neg (by omega), (unhide HS).ex]
      have c1 : W2.cell? ⟨g, 256 + 8 * k + 1, none⟩ = some (.int .i64 (gy m k : Int)) := by rw [hbw.num _ (by rw [List.length_set]; omega), getD_set _ _ _ _ (by omega), if_neg (by omega), (unhide HS).ey]
      have c2 : W2.cell? ⟨g, 256 + 8 * k + 2, none⟩ = some (.int .i64 (H' : Int)) := by rw [hbw.num _ (by rw [List.length_set]; omega), getD_set _ _ _ _ (by omega), if_pos rfl]
      have HXM : Hid (∀ o, o < n → (m.set (256 + 8 * k + 2) (H' : Int)).getD (256 + 8 * o) 0 = (gx m o : Int)) := hide (fun o ho => by rw [getD_set _ _ _ _ (by omega), if_neg (by omega)]; exact ((unhide HG).ship ho).ex)
      have HYM : Hid (∀ o, o < n → (m.set (256 + 8 * k + 2) (H' : Int)).getD (256 + 8 * o + 1) 0 = (gy m o : Int)) := hide (fun o ho => by rw [getD_set _ _ _ _ (by omega), if_neg (by omega)]; exact ((unhide HG).ship ho).ey)
      obtain ⟨qx, hqx⟩ : ∃ q : Nat, ((gx m k : Int) + sdx H') % 16 = (q : Int) := ⟨(((gx m k : Int) + sdx H') % 16).toNat, by omega⟩
      obtain ⟨qy, hqy⟩ : ∃ q : Nat, ((gy m k : Int) + sdy H') % 16 = (q : Int) := ⟨(((gy m k : Int) + sdy H') % 16).toNat, by omega⟩
      go_wp2_with (go_at_call 116; refine (steps_any H' _ hn4).mono ?_; rintro e W2 ⟨rfl, rfl⟩)
      refine (rstands_any g n k qx qy m _ W2 hn (by simp [hm]) (unhide HXM) (unhide HYM) hbw).mono ?_
      rintro e W2 ⟨rfl, rfl⟩
      have HBX : Hid (t ≠ 3 → qx = tx ∧ qy = ty) := hide (fun h => by have h1 := unhide HXG h; have h2 := unhide HYG h; omega)
      obtain ⟨fx, fy, hfx, hfy, HF⟩ : ∃ fx fy : Nat, fx < 16 ∧ fy < 16 ∧ Hid ((t ≠ 3 ∧ blocked m n k qx qy = false → fx = qx ∧ fy = qy) ∧ (¬ (t ≠ 3 ∧ blocked m n k qx qy = false) → fx = gx m k ∧ fy = gy m k)) := by
        by_cases h : t ≠ 3 ∧ blocked m n k qx qy = false
        · exact ⟨qx, qy, by omega, by omega, hide ⟨fun _ => ⟨rfl, rfl⟩, fun hh => absurd h hh⟩⟩
        · exact ⟨gx m k, gy m k, hX, hY, hide ⟨fun hh => absurd hh h, fun _ => ⟨rfl, rfl⟩⟩⟩
      have HBK : Hid (blocked m n k qx qy = blocked m n k qx qy) := hide rfl
      generalize hbk : blocked m n k qx qy = bk at *
      have HBKE := hide hbk
      clear hbk HBK
      go_upto_region 10 with fail
      go_cut [83] (fun s83 wx => s83 = .bool (decide (t ≠ 3 ∧ bk = false)) ∧ wx = W2)
      case first =>
        by_cases h3 : t = 3
        · have h3' : ((t : Int) != 3) = false := by rw [h3]; rfl
          have HD : Hid (decide (t ≠ 3 ∧ bk = false) = false) := hide (decide_eq_false (fun h => h.1 h3))
          clear h3
          go_wp2_with fail
          go_meet
          case rel => exact ⟨by rw [unhide HD], rfl⟩
        · have h3' : ((t : Int) != 3) = true := by rw [bne_iff_ne]; omega
          have HD : Hid (decide (t ≠ 3 ∧ bk = false) = !bk) := hide (by cases bk <;> simp [h3])
          clear h3
          go_wp2_with fail
          go_meet
          case rel => exact ⟨by rw [unhide HD], rfl⟩
      case rest =>
        obtain ⟨rfl, rfl⟩ := hcut
        have HM : Hid (∀ V : World, (decide (t ≠ 3 ∧ bk = false) = false) → Blk V g (nums .i64 (m.set (256 + 8 * k + 2) (H' : Int))) 3 → Blk V g (nums .i64 (((m.set (256 + 8 * k + 2) (H' : Int)).set (256 + 8 * k) (fx : Int)).set (256 + 8 * k + 1) (fy : Int))) 3) := hide (fun V hd hV => by
          have hf := (unhide HF).2 (of_decide_eq_false hd)
          have e : ((m.set (256 + 8 * k + 2) (H' : Int)).set (256 + 8 * k) (fx : Int)).set (256 + 8 * k + 1) (fy : Int) = m.set (256 + 8 * k + 2) (H' : Int) := by
            refine list_ext (by simp only [List.length_set]) (fun j => ?_)
            rw [getD_set _ _ _ _ (by simp only [List.length_set]; omega), getD_set _ _ _ _ (by simp only [List.length_set]; omega)]
            by_cases hj1 : 256 + 8 * k + 1 = j
            · rw [if_pos hj1, ← hj1, hf.2, unhide HYM k hk]
            · rw [if_neg hj1]
              by_cases hj0 : 256 + 8 * k = j
              · rw [if_pos hj0, ← hj0, hf.1, unhide HXM k hk]
              · rw [if_neg hj0]
          rw [e]; exact hV)
        have HM2 : Hid ((decide (t ≠ 3 ∧ bk = false) = true) → fx = qx ∧ fy = qy) := hide (fun hd => (unhide HF).1 (of_decide_eq_true hd))
        have HD : Hid (decide (t ≠ 3 ∧ bk = false) = decide (t ≠ 3 ∧ bk = false)) := hide rfl
        generalize hgb : decide (t ≠ 3 ∧ bk = false) = gob at *
        have HGB := hide hgb
        clear hgb HD
        go_upto_if 83 with fail
        go_cut [8] (fun s8 wx => s8 = .int .i64 (256 + 8 * (k : Int)) ∧ Blk wx g (nums .i64 (((m.set (256 + 8 * k + 2) (H' : Int)).set (256 + 8 * k) (fx : Int)).set (256 + 8 * k + 1) (fy : Int))) 3 ∧ w.grownBy wx (some g))
        case first =>
          cases gob with
          | true =>
            have HF2 := hide (unhide HM2 rfl)
            go_wp2_with (refine wpList_store_cellnum rfl 3 _ _ rfl _ _ .i64 _ _ _ rfl rfl (by assumption) (by (try simp only [List.length_set]); omega) sizeInt ?_; intro wa hba hga hsa hoa)
            go_meet
            case rel => exact ⟨rfl, by rw [(unhide HF2).1, (unhide HF2).2]; exact hba, grown_trans (grown_trans hgw (by assumption)) hga⟩
          | false =>
            go_wp2_with fail
            go_meet
            case rel => exact ⟨rfl, unhide HM _ (by first | exact rfl | trivial) hbw, hgw⟩
        case rest =>
          clear hbw hgw c0 c1 c2 HM HM2
          obtain ⟨rfl, hbw, hgw⟩ := hcut
          obtain ⟨W3, hW3⟩ : ∃ x, x = wc := ⟨_, rfl⟩
          subst hW3
          have hML : (((m.set (256 + 8 * k + 2) (H' : Int)).set (256 + 8 * k) (fx : Int)).set (256 + 8 * k + 1) (fy : Int)).length = 288 := by simp only [List.length_set]; exact hm
          have HGD : Hid (∀ j : Nat, (((m.set (256 + 8 * k + 2) (H' : Int)).set (256 + 8 * k) (fx : Int)).set (256 + 8 * k + 1) (fy : Int)).getD j 0 = if 256 + 8 * k + 1 = j then (fy : Int) else if 256 + 8 * k = j then (fx : Int) else if 256 + 8 * k + 2 = j then (H' : Int) else m.getD j 0) := hide (fun j => by
            rw [getD_set _ _ _ _ (by simp only [List.length_set]; omega), getD_set _ _ _ _ (by simp only [List.length_set]; omega), getD_set _ _ _ _ (by omega)])
          have HTF : Hid (turnL m n k i = settleL m k fx fy H' (gs m k) i) := hide (by
            rw [unhide HT]
            have hf := unhide HF
            have hbx := unhide HBX
            by_cases h3 : t = 3
            · have hf2 := hf.2 (fun h => h.1 h3)
              have h33 := unhide HG3 h3
              rw [h33.1, h33.2, hf2.1, hf2.2, ite_self]
            · have hq := hbx h3
              have hbe := unhide HBKE
              rw [hq.1, hq.2] at hf hbe
              rw [hbe]
              cases bk with
              | true => rw [if_pos rfl, (hf.2 (fun h => by cases h.2)).1, (hf.2 (fun h => by cases h.2)).2]
              | false => rw [if_neg (by decide), (hf.1 ⟨h3, rfl⟩).1, (hf.1 ⟨h3, rfl⟩).2])
          generalize ((m.set (256 + 8 * k + 2) (H' : Int)).set (256 + 8 * k) (fx : Int)).set (256 + 8 * k + 1) (fy : Int) = M at *
          have c0 : W3.cell? ⟨g, 256 + 8 * k, none⟩ = some (.int .i64 (fx : Int)) := by rw [hbw.num _ (by omega), unhide HGD, if_neg (by omega), if_pos rfl]
          have c1 : W3.cell? ⟨g, 256 + 8 * k + 1, none⟩ = some (.int .i64 (fy : Int)) := by rw [hbw.num _ (by omega), unhide HGD, if_pos rfl]
          have c3 : W3.cell? ⟨g, 256 + 8 * k + 3, none⟩ = some (.int .i64 (ga m k : Int)) := by rw [hbw.num _ (by omega), unhide HGD, if_neg (by omega), if_neg (by omega), if_neg (by omega), (unhide HS).ea]
          have c4 : W3.cell? ⟨g, 256 + 8 * k + 4, none⟩ = some (.int .i64 (gb m k : Int)) := by rw [hbw.num _ (by omega), unhide HGD, if_neg (by omega), if_neg (by omega), if_neg (by omega), (unhide HS).eb]
          have cc : W3.cell? ⟨g, 16 * fy + fx, none⟩ = some (.int .i64 (m.getD (16 * fy + fx) 0)) := by rw [hbw.num _ (by omega), unhide HGD, if_neg (by omega), if_neg (by omega), if_neg (by omega)]
          have wd := i64_id (16 * (fy : Int)) (by omega) (by omega)
          have we := i64_id (16 * (fy : Int) + (fx : Int)) (by omega) (by omega)
          have tc : (16 * (fy : Int) + (fx : Int)).toNat = 16 * fy + fx := by omega
          have n3 : 256 + 8 * k + 3 ≠ 16 * fy + fx := by omega
          have n4 : 256 + 8 * k + 4 ≠ 16 * fy + fx := by omega
          have hcv := (unhide HG).rng (16 * fy + fx)
          go_wp2_with fail
          go_quiet (fail)
          have hbq := hbw.drewN nq
          have hgq : w.grownBy (W3.drewN nq) (some g) := grown_trans hgw ⟨rfl, rfl, rfl, Nat.le_refl _, fun _ _ _ => rfl⟩
          by_cases hp : i / 4 % 2 = 1
          · have hpe : ((i : Int) / 4 % 2 == 1) = true := by rw [beq_iff_eq]; omega
            by_cases hq : m.getD (16 * fy + fx) 0 = (k : Int) + 1
            · have hqe : (m.getD (16 * fy + fx) 0 != (k : Int) + 1) = false := by rw [hq]; simp
              have HTE : Hid (settleL m k fx fy H' (gs m k) i = M) := hide (settle_keep hm (by omega) (unhide HS) hML (unhide HGD) (fun h => h.2 hq))
              generalize m.getD (16 * fy + fx) 0 = cv at *
              clear hp hq
              go_wp2_with fail
              go_end0
              exact ⟨rfl, by rw [unhide HTF, unhide HTE]; exact hbq, hgq⟩
            · have hqe : (m.getD (16 * fy + fx) 0 != (k : Int) + 1) = true := by rw [bne_iff_ne]; exact hq
              have HTE : Hid (settleL m k fx fy H' (gs m k) i = ((M.set (16 * fy + fx) ((k : Int) + 1)).set (256 + 8 * k + 3) ((256 * (ga m k : Int) + (gb m k : Int) + 1) % 65536 / 256)).set (256 + 8 * k + 4) ((256 * (ga m k : Int) + (gb m k : Int) + 1) % 65536 % 256)) := hide (settle_paint hm (by omega) (unhide HS) hML (unhide HGD) hfx hfy ⟨hp, hq⟩)
              generalize m.getD (16 * fy + fx) 0 = cv at *
              clear hp hq
              go_wp2_with (refine wpList_store_cellnum rfl 3 _ _ rfl _ _ .i64 _ _ _ rfl rfl (by assumption) (by (try simp only [List.length_set]); omega) sizeInt ?_; intro wc hbc hgc hsc hoc)
              go_quiet (fail)
              have hbr := hbc.drewN nq
              have hgr := grown_trans (grown_trans hgq hgc) (show wc.grownBy (wc.drewN nq) (some g) from ⟨rfl, rfl, rfl, Nat.le_refl _, fun _ _ _ => rfl⟩)
              go_wp2_with (refine wpList_store_cellnum rfl 3 _ _ rfl _ _ .i64 _ _ _ rfl rfl (by assumption) (by (try simp only [List.length_set]); omega) sizeInt ?_; intro wd hbd hgd hsd hod)
              go_end0
              exact ⟨rfl, by rw [unhide HTF, unhide HTE]; exact hbd, grown_trans (grown_trans hgr (by assumption)) hgd⟩
          · have hpe : ((i : Int) / 4 % 2 == 1) = false := by rw [beq_eq_false_iff_ne]; omega
            have HTE : Hid (settleL m k fx fy H' (gs m k) i = M) := hide (settle_keep hm (by omega) (unhide HS) hML (unhide HGD) (fun h => hp h.1))
            clear hp
            go_wp2_with fail
            go_end0
            exact ⟨rfl, by rw [unhide HTF, unhide HTE]; exact hbq, hgq⟩
end Go.Proofs.YtandblanpafjoaaGreatDoor

namespace Go.Proofs.YtandblanpafjoaaGreatDoor
open Go.RowKit Go.Extern.Stop Go.Stop Go.Extern
set_option maxHeartbeats 1000000 in
theorem rframe_any (g bi n : Nat) (m ins : List Int) (w : World) (hn : n ≤ 4) (hg : Good m n) (hlen : ins.length = n) (hri : ∀ j : Nat, 0 ≤ ins.getD j 0 ∧ ins.getD j 0 ≤ 255) (hne : bi ≠ g)
    (hbm : Blk w g (nums .i64 m) 3) (hbi : Blk w bi (nums .i64 ins) 3) :
    Calls Tryz.prog 70 #[.slice (some ⟨g, 0, none⟩) 288 288, .int .i64 (n : Int), .slice (some ⟨bi, 0, none⟩) n n] w fun e w' => e = .returned (.tuple #[]) ∧ Blk w' g (nums .i64 (frameL m n ins)) 3 ∧ w.grownBy w' (some g) := by
  have HG := hide hg
  have HRI := hide hri
  have HBM := hide hbm
  have HBI := hide hbi
  clear hg hri hbm hbi
  go_enter Tryz.func70, Tryz.ntmps70
  go_wp2_with fail
  go_loopw [6] (fun i wr => ∃ k : Nat, k ≤ n ∧ i = .int .i64 k ∧ Blk wr g (nums .i64 (turnsL m n ins k)) 3 ∧ w.grownBy wr (some g)) (fun i _ => n - (intOf i).toNat)
  case atStart => exact ⟨0, by omega, rfl, unhide HBM, grown_refl _ _⟩
  case round =>
    obtain ⟨k, hk, rfl, hbk, hgr⟩ := hrel
    by_cases hlt : k < n
    · have hlt' : (k : Int) < (n : Int) := by omega
      have hik := unhide HRI k
      obtain ⟨i, hi⟩ : ∃ i : Nat, ins.getD k 0 = (i : Int) := ⟨(ins.getD k 0).toNat, by omega⟩
      have hci : wr.cell? ⟨bi, k, none⟩ = some (.int .i64 (i : Int)) := by
        rw [((unhide HBI).grown hgr hne).num k (by omega), hi]
      have HT : Hid (turnsL m n ins (k + 1) = turnL (turnsL m n ins k) n k i) := hide (by
        show turnL (turnsL m n ins k) n k (ins.getD k 0).toNat = _
        rw [hi]; rfl)
      have HGK := hide (good_turns (unhide HG) ins hn k hk)
      have hi256 : i < 256 := by omega
      have HBK := hide hbk
      clear hik hi hbk
      generalize turnsL m n ins k = mk at *
      go_wp2_with fail
      refine (move_any g n k i mk wr hn hlt hi256 (unhide HGK) (unhide HBK)).mono ?_
      rintro e w2 ⟨rfl, hb2, hg2⟩
      go_wp2_with fail
      go_roundw
      case rel => exact ⟨k + 1, by omega, by go_num, by rw [unhide HT]; exact hb2, grown_trans hgr hg2⟩
      case measure => simp [intOf]; omega
    · have hkn : k = n := by omega
      subst hkn
      go_wp2
      go_end0
      exact ⟨rfl, hbk, hgr⟩
theorem make288b (w : World) : (Instr.makeSlice 46 (.int .i64 288) (.int .i64 288)).run Tryz.prog w = .ok (.slice (some ⟨w.heap.size, 0, none⟩) 288 288) (w.alloc (.cells (nums .u8 Z288) 5)) := by kernel_rfl
def byTo (m : List Int) (k : Nat) : List Int := m.take k ++ List.replicate (288 - k) 0
theorem byTo_len (m : List Int) (k : Nat) (hm : m.length = 288) (hk : k ≤ 288) : (byTo m k).length = 288 := by simp [byTo, hm]; omega
theorem byTo_succ (m : List Int) (k : Nat) (hm : m.length = 288) (hk : k < 288) : (byTo m k).set k (m.getD k 0) = byTo m (k + 1) := by
  apply list_ext (by rw [List.length_set, byTo_len m k hm (by omega), byTo_len m (k + 1) hm (by omega)])
  intro j
  have hget : ∀ q, q ≤ 288 → (byTo m q).getD j 0 = if j < q then m.getD j 0 else 0 := fun q hq => by
    unfold byTo
    by_cases hj : j < q
    · rw [if_pos hj, List.getD_eq_getElem?_getD, List.getElem?_append_left (by simp [hm]; omega), List.getElem?_take, if_pos hj]; rfl
    · rw [if_neg hj, List.getD_eq_getElem?_getD, List.getElem?_append_right (by simp [hm]; omega), List.getElem?_replicate]
      split <;> rfl
  rw [getD_set _ _ _ _ (by rw [byTo_len m k hm (by omega)]; exact hk), hget k (by omega), hget (k + 1) (by omega)]
  by_cases hj : k = j
  · subst hj; rw [if_pos rfl, if_pos (by omega)]
  · rw [if_neg hj]
    by_cases hj2 : j < k
    · rw [if_pos hj2, if_pos (by omega)]
    · rw [if_neg hj2, if_neg (by omega)]
set_option maxRecDepth 10000 in
set_option maxHeartbeats 1000000 in
theorem rbytes_any (g : Nat) (m : List Int) (w : World) (hm : m.length = 288) (hr : ∀ j : Nat, 0 ≤ m.getD j 0 ∧ m.getD j 0 ≤ 255) (hbm : Blk w g (nums .i64 m) 3) :
    Calls Tryz.prog 71 #[.slice (some ⟨g, 0, none⟩) 288 288] w fun e w' => e = .returned (.slice (some ⟨w.heap.size, 0, none⟩) 288 288) ∧ Blk w' w.heap.size (nums .u8 m) 5 ∧ Below w.heap.size w w' := by
  have hmk := make288b
  have HR := hide hr
  have HBM := hide hbm
  have hgl := hbm.lt
  clear hr hbm
  go_enter Tryz.func71, Tryz.ntmps71
  go_wp2_with fail
  clear hmk
  go_loopw [4] (fun i wr => ∃ k : Nat, k ≤ 288 ∧ i = .int .i64 k ∧ Below w.heap.size w wr ∧ Blk wr w.heap.size (nums .u8 (byTo m k)) 5) (fun i _ => 288 - (intOf i).toNat)
  case atStart => exact ⟨0, by omega, rfl, (Below.refl _ _).alloc (Nat.le_refl _) _, Blk.new _ _ _⟩
  case round =>
    obtain ⟨k, hk, rfl, hb, hbk⟩ := hrel
    by_cases hlt : k < 288
    · have hlt' : (k : Int) < 288 := by omega
      have hrk := unhide HR k
      have hlen := byTo_len m k hm hk
      have hck : wr.cell? ⟨g, k, none⟩ = some (.int .i64 (m.getD k 0)) := by
        rw [((unhide HBM).below hgl hb).num k (by omega)]
      have HS := hide (byTo_succ m k hm hlt)
      generalize m.getD k 0 = cv at *
      go_wp2_with (refine wpList_store_num rfl 5 _ _ rfl _ _ .u8 _ _ _ rfl rfl (by assumption) (by (try simp only [List.length_set]); omega) sizeU8 ?_; intro w' hb1 hg1 hz1 hcl1)
      go_roundw
      case rel => exact ⟨k + 1, by omega, by go_num, hb.trans (below_grown hg1 hb.size (Nat.le_refl _)), by rw [← unhide HS]; exact hb1⟩
      case measure => simp [intOf]; omega
    · have hkn : k = 288 := by omega
      subst hkn
      go_wp2
      go_ret
      have e : byTo m 288 = m := by simp [byTo, List.take_of_length_le (show m.length ≤ 288 by omega)]
      exact ⟨rfl, by rw [e] at hbk; exact hbk, hb⟩
def spTo (l : List Int) (k : Nat) : List Int := List.replicate k 99 ++ l.drop k
end Go.Proofs.YtandblanpafjoaaGreatDoor

