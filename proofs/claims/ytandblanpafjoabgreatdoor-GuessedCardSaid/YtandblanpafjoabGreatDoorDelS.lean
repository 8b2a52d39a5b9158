import Derived.Test.YtandblanpafjoabGreatDoorDelA
namespace Go.Proofs.YtandblanpafjoabGreatDoor
open Go.RowKit Go.Extern.Stop Go.Stop Go.Extern Go.Maps

theorem Tryz.infoPg : (Tryz.prog.info? 104).map (fun i => (i.zero, i.size)) = some (some (.agg (nums .u8 (List.replicate 16 0))), 16) := by kernel_rfl
theorem Tryz.zeroPg (w : World) : (zeroValue 104).run Tryz.prog w = .ok (.agg (nums .u8 (List.replicate 16 0))) w := (zero_of_info Tryz.infoPg).1 w
theorem Tryz.sizePg (l : List Int) (hl : l.length = 16) : (Tryz.prog.info? 104).map (·.size) = some (nums .u8 l).size := by
  rw [nums_size, hl]; exact (zero_of_info Tryz.infoPg).2

theorem Blk.page {w : World} {g : Nat} {m : List Int} {t : TypeId} (h : Blk w g (nums .u8 m) t) (hm : m.length = 288) (i : Nat) (hi : i < 18) (l : List Int) (hl : l.length = 16) :
    Blk (w.setCells g (i * 16) (l.map (Value.int .u8))) g (nums .u8 (m.take (16 * i) ++ (l ++ m.drop (16 * i + 16)))) t := by
  have e : m = m.take (16 * i) ++ ((m.drop (16 * i)).take 16 ++ m.drop (16 * i + 16)) := by
    rw [← List.drop_drop, List.take_append_drop, List.take_append_drop]
  have h' : Blk w g ((m.take (16 * i)).map (Value.int .u8) ++ (((m.drop (16 * i)).take 16).map (Value.int .u8) ++ (m.drop (16 * i + 16)).map (Value.int .u8))).toArray t := by
    rw [← List.map_append, ← List.map_append, ← e]; exact h
  have := h'.mid (l.map (Value.int .u8)) (by simp [hl, hm]; omega)
  have hlen : ((m.take (16 * i)).map (Value.int .u8)).length = i * 16 := by simp [hm]; omega
  rw [hlen] at this
  rw [nums, List.map_append, List.map_append]
  exact this

set_option maxRecDepth 10000 in
set_option maxHeartbeats 2000000 in
theorem dstate_any (sb n win lo frame pb rb f : Nat) (mb : Nat → Nat) (F : Nat → Prop) (fs : Nat → List Int) (w : World) (h : DeltaAt w sb F n win lo frame fs pb rb mb) (hn : n ≤ 4) (hl : lo ≤ f) (hf : f ≤ frame) (hfr : frame ≤ 1000) :
    Calls Tryz.prog 183 #[.pointer (some ⟨sb, 0, none⟩), .int .i64 (f : Int)] w fun e w' => e = .returned (.agg (nums .u8 (stF n fs f))) ∧ Below w.heap.size w w' := by
  have hz := Tryz.zeroMem
  have hz2 := Tryz.zeroPg
  have hlt := h.blk.lt
  have HB := hide h
  have hlenF := stF_len hn fs frame
  have e1 : ((w.alloc (.cells (nums .u8 Z288) 106)).alloc (.cells (nums .u8 Z288) 106)).heap.size = w.heap.size + 2 := by simp
  have b1 : Below w.heap.size w ((w.alloc (.cells (nums .u8 Z288) 106)).alloc (.cells (nums .u8 Z288) 106)) := ((Below.refl _ w).alloc (Nat.le_refl _) _).alloc (by simp) _
  have x1 : Blk ((w.alloc (.cells (nums .u8 Z288) 106)).alloc (.cells (nums .u8 Z288) 106)) w.heap.size (nums .u8 Z288) 106 := (Blk.new w _ _).alloc _
  have y1 : Blk ((w.alloc (.cells (nums .u8 Z288) 106)).alloc (.cells (nums .u8 Z288) 106)) (w.heap.size + 1) (nums .u8 Z288) 106 := by
    have := Blk.new (w.alloc (.cells (nums .u8 Z288) 106)) (nums .u8 Z288) 106
    simpa using this
  have c1 : ((w.alloc (.cells (nums .u8 Z288) 106))).rangeAt sb 2 ((stF n fs frame).map (Value.int .u8)) := World.rangeAt_alloc h.blk.now _
  have s1 : StBlk (((w.alloc (.cells (nums .u8 Z288) 106)).alloc (.cells (nums .u8 Z288) 106)).setRow (w.heap.size + 1) (nums .u8 (stF n fs frame))) sb 250 n frame (stF n fs frame) pb win rb (win + 1) := ⟨h.blk.1, ((h.blk.2.alloc _).alloc _).setRowOther _ _ (by omega)⟩
  have k1 := s1.c1
  have b2 := below_setRow b1 (show w.heap.size ≤ w.heap.size + 1 by omega) (nums .u8 (stF n fs frame))
  have x2 := x1.setRowOther (w.heap.size + 1) (nums .u8 (stF n fs frame)) (by omega)
  have y2 := y1.setRow (nums .u8 (stF n fs frame))
  have e2 : (((w.alloc (.cells (nums .u8 Z288) 106)).alloc (.cells (nums .u8 Z288) 106)).setRow (w.heap.size + 1) (nums .u8 (stF n fs frame))).heap.size = w.heap.size + 2 := by
    rw [← e1]; simp [World.setRow]
  clear x1 b1 s1 e1
  clear h
  go_enter Tryz.func183, Tryz.ntmps183
  go_wp2_with (first | (refine wpList_load_mid rfl 106 _ rfl sb 2 rfl ((stF n fs frame).map (Value.int .u8)) _ c1 Tryz.underlying106 rfl (by rw [List.length_map, hlenF]; exact (zero_of_info Tryz.infoMem).2) ?_) | (refine wpList_store_blk rfl 106 _ _ rfl (w.heap.size + 1) 106 (nums .u8 Z288) (nums .u8 (stF n fs frame)) rfl rfl y1 (Tryz.sizeMem _ hlenF) (by rw [nums_size, nums_size, hlenF]; rfl) (nums_one _ _) ?_))
  obtain ⟨V, hV⟩ : ∃ V, ((w.alloc (.cells (nums .u8 Z288) 106)).alloc (.cells (nums .u8 Z288) 106)).setRow (w.heap.size + 1) (nums .u8 (stF n fs frame)) = V := ⟨_, rfl⟩
  rw [hV] at k1 b2 x2 y2 e2 ⊢
  clear hV y1 c1
  have hsub : IntKind.i64.wrap ((frame : Int) - 1) = (frame : Int) - 1 := i64_id _ (by omega) (by omega)
  go_loopw [6] (fun p wr => ∃ k : Nat, f ≤ k ∧ k ≤ frame ∧ p = .int .i64 ((k : Int) - 1) ∧ Below w.heap.size w wr ∧ w.heap.size + 2 ≤ wr.heap.size ∧ Blk wr w.heap.size (nums .u8 Z288) 106 ∧ Blk wr (w.heap.size + 1) (nums .u8 (stF n fs k)) 106) (fun p _ => (intOf p + 1).toNat)
  case atStart => exact ⟨frame, hf, Nat.le_refl _, by first | rfl | (simp [hsub]), b2, by omega, x2, y2⟩
  case round =>
    clear b2 x2 y2 e2 k1 hlenF
    obtain ⟨k, hk1, hk2, rfl, hb, hsz, hx, hy⟩ := hrel
    have hs := (unhide HB).blk.same (hb.block sb hlt)
    have k291 := hs.c291
    by_cases hlt2 : f < k
    · obtain ⟨q, rfl⟩ : ∃ q, k = q + 1 := ⟨k - 1, by omega⟩
      have hq : (((q + 1 : Nat) : Int) - 1) = (q : Int) := by omega
      rw [hq]
      have hge : decide ((f : Int) ≤ (q : Int)) = true := by simp; omega
      obtain ⟨D, hown, hD⟩ := (unhide HB).past q (by omega) (by omega)
      have hml : mb (q % (win + 1)) < w.heap.size := by obtain ⟨es, c, hbb, _⟩ := hown; exact (Array.getElem?_eq_some_iff.1 hbb).1
      have hsl := (unhide HB).slot q
      have hrl := (unhide HB).rlt
      have hsl2 : wr.cell? ⟨rb, q % (win + 1), none⟩ = some (.map (some (mb (q % (win + 1))))) := (hb.cell (p := ⟨rb, q % (win + 1), none⟩) hrl).trans hsl
      go_wp2_with fail
      refine (rat_pg rb (win + 1) q (mb (q % (win + 1))) wr (by omega) hsl2).mono ?_
      rintro e w3 ⟨rfl, hb3⟩
      have hb13 : Below w.heap.size w w3 := hb.trans (hb3.mono (by omega))
      have hown3 : w3.ownsMap Tryz.prog 3 pgElem (mb (q % (win + 1))) 18 D := by
        obtain ⟨es, c, hbb, hr⟩ := hown
        exact ⟨es, c, (hb13.block _ hml).trans hbb, hr⟩
      go_wp2_with (first | (at_range; refine wpList_range_own _ rfl _ 248 rfl 3 104 Tryz.keyedInt Tryz.underlying248 pgElem (mb (q % (win + 1))) 18 D rfl hown3 ?_; intro w4 hrg4 hg4 hs4))
      go_frame
      have hne1 : mb (q % (win + 1)) ≠ w.heap.size + 1 := by omega
      have z3 := hb3.size
      have hb14 : Below w.heap.size w w4 := ⟨hg4.os.trans hb13.os, hg4.tape.trans hb13.tape, hg4.output.trans hb13.output, Nat.le_trans hb13.size hg4.size, fun k hk => (hg4.block k (by have := hb13.size; omega) (by simp)).trans (hb13.block k hk)⟩
      have hx4 : Blk w4 w.heap.size (nums .u8 Z288) 106 := (hg4.block _ (by omega) (by simp)).trans (hx.below (by omega) hb3)
      have hy4 : Blk w4 (w.heap.size + 1) (nums .u8 (stF n fs (q + 1))) 106 := (hg4.block _ (by omega) (by simp)).trans (hy.below (by omega) hb3)
      have hlq := stF_len hn fs (q + 1)
      have HD := hide hD
      have hMn : ∀ i, diffL (stF n fs q) (stF n fs (q + 1)) i ≠ none → Maps.has D (kI i) = true := fun i hi => by
        cases hq : diffL (stF n fs q) (stF n fs (q + 1)) i with
        | none => exact absurd hq hi
        | some l => exact (hD.some_ i l hq).2.2.1
      have st0 := backL_start (m := stF n fs (q + 1)) (M := diffL (stF n fs q) (stF n fs (q + 1))) (left := Maps.has D) hlq hMn
      clear hD hown hown3 hg4 hb13 hb3 hx hy hb hs k291 hsl hsl2 hMn
      generalize mb (q % (win + 1)) = B at *
      obtain ⟨R, hR⟩ : ∃ R, w3.heap.size = R := ⟨_, rfl⟩
      rw [hR] at hrg4 hs4 z3
      rw [hR]
      have hRB : w.heap.size + 2 ≤ R := by omega
      clear hR
      go_loopw [7] (fun _ wr2 => ∃ left cnt, wr2.ranges Tryz.prog 3 pgElem B R 18 D left cnt ∧ (∀ kl, left kl = true → Maps.has D kl = true) ∧ Below w.heap.size w wr2 ∧ R + 1 ≤ wr2.heap.size ∧ Blk wr2 w.heap.size (nums .u8 Z288) 106 ∧ Blk wr2 (w.heap.size + 1) (nums .u8 (backL (stF n fs (q + 1)) (diffL (stF n fs q) (stF n fs (q + 1))) left)) 106) (fun _ wr2 => wr2.rangeLeft B R)
      case atStart => exact ⟨_, _, hrg4, fun _ h => h, hb14, by omega, hx4, by rw [st0]; exact hy4⟩
      case round =>
        clear hrg4 hb14 hx4 hy4 st0 hs4 z3
        obtain ⟨left, cnt, hrg, hleft, hb, hsz2, hx, hy⟩ := hrel
        go_wp2_with (first | (at_next; refine wpList_next_ranges _ rfl _ rfl 3 Tryz.keyedInt pgElem (Value.int .i64) (fun l : List Int => Value.agg (nums .u8 l)) (fun key kl hkey => by obtain ⟨x, rfl, _⟩ := Maps.keyOf_int_inv Tryz.underlying3 hkey; exact ⟨x, rfl⟩) (fun v y hv => by obtain ⟨l, _, rfl, _⟩ := pgElem_inv hv; exact ⟨l, rfl⟩) B R 18 D left cnt rfl hrg ?_ ?_))
        · intro _ hl0
          have hy' : Blk wr (w.heap.size + 1) (nums .u8 (stF n fs q)) 106 := by
            rw [backL_end hl0, back_state n hn fs q] at hy; exact hy
          clear hy hrg
          have hsq : IntKind.i64.wrap ((q : Int) - 1) = (q : Int) - 1 := i64_id _ (by omega) (by omega)
          go_wp2_with fail
          exact ⟨⟨q, by omega, by omega, rfl, hb, by omega, hx, hy'⟩, by simp [intOf]⟩
        · intro x c kl y ps w5 cnt5 hkey hlk hv hat hrg5 hlt5 hg5 hs5 hen
          obtain ⟨x', ex, rfl, _⟩ := Maps.keyOf_int_inv Tryz.underlying3 hkey
          cases ex
          obtain ⟨i, hi, hki⟩ := (unhide HD).keys _ (hleft _ hlk)
          have hxi : x = (i : Int) := by unfold kI at hki; injection hki
          subst hxi
          have hMi : diffL (stF n fs q) (stF n fs (q + 1)) i = some c ∧ c.length = 16 := by
            cases hq2 : diffL (stF n fs q) (stF n fs (q + 1)) i with
            | none => have := (unhide HD).none_ i hq2; rw [hleft _ (show left (kI i) = true from hlk)] at this; cases this
            | some l =>
              obtain ⟨_, hl16, _, hat'⟩ := (unhide HD).some_ i l hq2
              obtain ⟨l2, hl2, e2, e3⟩ := pgElem_inv hv
              have h1 := hat .nil
              have h2 := hat' .nil
              have h3 : y = .held l := h1.symm.trans h2
              have h4 : y = .held l2 := by injection e3
              have h5 : l = l2 := by rw [h3] at h4; injection h4
              have h6 : c = l2 := by
                have : nums .u8 c = nums .u8 l2 := by injection e2
                unfold nums at this
                have h7 := congrArg Array.toList this
                simp at h7
                exact List.map_inj_right (fun a b hab => by injection hab) |>.1 h7
              subst h5 h6
              exact ⟨rfl, hl16⟩
          obtain ⟨hMi, hc16⟩ := hMi
          have hst := backL_step (m := stF n fs (q + 1)) (M := diffL (stF n fs q) (stF n fs (q + 1))) (left := left) hi hMi hc16
          have hlb := backL_len (stF n fs (q + 1)) (diffL (stF n fs q) (stF n fs (q + 1))) left
          have hx5 : Blk w5 w.heap.size (nums .u8 Z288) 106 := hx.grown hg5 (by omega)
          have hy5 := hy.grown hg5 (show w.heap.size + 1 ≠ R by omega)
          have hb5 : Below w.heap.size w w5 := hb.trans (below_grown hg5 hb.size (by omega))
          have hy6 := hy5.alloc (.cells (nums .u8 c) 104)
          have hi0 : (0 : Int) ≤ (i : Int) := by omega
          have hi1 : (i : Int) < 18 := by omega
          have hth6 : (w5.alloc (.cells (nums .u8 c) 104)).there (w.heap.size + 1) (i * 16) 16 := hy6.there (by rw [nums_size, hlb]; omega)
          have HY := hide (And.intro hy6 hst)
          have HC := hide hrg.left_eq
          have HR5 := hide (And.intro hrg5 hs5)
          clear hs5
          clear hy hy5 hy6 hst hrg hrg5 hv hat hkey hMi hg5 hb hx
          go_wp2_with (first | (refine wpList_store_new rfl 104 _ _ rfl (nums .u8 (List.replicate 16 0)) (nums .u8 c) rfl rfl (Tryz.sizePg _ hc16) (by rw [nums_size, nums_size, hc16]; rfl) (nums_one _ _) ?_) | (refine wpList_load_blk rfl 104 _ rfl w5.heap.size rfl 104 (nums .u8 c) _ (Blk.new _ _ _) Tryz.underlying104 rfl (Tryz.sizePg _ hc16) ?_) | (refine wpList_store_mid rfl 104 _ _ rfl (w.heap.size + 1) (i * 16) (nums .u8 c) (by simp [Act.eval]) rfl (by rw [nums_size, hc16]; exact hth6) (Tryz.sizePg _ hc16) (nums_one _ _) ?_))
          go_frame
          go_roundw
          case rel =>
            obtain ⟨hy6, hst⟩ := unhide HY
            obtain ⟨hr5, hs5⟩ := unhide HR5
            refine ⟨_, cnt5, (hr5.alloc (.cells (nums .u8 c) 104)).kept (grown_setCells (w.heap.size + 1) _ _ _) (by simp; omega) (by simp; omega), fun kl hkl => hleft kl (by simp at hkl; exact hkl.1), below_setCells (hb5.alloc hb5.size _) _ _ _ (by omega), by rw [size_setCells]; simp; omega, ?_, ?_⟩
            · exact (heap_setCells_other (by omega) _ _ _).trans (hx5.alloc _)
            · rw [show backL (stF n fs (q + 1)) (diffL (stF n fs q) (stF n fs (q + 1))) (fun z => left z && !z.sameKey (Lit.int .i64 (i : Int))) = _ from hst]
              exact Blk.page hy6 hlb i hi c hc16
          case measure =>
            obtain ⟨hr5, hs5⟩ := unhide HR5
            have h1 := ((hr5.alloc (.cells (nums .u8 c) 104)).kept (grown_setCells (w.heap.size + 1) (nums .u8 c).toList (i * 16) _) (by simp; omega) (by simp; omega)).left_eq
            rw [h1, unhide HC]; exact hlt5
    · have hkf : k = f := by omega
      subst hkf
      have hge : decide ((k : Int) ≤ (k : Int) - 1) = false := by simp; omega
      have hlk := stF_len hn fs k
      go_wp2_with (first | (refine wpList_load_blk rfl 106 _ rfl (w.heap.size + 1) rfl 106 (nums .u8 (stF n fs k)) _ hy Tryz.underlying106 rfl (Tryz.sizeMem _ hlk) ?_) | (refine wpList_store_blk rfl 106 _ _ rfl w.heap.size 106 (nums .u8 Z288) (nums .u8 (stF n fs k)) rfl rfl hx (Tryz.sizeMem _ hlk) (by rw [nums_size, nums_size, hlk]; rfl) (nums_one _ _) ?_))
      refine bodyPost_ret (v := .agg (nums .u8 (stF n fs k))) ?_ rfl ⟨rfl, ?_⟩
      · exact results_cell_row Tryz.results183 _ _ w.heap.size 106 _ (0, 0) _ rfl (hx.setRow _) Tryz.underlying106 rfl (Tryz.sizeMem _ hlk)
      · exact below_setRow hb (Nat.le_refl _) _
end Go.Proofs.YtandblanpafjoabGreatDoor
