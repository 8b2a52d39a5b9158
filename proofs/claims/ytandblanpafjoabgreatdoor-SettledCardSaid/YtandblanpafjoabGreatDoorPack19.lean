import Derived.Test.YtandblanpafjoabGreatDoorPack18
namespace Go.Proofs.YtandblanpafjoabGreatDoor
open Go.RowKit Go.Extern.Stop Go.Stop Go.Extern Go.Maps

theorem Tryz.infoPg : (Tryz.prog.info? 104).map (fun i => (i.zero, i.size)) = some (some (.agg (nums .u8 (List.replicate 16 0))), 16) := by kernel_rfl
theorem Tryz.zeroPg (w : World) : (zeroValue 104).run Tryz.prog w = .ok (.agg (nums .u8 (List.replicate 16 0))) w := (zero_of_info Tryz.infoPg).1 w
theorem Tryz.sizePg (l : List Int) (hl : l.length = 16) : (Tryz.prog.info? 104).map (·.size) = some (nums .u8 l).size := by
  rw [nums_size, hl]; exact (zero_of_info Tryz.infoPg).2

theorem Blk.page {w : World} {g : Nat} {m : List Int} {t : TypeId} (h : Blk w g (nums .u8 m) t) (hm : m.length = 288) (i : Nat) (hi : i < 18) (l : List Int) (hl : l.length = 16) :
    Blk (w.setCells g (i * 16) (l.map (Value.int .u8))) g (nums .u8 (m.take (16 * i) ++ (l ++ m.drop (16 * i + 16)))) t := by
  have e : m = m.take (16 * i) ++ ((m.drop (16 * i)).take 16 ++ m.drop (16 * i + 16)) := by
    rw [← List.drop_drop, List.take_append_drop, List.take_append_drop]
  have h' : Blk w g ((m.take (16 * i)).map (Value.int .u8) ++ (((m.drop (16 * i)).take 16).map (Value.int .u8) ++ (m.drop (16 * i + 16)).map (Value.int .u8))).toArray t := by
    rw [← List.map_append, ← List.map_append, ← e]; exact h
  have := h'.mid (l.map (Value.int .u8)) (by simp [hl, hm]; omega)
  have hlen : ((m.take (16 * i)).map (Value.int .u8)).length = i * 16 := by simp [hm]; omega
  rw [hlen] at this
  rw [nums, List.map_append, List.map_append]
  exact this

set_option maxRecDepth 10000 in
set_option maxHeartbeats 2000000 in
theorem dstate_any (sb n win lo frame pb rb f : Nat) (mb : Nat → Nat) (F : Nat → Prop) (fs : Nat → List Int) (w : World) (h : DeltaAt w sb F n win lo frame fs pb rb mb) (hn : n ≤ 4) (hl : lo ≤ f) (hf : f ≤ frame) (hfr : frame ≤ 1000) :
    Calls Tryz.prog 183 #[.pointer (some ⟨sb, 0, none⟩), .int .i64 (f : Int)] w fun e w' => e = .returned (.agg (nums .u8 (stF n fs f))) ∧ Below w.heap.size w w' := by
  have hz := Tryz.zeroMem
  have hz2 := Tryz.zeroPg
  have hlt := h.blk.lt
  have HB := hide h
  have hlenF := stF_len hn fs frame
  have e1 : ((w.alloc (.cells (nums .u8 Z288) 106)).alloc (.cells (nums .u8 Z288) 106)).heap.size = w.heap.size + 2 := by simp
  have b1 : Below w.heap.size w ((w.alloc (.cells (nums .u8 Z288) 106)).alloc (.cells (nums .u8 Z288) 106)) := ((Below.refl _ w).alloc (Nat.le_refl _) _).alloc (by simp) _
  have x1 : Blk ((w.alloc (.cells (nums .u8 Z288) 106)).alloc (.cells (nums .u8 Z288) 106)) w.heap.size (nums .u8 Z288) 106 := (Blk.new w _ _).alloc _
  have y1 : Blk ((w.alloc (.cells (nums .u8 Z288) 106)).alloc (.cells (nums .u8 Z288) 106)) (w.heap.size + 1) (nums .u8 Z288) 106 := by
    have := Blk.new (w.alloc (.cells (nums .u8 Z288) 106)) (nums .u8 Z288) 106
    simpa using this
  have c1 : ((w.alloc (.cells (nums .u8 Z288) 106))).rangeAt sb 2 ((stF n fs frame).map (Value.int .u8)) := World.rangeAt_alloc h.blk.now _
  have s1 : StBlk (((w.alloc (.cells (nums .u8 Z288) 106)).alloc (.cells (nums .u8 Z288) 106)).setRow (w.heap.size + 1) (nums .u8 (stF n fs frame))) sb 250 n frame (stF n fs frame) pb win rb (win + 1) := ⟨h.blk.1, ((h.blk.2.alloc _).alloc _).setRowOther _ _ (by omega)⟩
  have k1 := s1.c1
  have b2 := below_setRow b1 (show w.heap.size ≤ w.heap.size + 1 by omega) (nums .u8 (stF n fs frame))
  have x2 := x1.setRowOther (w.heap.size + 1) (nums .u8 (stF n fs frame)) (by omega)
  have y2 := y1.setRow (nums .u8 (stF n fs frame))
  have e2 : (((w.alloc (.cells (nums .u8 Z288) 106)).alloc (.cells (nums .u8 Z288) 106)).setRow (w.heap.size + 1) (nums .u8 (stF n fs frame))).heap.size = w.heap.size + 2 := by
    rw [← e1]; simp [World.setRow]
  clear x1 b1 s1 e1
  clear h
  go_enter Tryz.func183, Tryz.ntmps183
  go_wp2_with (first | (refine wpList_load_mid rfl 106 _ rfl sb 2 rfl ((stF n fs frame).map (Value.int .u8)) _ c1 Tryz.underlying106 rfl (by rw [List.length_map, hlenF]; exact (zero_of_info Tryz.infoMem).2) ?_) | (refine wpList_store_blk rfl 106 _ _ rfl (w.heap.size + 1) 106 (nums .u8 Z288) (nums .u8 (stF n fs frame)) rfl rfl y1 (Tryz.sizeMem _ hlenF) (by rw [nums_size, nums_size, hlenF]; rfl) (nums_one _ _) ?_))
  obtain ⟨V, hV⟩ : ∃ V, ((w.alloc (.cells (nums .u8 Z288) 106)).alloc (.cells (nums .u8 Z288) 106)).setRow (w.heap.size + 1) (nums .u8 (stF n fs frame)) = V := ⟨_, rfl⟩
  rw [hV] at k1 b2 x2 y2 e2 ⊢
  clear hV y1 c1
  have hsub : IntKind.i64.wrap ((frame : Int) - 1) = (frame : Int) - 1 := i64_id _ (by omega) (by omega)
  go_loopw [6] (fun p wr => ∃ k : Nat, f ≤ k ∧ k ≤ frame ∧ p = .int .i64 ((k : Int) - 1) ∧ Below w.heap.size w wr ∧ w.heap.size + 2 ≤ wr.heap.size ∧ Blk wr w.heap.size (nums .u8 Z288) 106 ∧ Blk wr (w.heap.size + 1) (nums .u8 (stF n fs k)) 106) (fun p _ => (intOf p + 1).toNat)
  case atStart => exact ⟨frame, hf, Nat.le_refl _, by first | rfl | (simp [hsub]), b2, by omega, x2, y2⟩
  case round =>
    clear b2 x2 y2 e2 k1 hlenF
    obtain ⟨k, hk1, hk2, rfl, hb, hsz, hx, hy⟩ := hrel
    have hs := (unhide HB).blk.same (hb.block sb hlt)
    have k291 := hs.c291
    by_cases hlt2 : f < k
    · obtain ⟨q, rfl⟩ : ∃ q, k = q + 1 := ⟨k - 1, by omega⟩
      have hq : (((q + 1 : Nat) : Int) - 1) = (q : Int) := by omega
      rw [hq]
      have hge : decide ((f : Int) ≤ (q : Int)) = true := by simp; omega
      obtain ⟨D, hown, hD⟩ := (unhide HB).past q (by omega) (by omega)
      have hml : mb (q % (win + 1)) < w.heap.size := by obtain ⟨es, c, hbb, _⟩ := hown; exact (Array.getElem?_eq_some_iff.1 hbb).1
      have hsl := (unhide HB).slot q
      have hrl := (unhide HB).rlt
      have hsl2 : wr.cell? ⟨rb, q % (win + 1), none⟩ = some (.map (some (mb (q % (win + 1))))) := (hb.cell (p := ⟨rb, q % (win + 1), none⟩) hrl).trans hsl
      go_wp2_with fail
      refine (rat_pg rb (win + 1) q (mb (q % (win + 1))) wr (by omega) hsl2).mono ?_
      rintro e w3 ⟨rfl, hb3⟩
      have hb13 : Below w.heap.size w w3 := hb.trans (hb3.mono (by omega))
      have hown3 : w3.ownsMap Tryz.prog 3 pgElem (mb (q % (win + 1))) 18 D := by
        obtain ⟨es, c, hbb, hr⟩ := hown
        exact ⟨es, c, (hb13.block _ hml).trans hbb, hr⟩
      go_wp2_with (first | (at_range; refine wpList_range_own _ rfl _ 248 rfl 3 104 Tryz.keyedInt Tryz.underlying248 pgElem (mb (q % (win + 1))) 18 D rfl hown3 ?_; intro w4 hrg4 hg4 hs4))
      go_frame
      have hne1 : mb (q % (win + 1)) ≠ w.heap.size + 1 := by omega
      have z3 := hb3.size
      have hb14 : Below w.heap.size w w4 := ⟨hg4.os.trans hb13.os, hg4.tape.trans hb13.tape, hg4.output.trans hb13.output, Nat.le_trans hb13.size hg4.size, fun k hk => (hg4.block k (by have := hb13.size; omega) (by simp)).trans (hb13.block k hk)⟩
      have hx4 : Blk w4 w.heap.size (nums .u8 Z288) 106 := (hg4.block _ (by omega) (by simp)).trans (hx.below (by omega) hb3)
      have hy4 : Blk w4 (w.heap.size + 1) (nums .u8 (stF n fs (q + 1))) 106 := (hg4.block _ (by omega) (by simp)).trans (hy.below (by omega) hb3)
      have hlq := stF_len hn fs (q + 1)
      have HD := hide hD
      have hMn : ∀ i, diffL (stF n fs q) (stF n fs (q + 1)) i ≠ none → Maps.has D (kI i) = true := fun i hi => by
        cases hq : diffL (stF n fs q) (stF n fs (q + 1)) i with
        | none => exact absurd hq hi
        | some l => exact (hD.some_ i l hq).2.2.1
      have st0 := backL_start (m := stF n fs (q + 1)) (M := diffL (stF n fs q) (stF n fs (q + 1))) (left := Maps.has D) hlq hMn
      clear hD hown hown3 hg4 hb13 hb3 hx hy hb hs k291 hsl hsl2 hMn
      generalize mb (q % (win + 1)) = B at *
      obtain ⟨R, hR⟩ : ∃ R, w3.heap.size = R := ⟨_, rfl⟩
      rw [hR] at hrg4 hs4 z3
      rw [hR]
      have hRB : w.heap.size + 2 ≤ R := by omega
      clear hR
      go_loopw [7] (fun _ wr2 => ∃ left cnt, wr2.ranges Tryz.prog 3 pgElem B R 18 D left cnt ∧ (∀ kl, left kl = true → Maps.has D kl = true) ∧ Below w.heap.size w wr2 ∧ R + 1 ≤ wr2.heap.size ∧ Blk wr2 w.heap.size (nums .u8 Z288) 106 ∧ Blk wr2 (w.heap.size + 1) (nums .u8 (backL (stF n fs (q + 1)) (diffL (stF n fs q) (stF n fs (q + 1))) left)) 106) (fun _ wr2 => wr2.rangeLeft B R)
      case atStart => exact ⟨_, _, hrg4, fun _ h => h, hb14, by omega, hx4, by rw [st0]; exact hy4⟩
      case round =>
        clear hrg4 hb14 hx4 hy4 st0 hs4 z3
        obtain ⟨left, cnt, hrg, hleft, hb, hsz2, hx, hy⟩ := hrel
        go_wp2_with (first | (at_next; refine wpList_next_ranges _ rfl _ rfl 3 Tryz.keyedInt pgElem (Value.int .i64) (fun l : List Int => Value.agg (nums .u8 l)) (fun key kl hkey => by obtain ⟨x, rfl, _⟩ := Maps.keyOf_int_inv Tryz.underlying3 hkey; exact ⟨x, rfl⟩) (fun v y hv => by obtain ⟨l, _, rfl, _⟩ := pgElem_inv hv; exact ⟨l, rfl⟩) B R 18 D left cnt rfl hrg ?_ ?_))
        · intro _ hl0
          have hy' : Blk wr (w.heap.size + 1) (nums .u8 (stF n fs q)) 106 := by
            rw [backL_end hl0, back_state n hn fs q] at hy; exact hy
          clear hy hrg
          have hsq : IntKind.i64.wrap ((q : Int) - 1) = (q : Int) - 1 := i64_id _ (by omega) (by omega)
          go_wp2_with fail
          exact ⟨⟨q, by omega, by omega, rfl, hb, by omega, hx, hy'⟩, by simp [intOf]⟩
        · intro x c kl y ps w5 cnt5 hkey hlk hv hat hrg5 hlt5 hg5 hs5 hen
          obtain ⟨x', ex, rfl, _⟩ := Maps.keyOf_int_inv Tryz.underlying3 hkey
          cases ex
          obtain ⟨i, hi, hki⟩ := (unhide HD).keys _ (hleft _ hlk)
          have hxi : x = (i : Int) := by unfold kI at hki; injection hki
          subst hxi
          have hMi : diffL (stF n fs q) (stF n fs (q + 1)) i = some c ∧ c.length = 16 := by
            cases hq2 : diffL (stF n fs q) (stF n fs (q + 1)) i with
            | none => have := (unhide HD).none_ i hq2; rw [hleft _ (show left (kI i) = true from hlk)] at this; cases this
            | some l =>
              obtain ⟨_, hl16, _, hat'⟩ := (unhide HD).some_ i l hq2
              obtain ⟨l2, hl2, e2, e3⟩ := pgElem_inv hv
              have h1 := hat .nil
              have h2 := hat' .nil
              have h3 : y = .held l := h1.symm.trans h2
              have h4 : y = .held l2 := by injection e3
              have h5 : l = l2 := by rw [h3] at h4; injection h4
              have h6 : c = l2 := by
                have : nums .u8 c = nums .u8 l2 := by injection e2
                unfold nums at this
                have h7 := congrArg Array.toList this
                simp at h7
                exact List.map_inj_right (fun a b hab => by injection hab) |>.1 h7
              subst h5 h6
              exact ⟨rfl, hl16⟩
          obtain ⟨hMi, hc16⟩ := hMi
          have hst := backL_step (m := stF n fs (q + 1)) (M := diffL (stF n fs q) (stF n fs (q + 1))) (left := left) hi hMi hc16
          have hlb := backL_len (stF n fs (q + 1)) (diffL (stF n fs q) (stF n fs (q + 1))) left
          have hx5 : Blk w5 w.heap.size (nums .u8 Z288) 106 := hx.grown hg5 (by omega)
          have hy5 := hy.grown hg5 (show w.heap.size + 1 ≠ R by omega)
          have hb5 : Below w.heap.size w w5 := hb.trans (below_grown hg5 hb.size (by omega))
          have hy6 := hy5.alloc (.cells (nums .u8 c) 104)
          have hi0 : (0 : Int) ≤ (i : Int) := by omega
          have hi1 : (i : Int) < 18 := by omega
          have hth6 : (w5.alloc (.cells (nums .u8 c) 104)).there (w.heap.size + 1) (i * 16) 16 := hy6.there (by rw [nums_size, hlb]; omega)
          have HY := hide (And.intro hy6 hst)
          have HC := hide hrg.left_eq
          have HR5 := hide (And.intro hrg5 hs5)
          clear hs5
          clear hy hy5 hy6 hst hrg hrg5 hv hat hkey hMi hg5 hb hx
          go_wp2_with (first | (refine wpList_store_new rfl 104 _ _ rfl (nums .u8 (List.replicate 16 0)) (nums .u8 c) rfl rfl (Tryz.sizePg _ hc16) (by rw [nums_size, nums_size, hc16]; rfl) (nums_one _ _) ?_) | (refine wpList_load_blk rfl 104 _ rfl w5.heap.size rfl 104 (nums .u8 c) _ (Blk.new _ _ _) Tryz.underlying104 rfl (Tryz.sizePg _ hc16) ?_) | (refine wpList_store_mid rfl 104 _ _ rfl (w.heap.size + 1) (i * 16) (nums .u8 c) (by simp [Act.eval]) rfl (by rw [nums_size, hc16]; exact hth6) (Tryz.sizePg _ hc16) (nums_one _ _) ?_))
          go_frame
          go_roundw
          case rel =>
            obtain ⟨hy6, hst⟩ := unhide HY
            obtain ⟨hr5, hs5⟩ := unhide HR5
            refine ⟨_, cnt5, (hr5.alloc (.cells (nums .u8 c) 104)).kept (grown_setCells (w.heap.size + 1) _ _ _) (by simp; omega) (by simp; omega), fun kl hkl => hleft kl (by simp at hkl; exact hkl.1), below_setCells (hb5.alloc hb5.size _) _ _ _ (by omega), by rw [size_setCells]; simp; omega, ?_, ?_⟩
            · exact (heap_setCells_other (by omega) _ _ _).trans (hx5.alloc _)
            · rw [show backL (stF n fs (q + 1)) (diffL (stF n fs q) (stF n fs (q + 1))) (fun z => left z && !z.sameKey (Lit.int .i64 (i : Int))) = _ from hst]
              exact Blk.page hy6 hlb i hi c hc16
          case measure =>
            obtain ⟨hr5, hs5⟩ := unhide HR5
            have h1 := ((hr5.alloc (.cells (nums .u8 c) 104)).kept (grown_setCells (w.heap.size + 1) (nums .u8 c).toList (i * 16) _) (by simp; omega) (by simp; omega)).left_eq
            rw [h1, unhide HC]; exact hlt5
    · have hkf : k = f := by omega
      subst hkf
      have hge : decide ((k : Int) ≤ (k : Int) - 1) = false := by simp; omega
      have hlk := stF_len hn fs k
      go_wp2_with (first | (refine wpList_load_blk rfl 106 _ rfl (w.heap.size + 1) rfl 106 (nums .u8 (stF n fs k)) _ hy Tryz.underlying106 rfl (Tryz.sizeMem _ hlk) ?_) | (refine wpList_store_blk rfl 106 _ _ rfl w.heap.size 106 (nums .u8 Z288) (nums .u8 (stF n fs k)) rfl rfl hx (Tryz.sizeMem _ hlk) (by rw [nums_size, nums_size, hlk]; rfl) (nums_one _ _) ?_))
      refine bodyPost_ret (v := .agg (nums .u8 (stF n fs k))) ?_ rfl ⟨rfl, ?_⟩
      · exact results_cell_row Tryz.results183 _ _ w.heap.size 106 _ (0, 0) _ rfl (hx.setRow _) Tryz.underlying106 rfl (Tryz.sizeMem _ hlk)
      · exact below_setRow hb (Nat.le_refl _) _
end Go.Proofs.YtandblanpafjoabGreatDoor

namespace Go.Proofs.YtandblanpafjoabGreatDoor
open Go.RowKit Go.Extern.Stop Go.Stop Go.Extern Go.Maps

def cellN (w : World) (b i : Nat) : Nat := match w.cell? ⟨b, i, none⟩ with
  | some (.int _ v) => v.toNat
  | _ => 0
theorem cellN_is {w : World} {b i : Nat} {k : IntKind} {v : Nat} (h : w.cell? ⟨b, i, none⟩ = some (.int k (v : Int))) : cellN w b i = v := by simp [cellN, h]
theorem PgMap.grown {w w' : World} {b n g : Nat} {M : Nat → Option (List Int)} (h : PgMap w b n M) (hg : w.grownBy w' (some g)) (hne : b ≠ g) : PgMap w' b n M := h.same (hg.block b h.lt (fun e => hne (by injection e)))

set_option maxRecDepth 10000 in
set_option maxHeartbeats 2000000 in
theorem dback_any (sb n win lo frame pb rb f : Nat) (mb : Nat → Nat) (F : Nat → Prop) (fs : Nat → List Int) (w : World) (h : DeltaAt w sb F n win lo frame fs pb rb mb) (hn : n ≤ 4) (hl : lo ≤ f) (hf : f ≤ frame) (hfr : frame ≤ 1000) (hwin : frame ≤ lo + win) :
    Calls Tryz.prog 179 #[.pointer (some ⟨sb, 0, none⟩), .int .i64 (f : Int)] w fun e w' => e = .returned (.tuple #[]) ∧ Chg F w w' ∧ DeltaAt w' sb F n win lo f fs pb rb mb := by
  have hlen := stF_len hn fs f
  have hlt := h.blk.lt
  have HB := hide h
  clear h
  go_enter Tryz.func179, Tryz.ntmps179
  go_wp2_with fail
  refine (dstate_any sb n win lo frame pb rb f mb F fs w (unhide HB) hn hl hf hfr).mono ?_
  rintro e w2 ⟨rfl, hb2⟩
  have g2 : DeltaAt w2 sb F n win lo frame fs pb rb mb := by
    have g := unhide HB
    refine ⟨g.blk.same (hb2.block _ hlt), g.pl.same (hb2.block _ g.pl.lt), by obtain ⟨t, ht⟩ := g.ring; exact ⟨t, (hb2.block _ ht.lt).trans ht⟩, fun i hi => by obtain ⟨M, hM⟩ := g.maps i hi; exact ⟨M, hM.same (hb2.block _ hM.lt)⟩, fun j h1 h2 => (g.past j h1 h2).same (hb2.block _ (g.past j h1 h2).lt), g.next.same (hb2.block _ g.next.lt), g.inj, g.far, g.ne1, g.ne2, g.ne3, g.f1, g.f2, g.f3⟩
  have h5 : StBlk (w2.setCells sb 2 (nums .u8 (stF n fs f)).toList) sb 250 n frame (stF n fs f) pb win rb (win + 1) := g2.blk.putNow (stF n fs f) hlen
  have hG := grown_setCells sb (nums .u8 (stF n fs f)).toList 2 w2
  have c5 : Chg F w (w2.setCells sb 2 (nums .u8 (stF n fs f)).toList) := (Chg.ofBelow hb2).thenCells sb _ _ (unhide HB).f1
  have HTH := hide g2.blk.there
  have p5 : RingAt (w2.setCells sb 2 (nums .u8 (stF n fs f)).toList) pb 187 win 4 lo frame (fun f => insV n (fs f)) := g2.pl.same (hG.block _ g2.pl.lt (fun e => g2.ne1 (by injection e with e; exact e.symm)))
  have r5 : ∃ t, Blk (w2.setCells sb 2 (nums .u8 (stF n fs f)).toList) rb ((List.range (win + 1)).map fun i => Value.map (some (mb i))).toArray t := by
    obtain ⟨t, ht⟩ := g2.ring; exact ⟨t, ht.grown hG (Ne.symm g2.ne2)⟩
  have m5 : ∀ i, i < win + 1 → ∃ M, PgMap (w2.setCells sb 2 (nums .u8 (stF n fs f)).toList) (mb i) 18 M := fun i hi => by obtain ⟨M, hM⟩ := g2.maps i hi; exact ⟨M, hM.grown hG (g2.far i hi).1⟩
  have q5 : ∀ j, lo ≤ j → j < frame → PgMap (w2.setCells sb 2 (nums .u8 (stF n fs f)).toList) (mb (j % (win + 1))) 18 (diffL (stF n fs j) (stF n fs (j + 1))) := fun j h1 h2 => (g2.past j h1 h2).grown hG (g2.far _ (Nat.mod_lt j (by omega))).1
  have n5 : PgMap (w2.setCells sb 2 (nums .u8 (stF n fs f)).toList) (mb (frame % (win + 1))) 0 (fun _ => none) := g2.next.grown hG (g2.far _ (Nat.mod_lt frame (by omega))).1
  clear g2 hb2 hG
  go_wp2_with (first | (refine wpList_store_mid rfl 106 _ _ rfl sb 2 (nums .u8 (stF n fs f)) rfl rfl (by rw [nums_size, hlen]; exact unhide HTH) (Tryz.sizeMem _ hlen) (nums_one _ _) ?_))
  go_frame
  clear HTH
  generalize w2.setCells sb 2 (nums .u8 (stF n fs f)).toList = V at *
  go_loopw [15] (fun _ wr => ∃ k : Nat, f ≤ k ∧ k ≤ frame ∧ StBlk wr sb 250 n k (stF n fs f) pb win rb (win + 1) ∧ Chg F w wr ∧ RingAt wr pb 187 win 4 lo frame (fun f => insV n (fs f)) ∧ (∃ t, Blk wr rb ((List.range (win + 1)).map fun i => Value.map (some (mb i))).toArray t) ∧ (∀ i, i < win + 1 → ∃ M, PgMap wr (mb i) 18 M) ∧ (∀ j, lo ≤ j → j < k → PgMap wr (mb (j % (win + 1))) 18 (diffL (stF n fs j) (stF n fs (j + 1)))) ∧ PgMap wr (mb (k % (win + 1))) 0 (fun _ => none)) (fun _ wr => cellN wr sb 1)
  case atStart => exact ⟨frame, hf, Nat.le_refl _, h5, c5, p5, r5, m5, q5, n5⟩
  case round =>
    clear h5 c5 p5 r5 m5 q5 n5
    obtain ⟨k, hk1, hk2, h5, c5, p5, r5, m5, q5, n5⟩ := hrel
    have k1 := h5.c1
    have f1 := h5.frozen 1
    have k291 := h5.c291
    by_cases hgt : f < k
    · obtain ⟨q, rfl⟩ : ∃ q, k = q + 1 := ⟨k - 1, by omega⟩
      have hq : (((q + 1 : Nat) : Int)) = (q : Int) + 1 := by omega
      rw [hq] at k1
      have hgI : decide ((f : Int) < (q : Int) + 1) = true := by simp; omega
      have hw1 : IntKind.i64.wrap ((q : Int) + 1 - 1) = (q : Int) := by rw [show (q : Int) + 1 - 1 = (q : Int) by omega]; exact i64_id _ (by omega) (by omega)
      go_wp2_with fail
      have hW : 0 < win + 1 := by omega
      have hG := grown_set wr sb 1 (.int .i64 (q : Int))
      have h6 : StBlk (wr.setCell ⟨sb, 1, none⟩ (.int .i64 (q : Int))) sb 250 n q (stF n fs f) pb win rb (win + 1) := h5.putFrame q
      have c6 : Chg F w (wr.setCell ⟨sb, 1, none⟩ (.int .i64 (q : Int))) := c5.thenCell sb 1 _ (unhide HB).f1
      have p6 := p5.same (w' := wr.setCell ⟨sb, 1, none⟩ (.int .i64 (q : Int))) (hG.block _ p5.lt (fun e => (unhide HB).ne1 (by injection e with e; exact e.symm)))
      obtain ⟨tr, hr5⟩ := r5
      have r6 := hr5.grown hG (Ne.symm (unhide HB).ne2)
      have m6 : ∀ i, i < win + 1 → ∃ M, PgMap (wr.setCell ⟨sb, 1, none⟩ (.int .i64 (q : Int))) (mb i) 18 M := fun i hi => by obtain ⟨M, hM⟩ := m5 i hi; exact ⟨M, hM.grown hG ((unhide HB).far i hi).1⟩
      have q6 : ∀ j, lo ≤ j → j < q + 1 → PgMap (wr.setCell ⟨sb, 1, none⟩ (.int .i64 (q : Int))) (mb (j % (win + 1))) 18 (diffL (stF n fs j) (stF n fs (j + 1))) := fun j h1 h2 => (q5 j h1 h2).grown hG ((unhide HB).far _ (Nat.mod_lt j hW)).1
      have HM := hide (cellN_is (w := wr) (v := q + 1) (by rw [hq]; exact k1))
      clear h5 c5 p5 hr5 m5 q5 n5 k1 f1 k291 hG
      generalize wr.setCell ⟨sb, 1, none⟩ (.int .i64 (q : Int)) = V2 at *
      have k1 := h6.c1
      have k291 := h6.c291
      refine wp_moves_reads_tail0 9 (by kernel_rfl) (by kernel_rfl) (by kernel_rfl) (by kernel_rfl) ?_
      simp only [List.take_succ_cons, List.take_zero, List.drop_succ_cons, List.drop_zero]
      repeat still_step
      refine wpStill_nil ?_
      have hsl : V2.drew.cell? ⟨rb, q % (win + 1), none⟩ = some (.map (some (mb (q % (win + 1))))) := by
        rw [show V2.drew.cell? ⟨rb, q % (win + 1), none⟩ = V2.cell? ⟨rb, q % (win + 1), none⟩ from rfl, r6.cell]
        simp [Nat.mod_lt q hW]
      have H6 := hide (And.intro h6 (And.intro c6 (And.intro p6 (And.intro r6 (And.intro m6 q6)))))
      clear h6 c6 p6 r6 m6 q6
      go_wp2_with fail
      refine (rat_pg rb (win + 1) q (mb (q % (win + 1))) V2.drew hW hsl).mono ?_
      rintro e w7 ⟨rfl, hb7⟩
      obtain ⟨h6, c6, p6, r6, m6, q6⟩ := unhide H6
      have hB7 : Below V2.heap.size V2 w7 := ⟨hb7.os, hb7.tape, hb7.output, hb7.size, hb7.block⟩
      obtain ⟨M0, D0, ho0, hD0⟩ := m6 (q % (win + 1)) (Nat.mod_lt q hW)
      have hml : mb (q % (win + 1)) < V2.heap.size := by obtain ⟨es, c, hbb, _⟩ := ho0; exact (Array.getElem?_eq_some_iff.1 hbb).1
      have ho7 : w7.ownsMap Tryz.prog 3 pgElem (mb (q % (win + 1))) 18 D0 := by
        obtain ⟨es, c, hbb, hr⟩ := ho0
        exact ⟨es, c, (hB7.block _ hml).trans hbb, hr⟩
      clear h6 c6 p6 r6 m6 q6 ho0 hD0
      go_wp2_with (first | (refine wpList_clear_own rfl _ 248 3 104 rfl Tryz.underlying248 pgElem (mb (q % (win + 1))) 18 D0 rfl ho7 ?_; intro w8 ho8 hg8 hs8))
      try go_frame
      go_roundw
      case rel =>
        obtain ⟨h6, c6, p6, r6, m6, q6⟩ := unhide H6
        have hfar := (unhide HB).far (q % (win + 1)) (Nat.mod_lt q hW)
        have hk : ∀ b, b < V2.heap.size → b ≠ mb (q % (win + 1)) → w8.heap[b]? = V2.heap[b]? := fun b hb hne => (hg8.block b (by have := hB7.size; omega) (fun e => hne (by injection e))).trans (hB7.block b hb)
        have hz : V2.heap.size ≤ w8.heap.size := by rw [hs8]; exact hB7.size
        have n8 : PgMap w8 (mb (q % (win + 1))) 0 (fun _ => none) := ⟨_, ho8, PgD.empty⟩
        refine ⟨q, by omega, by omega, h6.same (hk _ h6.lt (Ne.symm hfar.1)), ?_, p6.same (hk _ p6.lt (Ne.symm hfar.2.1)), ⟨tr, (hk _ r6.lt (Ne.symm hfar.2.2.1)).trans r6⟩, ?_, ?_, n8⟩
        · exact ⟨(hg8.os.trans hB7.os).trans c6.os, (hg8.tape.trans hB7.tape).trans c6.tape, (hg8.output.trans hB7.output).trans c6.output, Nat.le_trans c6.size hz, fun b hb hF => (hk b (by have := c6.size; omega) (fun e => hF (by rw [e]; exact hfar.2.2.2))).trans (c6.block b hb hF)⟩
        · intro i hi
          by_cases e : i = q % (win + 1)
          · subst e; exact ⟨_, n8.mono (by omega)⟩
          · obtain ⟨M, hM⟩ := m6 i hi
            exact ⟨M, hM.same (hk _ hM.lt (fun e' => e ((unhide HB).inj i _ hi (Nat.mod_lt q hW) e')))⟩
        · intro j h1 h2
          have hM := q6 j h1 (by omega)
          refine hM.same (hk _ hM.lt (fun e' => ?_))
          exact mod_apart (f := j) (g := q) (W := win + 1) h2 (by omega) ((unhide HB).inj _ _ (Nat.mod_lt j hW) (Nat.mod_lt q hW) e')
      case measure =>
        obtain ⟨h6, _⟩ := unhide H6
        have hfar := (unhide HB).far (q % (win + 1)) (Nat.mod_lt q hW)
        have h8 : StBlk w8 sb 250 n q (stF n fs f) pb win rb (win + 1) := h6.same ((hg8.block sb (by have := hB7.size; have := h6.lt; omega) (fun e => hfar.1 (by injection e with e; exact e.symm))).trans (hB7.block sb h6.lt))
        have e8 := cellN_is h8.c1
        rw [e8, unhide HM]; omega
    · have hkf : k = f := by omega
      subst hkf
      have hgI : decide ((k : Int) < (k : Int)) = false := by simp
      have H6 := hide (And.intro h5 (And.intro c5 (And.intro p5 (And.intro r5 (And.intro m5 (And.intro q5 n5))))))
      clear h5 c5 p5 r5 m5 q5 n5
      go_wp2
      go_end0
      obtain ⟨h5, c5, p5, r5, m5, q5, n5⟩ := unhide H6
      have g := unhide HB
      exact ⟨rfl, c5, h5, p5.less (Nat.le_refl _) hf, r5, m5, q5, n5, g.inj, g.far, g.ne1, g.ne2, g.ne3, g.f1, g.f2, g.f3⟩
end Go.Proofs.YtandblanpafjoabGreatDoor

