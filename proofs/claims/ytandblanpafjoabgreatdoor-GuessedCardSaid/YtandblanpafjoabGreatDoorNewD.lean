import Derived.Test.YtandblanpafjoabGreatDoorNewC
namespace Go.Proofs.YtandblanpafjoabGreatDoor
open Go.RowKit Go.Extern.Stop Go.Stop Go.Extern Go.Maps

/-! Making a store that keeps pages. -/
theorem PgMap.new (w : World) : PgMap (w.alloc (.map #[] 0)) w.heap.size 0 (fun _ => none) := ⟨.map [], World.ownsMap_made w _ _ _, PgD.empty⟩
/-- The first k places of the ring have maps. -/
structure MadeTo (w : World) (rb win k : Nat) (B : Nat) (mb : Nat → Nat) : Prop where
  blk : ∃ cs, Blk w rb cs 248 ∧ cs.size = win + 1 ∧ ∀ i, i < k → cs[i]? = some (.map (some (mb i)))
  maps : ∀ i, i < k → PgMap w (mb i) 0 (fun _ => none) ∧ B ≤ mb i
  inj : ∀ i j, i < k → j < k → mb i = mb j → i = j
theorem MadeTo.put {w W1 : World} {rb win k B : Nat} {mb : Nat → Nat} (h : MadeTo w rb win k B mb) (hk : k < win + 1) (hB : rb < B) (hBw : B ≤ w.heap.size) (hb : Below (w.heap.size + 1) (w.alloc (.map #[] 0)) W1) : MadeTo (W1.setCell ⟨rb, k, none⟩ (.map (some w.heap.size))) rb win (k + 1) B (fun i => if i = k then w.heap.size else mb i) := by
  obtain ⟨cs, h1, h2, h3⟩ := h.blk
  have hsame : ∀ j, j < w.heap.size → W1.heap[j]? = w.heap[j]? := fun j hj => (hb.block j (by omega)).trans (((Below.refl _ w).alloc (Nat.le_refl _) _).block j hj)
  have hlt : ∀ i, i < k → mb i < w.heap.size := fun i hi => (h.maps i hi).1.lt
  refine ⟨⟨cs.setIfInBounds k (.map (some w.heap.size)), Blk.set (show Blk W1 rb cs 248 from (hsame rb (by omega)).trans h1) k _, by simpa using h2, fun i hi => ?_⟩, fun i hi => ?_, fun i j hi hj e => ?_⟩
  · by_cases e : i = k
    · subst e; simp [h2, hk]
    · rw [Array.getElem?_setIfInBounds_ne (by omega)]
      simp only [if_neg e]
      exact h3 i (by omega)
  · by_cases e : i = k
    · simp only [if_pos e]
      refine ⟨(PgMap.new w).same ?_, hBw⟩
      rw [heap_setCell_other _ _ _ _ (fun e => by have : w.heap.size = rb := e; omega)]
      exact hb.block _ (by omega)
    · simp only [if_neg e]
      have := h.maps i (by omega)
      refine ⟨this.1.same ?_, this.2⟩
      rw [heap_setCell_other _ _ _ _ (fun e => by have : mb i = rb := e; have := (h.maps i (by omega)).2; omega)]
      exact hsame _ (hlt i (by omega))
  · by_cases e1 : i = k
    · by_cases e2 : j = k
      · omega
      · simp only [if_pos e1, if_neg e2] at e
        have := hlt j (by omega); omega
    · by_cases e2 : j = k
      · simp only [if_neg e1, if_pos e2] at e
        have := hlt i (by omega); omega
      · simp only [if_neg e1, if_neg e2] at e
        exact h.inj i j (by omega) (by omega) e
theorem MadeTo.all {w : World} {rb win B : Nat} {mb : Nat → Nat} (h : MadeTo w rb win (win + 1) B mb) : Blk w rb ((List.range (win + 1)).map fun i => Value.map (some (mb i))).toArray 248 := by
  obtain ⟨cs, h1, h2, h3⟩ := h.blk
  have e : cs = ((List.range (win + 1)).map fun i => Value.map (some (mb i))).toArray := by
    apply Array.ext_getElem?
    intro i
    by_cases hi : i < win + 1
    · rw [h3 i hi]; simp [hi]
    · rw [Array.getElem?_eq_none (by omega), Array.getElem?_eq_none (by simp; omega)]
  rw [← e]; exact h1

set_option maxRecDepth 10000 in
set_option maxHeartbeats 1600000 in
theorem newDelta_any (C : List Value) (win : Nat) (w : World) (hC : C.length = 291) (hw : win ≤ 100) :
    Calls Tryz.prog 112 #[.agg C.toArray, .int .i64 (win : Int)] w fun e w' => ∃ sb rb mb, e = .returned (.pointer (some ⟨sb, 0, none⟩)) ∧ w.heap.size ≤ rb ∧ rb < sb ∧ Blk w' sb (C ++ [Value.slice (some ⟨rb, 0, none⟩) (win + 1) (win + 1)]).toArray 250 ∧ MadeTo w' rb win (win + 1) (sb + 1) mb ∧ Below w.heap.size w w' := by
  have bB : Below w.heap.size w (w.alloc (.cells C.toArray 228)) := (Below.refl _ w).alloc (Nat.le_refl _) _
  have xB : Blk (w.alloc (.cells C.toArray 228)) w.heap.size C.toArray 228 := Blk.new _ _ _
  have hsz : (Tryz.prog.info? 228).map (·.size) = some C.length := by rw [hC]; exact (zero_of_info Tryz.infoPast).2
  have hw1 : IntKind.i64.wrap ((win : Int) + 1) = (win : Int) + 1 := i64_id _ (by omega) (by omega)
  go_enter Tryz.func112, Tryz.ntmps112
  go_wp2_with fail
  generalize w.alloc (.cells C.toArray 228) = W1 at *
  have hr1 : W1.rangeAt w.heap.size 0 C := Blk.rangeAt (a := []) (c := []) (by simpa using xB)
  refine wp_region_noPanic ?_
  refine wp_held_tail 3 4 (fun W' => W'.rangeAt w.heap.size 0 C) (by kernel_rfl) (by decide) (by kernel_rfl) (by kernel_rfl) (by kernel_rfl) (fun _ _ _ _ _ h => h) ((World.rangeAt_drew _ _ _ _).2 hr1) ?_
  simp only [List.take_succ_cons, List.take_zero, List.drop_succ_cons, List.drop_zero]
  refine wpHeld_load_mid rfl 228 _ rfl w.heap.size 0 rfl C _ (fun w' hS => hS) Tryz.underlying228 rfl hsz ?_
  refine wpHeld_op ?y1 rfl ?z1 ?_
  case z1 => intro w' hS; go_simp; rfl
  refine wpHeld_op ?y2 rfl ?z2 ?_
  case z2 => intro w' hS; go_simp; rfl
  unfold wpHeld
  refine wpAnyH_all (rs := [3]) (by kernel_rfl) (by simp) ?_
  intro j hj
  obtain rfl : j = 3 := by simpa using hj
  refine wpOp_of_list _ rfl rfl ?_
  go_wp2_with fail
  have hrp := ringPg_any (win + 1) W1.drew (by omega)
  rw [show ((win + 1 : Nat) : Int) = (win : Int) + 1 by omega] at hrp
  refine hrp.mono ?_
  clear hrp
  rintro e w2 ⟨rb, rfl, hrb, ⟨D, hD, hDs⟩, hb2⟩
  have hB2 : Below W1.heap.size W1 w2 := ⟨hb2.os, hb2.tape, hb2.output, hb2.size, hb2.block⟩
  go_wp2_with fail
  refine ⟨rangeAt_same hr1 (hB2.block _ xB.lt), ⟨by kernel_rfl, ?_⟩⟩
  have hbd := build_st 250 _ Tryz.infoDelta Tryz.underlying250 (by kernel_rfl) C hC (.slice (some ⟨rb, 0, none⟩) (win + 1) (win + 1))
  have hdl := hD.lt
  have H2 := hide (And.intro hB2 (And.intro hD (And.intro hDs (And.intro bB hrb))))
  clear hB2 hD hDs hb2 hr1 xB bB hrb
  obtain ⟨E, hE⟩ : ∃ E, C ++ [Value.slice (some ⟨rb, 0, none⟩) (win + 1) (win + 1)] = E := ⟨_, rfl⟩
  rw [hE] at hbd
  have hE291 : E[291]? = some (.slice (some ⟨rb, 0, none⟩) (win + 1) (win + 1)) := by rw [← hE, List.getElem?_append_right (by omega), hC]; rfl
  have HE := hide hE
  clear hE
  change wpList _ _ _ _ _ _
  go_simp
  refine wpList_build rfl 250 _ rfl #[(0, .agg C.toArray), (1, .agg #[.slice (some ⟨rb, 0, none⟩) (win + 1) (win + 1)])] (by simp [Act.eval]) E.toArray (hbd _) ?_
  clear hbd
  go_wp2_with fail
  refine NoPanic.normal ?_
  have hx3 : Blk (w2.alloc (.cells E.toArray 250)) w2.heap.size E.toArray 250 := Blk.new _ _ _
  have hb3 : Below w2.heap.size w2 (w2.alloc (.cells E.toArray 250)) := (Below.refl _ w2).alloc (Nat.le_refl _) _
  have hz3 : (w2.alloc (.cells E.toArray 250)).heap.size = w2.heap.size + 1 := by simp
  go_wp2_with fail
  generalize w2.alloc (.cells E.toArray 250) = W3 at *
  have H3 := hide (And.intro hx3 (And.intro hb3 hz3))
  clear hx3 hb3 hz3
  go_loopw [15] (fun i wr => ∃ (k : Nat) (mb : Nat → Nat), k ≤ win + 1 ∧ i = .int .i64 (k : Int) ∧ Below w.heap.size w wr ∧ w2.heap.size + 1 ≤ wr.heap.size ∧ Blk wr w2.heap.size E.toArray 250 ∧ MadeTo wr rb win k (w2.heap.size + 1) mb) (fun i _ => win + 1 - (intOf i).toNat)
  case atStart =>
    obtain ⟨hB2, hD, hDs, bB, hrb⟩ := unhide H2
    obtain ⟨hx3, hb3, hz3⟩ := unhide H3
    have h1 := bB.size
    have h2 := hB2.size
    exact ⟨0, fun _ => 0, by omega, rfl, (bB.trans (hB2.mono h1)).trans (hb3.mono (by omega)), by omega, hx3, ⟨⟨D, (hb3.block rb hdl).trans hD, by omega, fun i hi => by omega⟩, fun i hi => by omega, fun i j hi => by omega⟩⟩
  case round =>
    obtain ⟨k, mb, hk, rfl, hb, hsz4, hx, hM⟩ := hrel
    have HM := hide (And.intro hb hM)
    clear hb hM
    by_cases hlt : k < win + 1
    · have hd : decide ((k : Int) < (win : Int) + 1) = true := by simp; omega
      have c291 : wr.cell? ⟨w2.heap.size, 291, none⟩ = some (.slice (some ⟨rb, 0, none⟩) (win + 1) (win + 1)) := by rw [hx.cell]; simpa using hE291
      have hmm := run_makeMap (P := Tryz.prog) 248
      go_wp2_with fail
      obtain ⟨hb, hM⟩ := unhide HM
      obtain ⟨cs, hc1, hc2, _⟩ := hM.blk
      have hkm : k % (win + 1) = k := Nat.mod_eq_of_lt hlt
      have hbA : Below wr.heap.size wr (wr.alloc (.map #[] 0)) := (Below.refl _ wr).alloc (Nat.le_refl _) _
      have hrl : rb < wr.heap.size := hc1.lt
      have hrA : (wr.alloc (.map #[] 0)).cell? ⟨rb, k % (win + 1), none⟩ = some cs[k] := by rw [hbA.cell (p := ⟨rb, k % (win + 1), none⟩) hrl, hkm, hc1.cell, Array.getElem?_eq_getElem (by omega)]
      have hfA : (wr.alloc (.map #[] 0)).frozen? ⟨rb, k % (win + 1), none⟩ = false := (hbA.frozen (p := ⟨rb, k % (win + 1), none⟩) hrl).trans (hc1.frozen _)
      refine (rput_pg rb (win + 1) k wr.heap.size _ (wr.alloc (.map #[] 0)) (by omega) hrA hfA).mono ?_
      rintro e w5 ⟨rfl, W5, hb5, rfl⟩
      rw [hkm]
      have hzA : (wr.alloc (.map #[] 0)).heap.size = wr.heap.size + 1 := by simp
      rw [hzA] at hb5
      have hadd := i64_id ((k : Int) + 1) (by omega) (by omega)
      have hM5 := hM.put hlt (by omega) hsz4 hb5
      have hz5 := hb5.size
      have hrw : w.heap.size ≤ rb := by
        obtain ⟨hB2, hD, hDs, bB, hrb⟩ := unhide H2
        have h1 := bB.size
        have h2 : W1.drew.heap.size = W1.heap.size := rfl
        omega
      have hb6 : Below w.heap.size w (W5.setCell ⟨rb, k, none⟩ (.map (some wr.heap.size))) := (((hb.trans (hbA.mono hb.size)).trans (hb5.mono (by have := hb.size; omega))).setCell (p := ⟨rb, k, none⟩) hrw _)
      have hx6 : Blk (W5.setCell ⟨rb, k, none⟩ (.map (some wr.heap.size))) w2.heap.size E.toArray 250 := Blk.setOther (show Blk W5 w2.heap.size E.toArray 250 from (hb5.block _ (by omega)).trans ((hbA.block _ (by omega)).trans hx)) ⟨rb, k, none⟩ _ (by simp; omega)
      have hz6 : w2.heap.size + 1 ≤ (W5.setCell ⟨rb, k, none⟩ (.map (some wr.heap.size))).heap.size := by simp; omega
      have H6 := hide (And.intro hb6 (And.intro hx6 (And.intro hM5 hz6)))
      clear hb hM hbA hrA hfA hzA hb5 hM5 hz5 hb6 hx6 hx hz6 hc1
      generalize W5.setCell ⟨rb, k, none⟩ (.map (some wr.heap.size)) = W6 at *
      go_wp2
      obtain ⟨hb6, hx6, hM5, hz6⟩ := unhide H6
      exact ⟨⟨k + 1, _, by omega, by go_num, hb6, hz6, hx6, hM5⟩, by simp [intOf]; omega⟩
    · have hd : decide ((k : Int) < (win : Int) + 1) = false := by simp; omega
      have hke : k = win + 1 := by omega
      have HKE := hide hke
      clear hke
      go_wp2
      go_ret
      obtain ⟨hb, hM⟩ := unhide HM
      obtain ⟨hB2, hD, hDs, bB, hrb⟩ := unhide H2
      have h1 := bB.size
      have h2 : W1.drew.heap.size = W1.heap.size := rfl
      rw [unhide HKE] at hM
      exact ⟨w2.heap.size, rb, mb, rfl, by omega, hdl, by rw [unhide HE]; exact hx, hM, hb⟩
end Go.Proofs.YtandblanpafjoabGreatDoor
