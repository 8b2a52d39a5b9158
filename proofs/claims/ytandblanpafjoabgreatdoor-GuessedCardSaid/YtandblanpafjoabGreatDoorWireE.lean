import Derived.Test.YtandblanpafjoabGreatDoorWireD
namespace Go.Proofs.YtandblanpafjoabGreatDoor
open Go.RowKit Go.Extern.Stop Go.Stop Go.Extern

/-! container/heap over a queue whose slice lies in the cell (nb, o). -/
/-- The queue behind its pointer. -/
structure QP (w : World) (nb o g cap : Nat) (bl : Nat → Nat) (l : List FlyM) : Prop where
  cell : w.cell? ⟨nb, o, none⟩ = some (.slice (some ⟨g, 0, none⟩) l.length cap)
  q : QAt w g cap bl l
  ne : nb ≠ g
  fro : w.frozen? ⟨nb, o, none⟩ = false
theorem QP.lt {w : World} {nb o g cap : Nat} {bl : Nat → Nat} {l : List FlyM} (h : QP w nb o g cap bl l) : nb < w.heap.size := World.block_lt_of_cell? w _ h.cell
theorem QP.below {w w' : World} {nb o g cap : Nat} {bl : Nat → Nat} {l : List FlyM} (h : QP w nb o g cap bl l) (hb : Below w.heap.size w w') : QP w' nb o g cap bl l :=
  ⟨(hb.cell (p := ⟨nb, o, none⟩) h.lt).trans h.cell, h.q.same (hb.block g h.q.lt), h.ne, (hb.frozen (p := ⟨nb, o, none⟩) h.lt).trans h.fro⟩
theorem QP.chg {w w' : World} {nb o g cap : Nat} {bl : Nat → Nat} {l l' : List FlyM} (h : QP w nb o g cap bl l) (hc : Chg (fun k => k = g) w w') (hq : QAt w' g cap bl l') (hl : l'.length = l.length) : QP w' nb o g cap bl l' :=
  ⟨by rw [hl, ← h.cell]; exact World.cell?_of_block (a := ⟨nb, o, none⟩) (hc.block nb h.lt h.ne), hq, h.ne, by rw [← h.fro]; exact World.frozen?_of_block (a := ⟨nb, o, none⟩) (hc.block nb h.lt h.ne)⟩
theorem half_int (j : Nat) : ((j : Int) - 1).tdiv 2 = (((j - 1) / 2 : Nat) : Int) := by
  rcases j with _ | j
  · rfl
  · rw [show ((j + 1 : Nat) : Int) - 1 = (j : Int) by omega, Int.tdiv_eq_ediv_of_nonneg (by omega)]
    simp

set_option maxRecDepth 10000 in
set_option maxHeartbeats 800000 in
theorem up_any (nb o g cap j t : Nat) (bl : Nat → Nat) (l : List FlyM) (w : World) (h : QP w nb o g cap bl l) (hj : j < l.length) (ht : j < t) (hlen : l.length ≤ 1000000) :
    Calls Tryz.prog 83 #[.iface 125 (.pointer (some ⟨nb, o, none⟩)), .int .i64 (j : Int)] w fun e w' => e = .returned (.tuple #[]) ∧ QP w' nb o g cap bl (upL t l j) ∧ Chg (fun k => k = g) w w' := by
  obtain ⟨R, hR⟩ : ∃ R, upL t l j = R := ⟨_, rfl⟩
  rw [hR]
  have HR := hide hR
  have HQ := hide h
  clear h hR
  go_enter Tryz.func83, Tryz.ntmps83
  go_wp2_with fail
  go_loopw [1] (fun s wr => ∃ (t' : Nat) (l' : List FlyM) (j' : Nat), s = .int .i64 (j' : Int) ∧ j' < t' ∧ j' < l'.length ∧ l'.length ≤ 1000000 ∧ upL t' l' j' = R ∧ QP wr nb o g cap bl l' ∧ Chg (fun k => k = g) w wr) (fun s _ => (intOf s).toNat)
  case atStart => exact ⟨t, l, j, rfl, ht, hj, hlen, unhide HR, unhide HQ, Chg.refl _ _⟩
  case round =>
    obtain ⟨t1, l1, j1, rfl, h1, h2, h3, h4, hq, hc⟩ := hrel
    have hm1 := mLess ⟨nb, o, none⟩ wr _ (loadQ nb o wr _ hq.cell)
    have hw1 := i64_id ((j1 : Int) - 1) (by omega) (by omega)
    have hdv := half_int j1
    obtain ⟨i, hi⟩ : ∃ i, (j1 - 1) / 2 = i := ⟨_, rfl⟩
    rw [hi] at hdv
    have hw2 := i64_id (i : Int) (by omega) (by omega)
    have H4 := hide (And.intro h4 (And.intro hq hc))
    clear h4 hq hc
    by_cases h0 : j1 = 0
    · have hd : ((i : Int) == (j1 : Int)) = true := by rw [beq_iff_eq]; omega
      have HI := hide hi
      clear hi
      go_wp2
      go_end0
      obtain ⟨h4, hq, hc⟩ := unhide H4
      refine ⟨rfl, ?_, hc⟩
      obtain ⟨t2, rfl⟩ : ∃ t2, t1 = t2 + 1 := ⟨t1 - 1, by omega⟩
      simp only [upL, h0, if_true] at h4
      rw [← h4]; exact hq
    · have hd : ((i : Int) == (j1 : Int)) = false := by rw [beq_eq_false_iff_ne]; omega
      have hil : i < l1.length := by omega
      have HI := hide (And.intro hi h0)
      clear hi h0
      go_wp2_with fail
      obtain ⟨h4, hq, hc⟩ := unhide H4
      refine (qless_any g cap j1 i bl l1 wr hq.q h2 hil).mono ?_
      rintro e w2 ⟨rfl, hb2⟩
      have hq2 := hq.below hb2
      have hm2 := mSwap ⟨nb, o, none⟩ w2 _ (loadQ nb o w2 _ hq2.cell)
      have H2 := hide (And.intro hb2 hq2)
      clear hb2 hq2 h4 hq hc hm1
      by_cases hb : before (fl l1 j1) (fl l1 i)
      · have hdb : decide (before (fl l1 j1) (fl l1 i)) = true := decide_eq_true hb
        have HBF := hide hb
        clear hb
        rw [hdb]
        clear hdb
        go_wp2_with fail
        obtain ⟨hb2, hq2⟩ := unhide H2
        refine (qswap_any g cap i j1 bl l1 w2 hq2.q hil h2).mono ?_
        rintro e w3 ⟨rfl, hq3, hc3⟩
        have H3 := hide (And.intro hq3 hc3)
        clear hq3 hc3 hb2 hq2
        go_wp2
        obtain ⟨h4, hq, hc⟩ := unhide H4
        obtain ⟨hb2, hq2⟩ := unhide H2
        obtain ⟨hq3, hc3⟩ := unhide H3
        obtain ⟨hi, h0⟩ := unhide HI
        refine ⟨⟨t1 - 1, swapL l1 i j1, i, by first | rfl | go_num, by omega, by rw [swapL_len]; exact hil, by rw [swapL_len]; exact h3, ?_, hq2.chg hc3 hq3 (swapL_len _ _ _), (hc.thenBelow (hb2.mono hc.size)).trans hc3 (fun _ _ h => h)⟩, by simp [intOf]; omega⟩
        obtain ⟨t2, rfl⟩ : ∃ t2, t1 = t2 + 1 := ⟨t1 - 1, by omega⟩
        simp only [upL, h0, if_false, hi, unhide HBF, if_true] at h4
        exact h4
      · have hdb : decide (before (fl l1 j1) (fl l1 i)) = false := decide_eq_false hb
        have HBF := hide hb
        clear hb
        rw [hdb]
        clear hdb
        go_wp2
        go_end0
        obtain ⟨h4, hq, hc⟩ := unhide H4
        obtain ⟨hb2, hq2⟩ := unhide H2
        obtain ⟨hi, h0⟩ := unhide HI
        refine ⟨rfl, ?_, hc.thenBelow (hb2.mono hc.size)⟩
        obtain ⟨t2, rfl⟩ : ∃ t2, t1 = t2 + 1 := ⟨t1 - 1, by omega⟩
        simp only [upL, h0, if_false, hi, unhide HBF] at h4
        rw [← h4]; exact hq2
end Go.Proofs.YtandblanpafjoabGreatDoor
