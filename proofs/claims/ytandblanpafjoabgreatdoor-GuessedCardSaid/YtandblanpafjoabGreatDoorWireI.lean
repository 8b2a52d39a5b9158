import Derived.Test.YtandblanpafjoabGreatDoorWireH
namespace Go.Proofs.YtandblanpafjoabGreatDoor
open Go.RowKit Go.Extern.Stop Go.Stop Go.Extern

/-! The wire within a net's block. -/
structure WireAt (w : World) (nb : Nat) (pv : Value) (lags : List Int) (now sent : Nat) (lv wv : Value) (bl : Nat → Nat) (l : List FlyM) : Prop where
  blk : Blk w nb #[pv, lv, .int .i64 (now : Int), .int .i64 (sent : Int), wv] 83
  own : w.ownsRow 0 127 4 wv l.length (pcls bl l)
  ne : wv.ownBlock ≠ some nb
  lag : w.ownsRow 0 3 1 lv lags.length (lags.map (Value.int .i64))
  lne : lv.ownBlock ≠ some nb
  apart : ∀ k, lv.ownBlock = some k → wv.ownBlock ≠ some k
theorem WireAt.same {w w' : World} {nb : Nat} {pv : Value} {lags : List Int} {now sent : Nat} {lv wv : Value} {bl : Nat → Nat} {l : List FlyM} (h : WireAt w nb pv lags now sent lv wv bl l) (hs : ∀ k, k = nb ∨ lv.ownBlock = some k ∨ wv.ownBlock = some k → w'.heap[k]? = w.heap[k]?) : WireAt w' nb pv lags now sent lv wv bl l :=
  ⟨(hs nb (.inl rfl)).trans h.blk, owns_same h.own (fun k hk => hs k (.inr (.inr hk))), h.ne, owns_same h.lag (fun k hk => hs k (.inr (.inl hk))), h.lne, h.apart⟩
theorem WireAt.lts {w : World} {nb : Nat} {pv : Value} {lags : List Int} {now sent : Nat} {lv wv : Value} {bl : Nat → Nat} {l : List FlyM} (h : WireAt w nb pv lags now sent lv wv bl l) : ∀ k, k = nb ∨ lv.ownBlock = some k ∨ wv.ownBlock = some k → k < w.heap.size := by
  rintro k (rfl | hk | hk)
  · exact h.blk.lt
  · exact (h.lag.lt k hk).2
  · exact (h.own.lt k hk).2
def lagI (lags : List Int) (sent : Nat) : Int := if lags = [] then 1 else lags.getD (sent % lags.length) 0
theorem own_ints {w : World} {B : Nat} {v : Value} {l : List Int} (h : w.ownsRow B 3 1 v l.length (l.map (Value.int .i64))) (hl : 0 < l.length) : ∃ g cap, v = .slice (some ⟨g, 0, none⟩) l.length cap ∧ ∀ j, j < l.length → w.cell? ⟨g, j, none⟩ = some (.int .i64 (l.getD j 0)) := by
  obtain ⟨h1, h2⟩ := h
  rcases h2 with ⟨e, h0⟩ | ⟨g, cap, cur, e, hB, hg, hc, _, hs, ht⟩
  · omega
  · refine ⟨g, cap, e, fun j hj => ?_⟩
    rw [cell_of_row w g j cur 3 (0, 0) hg]
    have := congrArg (fun l => l[j]?) ht
    simp only [Nat.mul_one, List.getElem?_take, hj, if_true, Array.getElem?_toList, List.getElem?_map] at this
    rw [this]
    simp [hj]
theorem own_nil {w : World} {B s : Nat} {e : TypeId} {v : Value} {xs : List Value} {n : Nat} (h : w.ownsRow B e s v n xs) : ∃ ao c, v = .slice ao n c := by
  obtain ⟨h1, h2⟩ := h
  rcases h2 with ⟨e, h0⟩ | ⟨g, cap, cur, e, _⟩
  · exact ⟨none, 0, by rw [h0]; exact e⟩
  · exact ⟨_, cap, e⟩

set_option maxRecDepth 10000 in
set_option maxHeartbeats 800000 in
theorem lag_any (nb : Nat) (pv : Value) (lags : List Int) (now sent : Nat) (lv wv : Value) (bl : Nat → Nat) (l : List FlyM) (w : World) (h : WireAt w nb pv lags now sent lv wv bl l) (hs : sent ≤ 10000000) :
    Calls Tryz.prog 53 #[.pointer (some ⟨nb, 1, none⟩)] w fun e w' => e = .returned (.int .i64 (lagI lags sent)) ∧ Below w.heap.size w w' := by
  have c1 : w.cell? ⟨nb, 1, none⟩ = some lv := h.blk.cell 1
  have c3 : w.cell? ⟨nb, 3, none⟩ = some (.int .i64 (sent : Int)) := h.blk.cell 3
  have hlag := h.lag
  clear h
  by_cases h0 : lags.length = 0
  · have e0 : lags = [] := List.length_eq_zero_iff.1 h0
    have hlg : lagI lags sent = 1 := by unfold lagI; rw [if_pos e0]
    obtain ⟨ao, c, rfl⟩ := own_nil hlag
    rw [hlg]
    rw [h0] at c1
    clear hlag h0 e0 hlg
    go_enter Tryz.func53, Tryz.ntmps53
    go_wp2
    go_ret
    exact ⟨rfl, Below.refl _ _⟩
  · obtain ⟨g, c, rfl, hcells⟩ := own_ints hlag (by omega)
    obtain ⟨m, hm⟩ : ∃ m, sent % lags.length = m := ⟨_, rfl⟩
    have hmL : m < lags.length := by rw [← hm]; exact Nat.mod_lt _ (by omega)
    have hms : m ≤ sent := by rw [← hm]; exact Nat.mod_le _ _
    have hlg : lagI lags sent = lags.getD m 0 := by
      unfold lagI
      rw [if_neg (fun e => h0 (by rw [e]; rfl)), hm]
    have hmod : (sent : Int) % (lags.length : Int) = (m : Int) := by rw [← hm, Int.natCast_emod]
    have hmod2 : (sent : Int).tmod (lags.length : Int) = (m : Int) := by rw [Int.tmod_eq_emod_of_nonneg (by omega), hmod]
    have cm := hcells m hmL
    rw [hlg]
    generalize lags.getD m 0 = z at *
    generalize lags.length = L at *
    have hd : ((L : Int) == 0) = false := by rw [beq_eq_false_iff_ne]; omega
    have hL0 : ¬ L = 0 := h0
    have hL1 : ¬ (L : Int) = 0 := by omega
    have m0 : (0 : Int) ≤ (m : Int) := by omega
    have m1 : (m : Int) < (L : Int) := by omega
    have hwm := i64_id (m : Int) (by omega) (by omega)
    clear hlag hcells h0 hlg hm
    go_enter Tryz.func53, Tryz.ntmps53
    go_wp2_with fail
    refine wp_moves_reads_tail0 16 (by kernel_rfl) (by kernel_rfl) (by kernel_rfl) (by kernel_rfl) ?_
    simp only [List.take_succ_cons, List.take_zero, List.drop_succ_cons, List.drop_zero]
    repeat still_step
    refine wpStill_nil ?_
    go_wp2
    go_ret
    exact ⟨rfl, (Below.refl _ w).drew⟩

set_option maxHeartbeats 400000 in
theorem pass_any (nb : Nat) (pv : Value) (lags : List Int) (now sent : Nat) (lv wv : Value) (bl : Nat → Nat) (l : List FlyM) (w : World) (h : WireAt w nb pv lags now sent lv wv bl l) (hn : now ≤ 10000000) :
    Calls Tryz.prog 30 #[.pointer (some ⟨nb, 1, none⟩)] w fun e w' => e = .returned (.tuple #[]) ∧ WireAt w' nb pv lags (now + 1) sent lv wv bl l ∧ Chg (fun k => k = nb) w w' := by
  have c2 : w.cell? ⟨nb, 2, none⟩ = some (.int .i64 (now : Int)) := h.blk.cell 2
  have f2 : w.frozen? ⟨nb, 2, none⟩ = false := h.blk.frozen 2
  have hw := i64_id ((now : Int) + 1) (by omega) (by omega)
  have HW := hide h
  clear h
  go_enter Tryz.func30, Tryz.ntmps30
  go_wp2
  go_end0
  have h := unhide HW
  have hb := h.blk.set 2 (.int .i64 ((now : Int) + 1))
  refine ⟨rfl, ⟨?_, owns_same h.own (fun k hk => heap_setCell_other _ _ _ _ (fun e => h.ne (by rw [hk, e]))), h.ne, owns_same h.lag (fun k hk => heap_setCell_other _ _ _ _ (fun e => h.lne (by rw [hk, e]))), h.lne, h.apart⟩, Chg.setCell w nb 2 _ rfl⟩
  rw [show ((now + 1 : Nat) : Int) = (now : Int) + 1 by omega]
  exact hb
end Go.Proofs.YtandblanpafjoabGreatDoor
