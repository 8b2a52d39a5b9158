import Derived.Test.YtandblanpafjoabGreatDoorChg
import Derived.Test.YtandblanpafjoabGreatDoorTail
import Derived.Test.YtandblanpafjoabGreatDoorHeapP
namespace Go.Proofs.YtandblanpafjoabGreatDoor
open Go.RowKit Go.Extern.Stop Go.Stop Go.Extern

/-! The order of parcels. -/
def cmpI (a b : Int) : Int := if a < b then -1 else if b < a then 1 else 0
def orI (a b : Int) : Int := if a = 0 then b else a
def ordI (d1 t1 d2 t2 : Int) : Int := orI (cmpI d1 d2) (cmpI t1 t2)
theorem ordI_lt (d1 t1 d2 t2 : Nat) : decide (ordI d1 t1 d2 t2 < 0) = decide (d1 < d2 ∨ (d1 = d2 ∧ t1 < t2)) := by
  apply decide_eq_decide.2
  rcases Nat.lt_trichotomy d1 d2 with h | h | h
  · have e : cmpI d1 d2 = -1 := by unfold cmpI; rw [if_pos (by omega)]
    unfold ordI orI; rw [e]; simp; omega
  · subst h
    have e : cmpI d1 d1 = 0 := by unfold cmpI; rw [if_neg (by omega), if_neg (by omega)]
    unfold ordI orI; rw [e, if_pos rfl]
    rcases Nat.lt_trichotomy t1 t2 with k | k | k
    · have e : cmpI t1 t2 = -1 := by unfold cmpI; rw [if_pos (by omega)]
      rw [e]; simp; omega
    · subst k
      have e : cmpI t1 t1 = 0 := by unfold cmpI; rw [if_neg (by omega), if_neg (by omega)]
      rw [e]; simp
    · have e : cmpI t1 t2 = 1 := by unfold cmpI; rw [if_neg (by omega), if_pos (by omega)]
      rw [e]; simp; omega
  · have e : cmpI d1 d2 = 1 := by unfold cmpI; rw [if_neg (by omega), if_pos (by omega)]
    unfold ordI orI; rw [e]; simp; omega

set_option maxHeartbeats 400000 in
theorem nan_any (a : Int) (w : World) : Calls Tryz.prog 110 #[.int .i64 a] w fun e w' => e = .returned (.bool false) ∧ w' = w := by
  have h : (a != a) = false := by simp
  go_enter Tryz.func110, Tryz.ntmps110
  go_wp2
  go_ret
  exact ⟨rfl, rfl⟩
set_option maxHeartbeats 400000 in
theorem cmp_any (a b : Int) (w : World) : Calls Tryz.prog 91 #[.int .i64 a, .int .i64 b] w fun e w' => e = .returned (.int .i64 (cmpI a b)) ∧ w' = w := by
  have hc : cmpI a b = if a < b then -1 else if b < a then 1 else 0 := rfl
  generalize cmpI a b = c at *
  go_enter Tryz.func91, Tryz.ntmps91
  go_wp2_with fail
  refine (nan_any a w).mono ?_
  rintro e w1 ⟨rfl, rfl⟩
  go_wp2_with fail
  refine (nan_any b w1).mono ?_
  rintro e w2 ⟨rfl, rfl⟩
  by_cases h1 : a < b
  · have d1 : decide (a < b) = true := by simp [h1]
    rw [if_pos h1] at hc
    clear h1
    subst hc
    go_wp2
    go_ret
    exact ⟨rfl, rfl⟩
  · have d1 : decide (a < b) = false := by simp [h1]
    rw [if_neg h1] at hc
    by_cases h2 : b < a
    · have d2 : decide (b < a) = true := by simp [h2]
      rw [if_pos h2] at hc
      clear h1 h2
      subst hc
      go_wp2
      go_ret
      exact ⟨rfl, rfl⟩
    · have d2 : decide (b < a) = false := by simp [h2]
      rw [if_neg h2] at hc
      clear h1 h2
      subst hc
      go_wp2
      go_ret
      exact ⟨rfl, rfl⟩
set_option maxHeartbeats 400000 in
theorem or_any (g : Nat) (a b : Int) (w : World) (h0 : w.cell? ⟨g, 0, none⟩ = some (.int .i64 a)) (h1 : w.cell? ⟨g, 1, none⟩ = some (.int .i64 b)) :
    Calls Tryz.prog 90 #[.slice (some ⟨g, 0, none⟩) 2 2] w fun e w' => e = .returned (.int .i64 (orI a b)) ∧ w' = w := by
  obtain ⟨r, hr⟩ : ∃ r, orI a b = r := ⟨_, rfl⟩
  rw [hr]
  have HR := hide hr
  clear hr
  go_enter Tryz.func90, Tryz.ntmps90
  go_wp2_with fail
  go_loopw [8] (fun i wr => wr = w ∧ (i = .int .i64 0 ∨ (i = .int .i64 1 ∧ a = 0) ∨ (i = .int .i64 2 ∧ a = 0 ∧ b = 0))) (fun i _ => 2 - (intOf i).toNat)
  case atStart => exact ⟨rfl, .inl rfl⟩
  case round =>
    obtain ⟨rfl, rfl | ⟨rfl, ha⟩ | ⟨rfl, ha, hb⟩⟩ := hrel
    · by_cases ha : a = 0
      · have hd : (a != 0) = false := by simp [ha]
        have HA := hide ha
        clear ha
        go_wp2
        exact ⟨⟨by trivial, .inr (.inl ⟨by go_num, unhide HA⟩)⟩, by simp [intOf]⟩
      · have hd : (a != 0) = true := by simp [ha]
        have HA := hide ha
        clear ha
        go_wp2
        go_ret
        exact ⟨by rw [← unhide HR, orI, if_neg (unhide HA)]; rfl, rfl⟩
    · have HA := hide ha
      clear ha
      by_cases hb : b = 0
      · have hd : (b != 0) = false := by simp [hb]
        have HB := hide hb
        clear hb
        go_wp2
        exact ⟨⟨by trivial, .inr (.inr ⟨by go_num, unhide HA, unhide HB⟩)⟩, by simp [intOf]⟩
      · have hd : (b != 0) = true := by simp [hb]
        have HB := hide hb
        clear hb
        go_wp2
        go_ret
        exact ⟨by rw [← unhide HR, orI, if_pos (unhide HA)]; rfl, rfl⟩
    · have HA := hide ha
      have HB := hide hb
      clear ha hb
      go_wp2
      go_ret
      exact ⟨by rw [← unhide HR, orI, if_pos (unhide HA), unhide HB]; rfl, rfl⟩
set_option maxRecDepth 10000 in
set_option maxHeartbeats 800000 in
theorem order_any (to1 d1 n1 to2 d2 n2 : Int) (v1 v2 : Value) (w : World) :
    Calls Tryz.prog 58 #[.agg #[.int .i64 to1, .int .i64 d1, v1, .int .i64 n1], .agg #[.int .i64 to2, .int .i64 d2, v2, .int .i64 n2]] w fun e w' => e = .returned (.int .i64 (ordI d1 n1 d2 n2)) ∧ Below w.heap.size w w' := by
  have bB : Below w.heap.size w ((w.alloc (.cells #[.int .i64 to1, .int .i64 d1, v1, .int .i64 n1] 127)).alloc (.cells #[.int .i64 to2, .int .i64 d2, v2, .int .i64 n2] 127)) := ((Below.refl _ w).alloc (Nat.le_refl _) _).alloc (by simp) _
  have x1 : Blk ((w.alloc (.cells #[.int .i64 to1, .int .i64 d1, v1, .int .i64 n1] 127)).alloc (.cells #[.int .i64 to2, .int .i64 d2, v2, .int .i64 n2] 127)) w.heap.size #[.int .i64 to1, .int .i64 d1, v1, .int .i64 n1] 127 := (Blk.new w _ _).alloc _
  have x2 : Blk ((w.alloc (.cells #[.int .i64 to1, .int .i64 d1, v1, .int .i64 n1] 127)).alloc (.cells #[.int .i64 to2, .int .i64 d2, v2, .int .i64 n2] 127)) (w.heap.size + 1) #[.int .i64 to2, .int .i64 d2, v2, .int .i64 n2] 127 := by
    have := Blk.new (w.alloc (.cells #[.int .i64 to1, .int .i64 d1, v1, .int .i64 n1] 127)) #[.int .i64 to2, .int .i64 d2, v2, .int .i64 n2] 127
    simpa using this
  obtain ⟨V, hV⟩ : ∃ V, (w.alloc (.cells #[.int .i64 to1, .int .i64 d1, v1, .int .i64 n1] 127)).alloc (.cells #[.int .i64 to2, .int .i64 d2, v2, .int .i64 n2] 127) = V := ⟨_, rfl⟩
  rw [hV] at bB x1 x2
  go_enter Tryz.func58, Tryz.ntmps58
  go_wp2_with fail
  try rw [hV]
  clear hV
  have a1 : V.cell? ⟨w.heap.size, 1, none⟩ = some (.int .i64 d1) := x1.cell 1
  have a3 : V.cell? ⟨w.heap.size, 3, none⟩ = some (.int .i64 n1) := x1.cell 3
  have b1 : V.cell? ⟨w.heap.size + 1, 1, none⟩ = some (.int .i64 d2) := x2.cell 1
  have b3 : V.cell? ⟨w.heap.size + 1, 3, none⟩ = some (.int .i64 n2) := x2.cell 3
  have HX := hide bB
  clear bB x1 x2
  refine wp_moves_reads_tail0 12 (by kernel_rfl) (by kernel_rfl) (by kernel_rfl) (by kernel_rfl) ?_
  simp only [List.take_succ_cons, List.take_zero, List.drop_succ_cons, List.drop_zero]
  still_step
  still_step
  still_step
  still_step
  still_step
  still_step
  still_call (cmp_any d1 d2 V.drew)
  still_step
  still_step
  still_step
  still_step
  still_call (cmp_any n1 n2 V.drew)
  refine wpStill_nil ?_
  go_wp2_with fail
  have hB2 : Below w.heap.size w (V.drew.alloc (.cells #[.int .i64 (cmpI d1 d2), .int .i64 (cmpI n1 n2)] 3)) := (unhide HX).drew.alloc ((unhide HX).size) _
  refine (or_any V.heap.size (cmpI d1 d2) (cmpI n1 n2) _ (by simp) (by simp)).mono ?_
  rintro e w3 ⟨rfl, rfl⟩
  go_wp2
  go_ret
  exact ⟨rfl, hB2⟩
end Go.Proofs.YtandblanpafjoabGreatDoor
