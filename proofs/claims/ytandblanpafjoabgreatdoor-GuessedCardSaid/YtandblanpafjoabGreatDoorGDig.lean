import Derived.Test.YtandblanpafjoabGreatDoorJoin
import Derived.Deep.RegionWith
namespace Go.Proofs.YtandblanpafjoabGreatDoor
open Go.RowKit Go.Extern.Stop Go.Stop Go.Extern

/-! The digest, as a plain function. -/
def pageL (l : List Int) (k : Nat) : List Int := (l.drop (16 * k)).take 16
def leaf (l : List Int) (i : Nat) : Int := fnvL (pageL l i)
def lev (l : List Int) : Nat → Nat → Int
  | 0, i => if i < 18 then leaf l i else 0
  | r + 1, i => joinI (lev l r (2 * i)) (lev l r (2 * i + 1))
def digL (l : List Int) : Int := lev l 5 0
theorem lev_range (l : List Int) (r i : Nat) : 0 ≤ lev l r i ∧ lev l r i ≤ 4294967295 := by
  cases r with
  | zero =>
    unfold lev
    split
    · exact fnvL_range _
    · omega
  | succ r => exact joinI_range _ _
def lv0 (l : List Int) (k : Nat) : List Int := (List.range 32).map fun i => if i < k then leaf l i else 0
theorem lv0_len (l : List Int) (k : Nat) : (lv0 l k).length = 32 := by simp [lv0]
theorem lv0_succ (l : List Int) (k : Nat) (_hk : k < 18) : lv0 l (k + 1) = (lv0 l k).set k (leaf l k) := by
  apply List.ext_getElem?
  intro i
  by_cases hi : i < 32
  · by_cases h : k = i
    · subst h; simp [lv0, hi]
    · rw [List.getElem?_set_ne h]
      simp only [lv0, List.getElem?_map, List.getElem?_range hi, Option.map_some]
      by_cases h2 : i < k
      · rw [if_pos (by omega), if_pos h2]
      · rw [if_neg (by omega), if_neg h2]
  · rw [List.getElem?_eq_none (by simp [lv0]; omega), List.getElem?_eq_none (by simp [lv0]; omega)]
theorem lv0_get (l : List Int) (j : Nat) (hj : j < 32) : (lv0 l 18).getD j 0 = lev l 0 j := by
  simp [lv0, lev, hj]
theorem lv0_range (l : List Int) (j : Nat) : 0 ≤ (lv0 l 18).getD j 0 ∧ (lv0 l 18).getD j 0 ≤ 4294967295 := by
  by_cases hj : j < 32
  · rw [lv0_get l j hj]; exact lev_range l 0 j
  · rw [List.getD_eq_getElem?_getD, List.getElem?_eq_none (by rw [lv0_len]; omega)]; simp
theorem lv0_zero (l : List Int) : nums .u32 (lv0 l 0) = #[.int .u32 0, .int .u32 0, .int .u32 0, .int .u32 0, .int .u32 0, .int .u32 0, .int .u32 0, .int .u32 0, .int .u32 0, .int .u32 0, .int .u32 0, .int .u32 0, .int .u32 0, .int .u32 0, .int .u32 0, .int .u32 0, .int .u32 0, .int .u32 0, .int .u32 0, .int .u32 0, .int .u32 0, .int .u32 0, .int .u32 0, .int .u32 0, .int .u32 0, .int .u32 0, .int .u32 0, .int .u32 0, .int .u32 0, .int .u32 0, .int .u32 0, .int .u32 0] := rfl
theorem pageL_len (l : List Int) (k : Nat) (hl : l.length = 288) (hk : k < 18) : (pageL l k).length = 16 := by simp [pageL]; omega
theorem pageL_get (l : List Int) (k j : Nat) (hj : j < 16) : (pageL l k).getD j 0 = l.getD (16 * k + j) 0 := by
  simp [pageL, hj, List.getElem?_drop]
theorem pageL_range (l : List Int) (k : Nat) (hr : ∀ j : Nat, 0 ≤ l.getD j 0 ∧ l.getD j 0 ≤ 255) (j : Nat) : 0 ≤ (pageL l k).getD j 0 ∧ (pageL l k).getD j 0 ≤ 255 := by
  by_cases hj : j < 16
  · have : (pageL l k).getD j 0 = l.getD (16 * k + j) 0 := by
      simp [pageL, hj, List.getElem?_drop]
    rw [this]; exact hr _
  · have : (pageL l k).getD j 0 = 0 := by
      simp [pageL, List.getElem?_take, hj]
    rw [this]; omega
theorem getD_set_ne (lw : List Int) (k j : Nat) (v : Int) (h : k ≠ j) : (lw.set k v).getD j 0 = lw.getD j 0 := by
  simp [List.getElem?_set_ne h]
theorem getD_set_eq (lw : List Int) (k : Nat) (v : Int) (h : k < lw.length) : (lw.set k v).getD k 0 = v := by
  simp [h]
theorem inner_step (l lw : List Int) (r k M : Nat) (hlen : lw.length = 32) (hk : k < M) (hM : M ≤ 16) (hnew : ∀ j, j < k → lw.getD j 0 = lev l (r + 1) j) (hold : ∀ j, k ≤ j → j < 2 * M → lw.getD j 0 = lev l r j)
    (hrg : ∀ j : Nat, 0 ≤ lw.getD j 0 ∧ lw.getD j 0 ≤ 4294967295) :
    (lw.set k (joinI (lw.getD (2 * k) 0) (lw.getD (2 * k + 1) 0))).length = 32 ∧ (∀ j, j < k + 1 → (lw.set k (joinI (lw.getD (2 * k) 0) (lw.getD (2 * k + 1) 0))).getD j 0 = lev l (r + 1) j) ∧
    (∀ j, k + 1 ≤ j → j < 2 * M → (lw.set k (joinI (lw.getD (2 * k) 0) (lw.getD (2 * k + 1) 0))).getD j 0 = lev l r j) ∧
    (∀ j : Nat, 0 ≤ (lw.set k (joinI (lw.getD (2 * k) 0) (lw.getD (2 * k + 1) 0))).getD j 0 ∧ (lw.set k (joinI (lw.getD (2 * k) 0) (lw.getD (2 * k + 1) 0))).getD j 0 ≤ 4294967295) := by
  refine ⟨by rw [List.length_set]; exact hlen, fun j hj => ?_, fun j h1 h2 => ?_, fun j => ?_⟩
  · by_cases h : k = j
    · subst h
      rw [getD_set_eq _ _ _ (by omega), hold (2 * k) (by omega) (by omega), hold (2 * k + 1) (by omega) (by omega)]; rfl
    · rw [getD_set_ne _ _ _ _ h]; exact hnew j (by omega)
  · rw [getD_set_ne _ _ _ _ (by omega)]; exact hold j (by omega) h2
  · by_cases h : k = j
    · subst h
      rw [getD_set_eq _ _ _ (by omega)]; exact joinI_range _ _
    · rw [getD_set_ne _ _ _ _ h]; exact hrg j
theorem zeros16 : nums .u8 (List.replicate 16 0) = #[.int .u8 0, .int .u8 0, .int .u8 0, .int .u8 0, .int .u8 0, .int .u8 0, .int .u8 0, .int .u8 0, .int .u8 0, .int .u8 0, .int .u8 0, .int .u8 0, .int .u8 0, .int .u8 0, .int .u8 0, .int .u8 0] := rfl

set_option maxRecDepth 100000 in
set_option maxHeartbeats 400000 in
theorem gdigest_any (l : List Int) (w : World) (hl : l.length = 288) (hr : ∀ j : Nat, 0 ≤ l.getD j 0 ∧ l.getD j 0 ≤ 255) :
    Calls Tryz.prog 49 #[.agg (nums .u8 l)] w fun e w' => e = .returned (.int .u32 (digL l)) ∧ Below w.heap.size w w' := by
  have HI : Hid ((Tryz.prog.info? 106).map (·.size) = some (nums .u8 l).size) := by rw [nums_size, hl]; exact hide (by kernel_rfl)
  go_enter Tryz.func49, Tryz.ntmps49
  go_wp2_with (refine wpList_load_row rfl 106 _ rfl w.heap.size rfl 106 (nums .u8 l) (0, 0) _ (heap_alloc2_old _ _ _) Tryz.underlying106 rfl (unhide HI) ?_)
  go_loopw [9] (fun i wr => ∃ k : Nat, k ≤ 18 ∧ i = .int .i64 k ∧ Below w.heap.size w wr ∧ w.heap.size + 2 ≤ wr.heap.size ∧ Blk wr (w.heap.size + 1) (nums .u32 (lv0 l k)) 164) (fun i _ => 18 - (intOf i).toNat)
  case atStart => exact ⟨0, by omega, rfl, ((Below.refl _ _).alloc (Nat.le_refl _) _).alloc (by simp) _, by simp, by rw [lv0_zero]; exact heap_alloc2_new _ _ _⟩
  case round =>
    obtain ⟨k, hk, rfl, hb, hz, hblk⟩ := hrel
    by_cases hlt : k < 18
    · have hlen := pageL_len l k hl hlt
      have hix : ∀ w, (Instr.index 106 (.agg (nums .u8 l)) (.int .i64 (k : Int))).run Tryz.prog w = .ok (.agg (nums .u8 (pageL l k))) w := fun w => by
        rw [run_index_part w 106 104 18 16 _ _ k Tryz.underlying106 Tryz.underlying104 rfl (by kernel_rfl) hlt, nums_extract, show k * 16 + 16 - k * 16 = 16 by omega, Nat.mul_comm k 16]; rfl
      have HI2 : Hid ((Tryz.prog.info? 104).map (·.size) = some (nums .u8 (pageL l k)).size) := by rw [nums_size, hlen]; exact hide (by kernel_rfl)
      have HS2 : Hid ((nums .u8 (List.replicate 16 0)).size = (nums .u8 (pageL l k)).size) := by rw [nums_size, nums_size, hlen]; exact hide rfl
      have hce : ∀ o, (wr.alloc o).cell? ⟨w.heap.size + 1, k, none⟩ = some (.int .u32 ((lv0 l k).getD k 0)) := fun o => (hblk.alloc o).num k (by rw [lv0_len]; omega)
      have hfe : ∀ o, (wr.alloc o).frozen? ⟨w.heap.size + 1, k, none⟩ = false := fun o => (hblk.alloc o).frozen k
      have HB := hide hblk
      have HR := hide hr
      clear hblk hr
      go_wp2_with (first | (refine wpList_store_new rfl 104 _ _ rfl (nums .u8 (List.replicate 16 0)) (nums .u8 (pageL l k)) rfl rfl (unhide HI2) (unhide HS2) (nums_one _ _) ?_))
      refine (gfnv_any _ 0 16 16 (pageL l k) _ hlen (by omega) ?_ (pageL_range l k (unhide HR))).mono ?_
      · intro j hj
        rw [Nat.zero_add]
        exact (Blk.new wr _ _).num j (by omega)
      rintro e w' ⟨rfl, rfl⟩
      go_wp2_with fail
      go_roundw
      case rel =>
        refine ⟨k + 1, by omega, by go_num, (hb.alloc (by omega) _).setCell (by simp) _, by simp; omega, ?_⟩
        rw [lv0_succ l k hlt]
        exact ((unhide HB).alloc _).put k _
      case measure => simp [intOf]; omega
    · have HK : Hid (k = 18) := hide (by omega)
      have hdk : decide ((k : Int) < 18) = false := by simp; omega
      go_wp2_with fail
      go_loopw [6] (fun n w2 => ∃ (r : Nat) (lv : List Int), r ≤ 5 ∧ n = .int .i64 ((2 ^ (5 - r) : Nat) : Int) ∧ lv.length = 32 ∧ (∀ j, j < 2 ^ (5 - r) → lv.getD j 0 = lev l r j) ∧ (∀ j : Nat, 0 ≤ lv.getD j 0 ∧ lv.getD j 0 ≤ 4294967295) ∧ Below w.heap.size w w2 ∧ w.heap.size + 2 ≤ w2.heap.size ∧ Blk w2 (w.heap.size + 1) (nums .u32 lv) 164) (fun n _ => (intOf n).toNat)
      case atStart => exact ⟨0, lv0 l 18, by omega, rfl, lv0_len _ _, fun j hj => lv0_get l j hj, lv0_range l, hb, hz, by rw [unhide HK] at hblk; exact hblk⟩
      case round =>
        clear hb hz hblk hr hl HI
        obtain ⟨r, lv, hr5, rfl, hlen, hlv, hrg, hb, hz, hblk⟩ := hrel
        by_cases hr4 : r < 5
        · have hpow : 2 ^ (5 - r) = 2 * 2 ^ (4 - r) := by rw [show 5 - r = (4 - r) + 1 by omega, Nat.pow_succ]; omega
          have hM0 : 1 ≤ 2 ^ (4 - r) := Nat.one_le_two_pow
          have hM1 : 2 ^ (4 - r) ≤ 16 := by
            have : 2 ^ (4 - r) ≤ 2 ^ 4 := Nat.pow_le_pow_right (by omega) (by omega)
            simpa using this
          have hM2 : 2 ^ (5 - (r + 1)) = 2 ^ (4 - r) := by rw [show 5 - (r + 1) = 4 - r by omega]
          rw [hpow] at hlv
          rw [show ((2 ^ (5 - r) : Nat) : Int) = 2 * ((2 ^ (4 - r) : Nat) : Int) by omega]
          have HM := hide hM2
          clear hpow hM2
          generalize 2 ^ (4 - r) = M at *
          have hgt : (1 : Int) < 2 * (M : Int) := by omega
          have HLV := hide hlv
          have HRG := hide hrg
          have HB := hide hblk
          clear hlv hrg hblk
          have hdec : decide ((1 : Int) < 2 * (M : Int)) = true := by simp; omega
          go_wp2_with fail
          go_loopw [24] (fun i w3 => ∃ (k : Nat) (lw : List Int), k ≤ M ∧ i = .int .i64 k ∧ lw.length = 32 ∧ (∀ j, j < k → lw.getD j 0 = lev l (r + 1) j) ∧ (∀ j, k ≤ j → j < 2 * M → lw.getD j 0 = lev l r j) ∧ (∀ j : Nat, 0 ≤ lw.getD j 0 ∧ lw.getD j 0 ≤ 4294967295) ∧ Below w.heap.size w w3 ∧ w.heap.size + 2 ≤ w3.heap.size ∧ Blk w3 (w.heap.size + 1) (nums .u32 lw) 164) (fun i _ => M - (intOf i).toNat)
          case atStart => exact ⟨0, lv, by omega, rfl, hlen, fun j hj => absurd hj (by omega), fun j _ hj => unhide HLV j hj, unhide HRG, hb, hz, unhide HB⟩
          case round =>
            clear HLV HRG HB hb hz hlen
            obtain ⟨k, lw, hkM, rfl, hlen, hnew, hold, hrg, hb, hz, hblk⟩ := hrel
            by_cases hlt : k < M
            · have hi1 : (0 : Int) ≤ 2 * (k : Int) := by omega
              have hi2 : 2 * (k : Int) < 32 := by omega
              have hi3 : 2 * (k : Int) + 1 < 32 := by omega
              have hi4 : (k : Int) < 32 := by omega
              have hw2 := i64_id (2 * (k : Int)) (by omega) (by omega)
              have hw3 := i64_id (2 * (k : Int) + 1) (by omega) (by omega)
              have ht2 : (2 * (k : Int)).toNat = 2 * k := by omega
              have ht3 : (2 * (k : Int) + 1).toNat = 2 * k + 1 := by omega
              have hi5 : (0 : Int) ≤ 2 * (k : Int) + 1 := by omega
              have hc0 : wr.cell? ⟨w.heap.size + 1, 2 * k, none⟩ = some (.int .u32 (lw.getD (2 * k) 0)) := hblk.num _ (by omega)
              have hc1 : wr.cell? ⟨w.heap.size + 1, 2 * k + 1, none⟩ = some (.int .u32 (lw.getD (2 * k + 1) 0)) := hblk.num _ (by omega)
              have HN := hide hnew
              have HO := hide hold
              have HRG := hide hrg
              have HB := hide hblk
              clear hnew hold hrg hblk
              go_wp2_with fail
              go_region_with (go_at_call 76; refine (joined_any _ _ _ (unhide HRG (2 * k)) (unhide HRG (2 * k + 1))).mono ?_; rintro e w1 ⟨rfl, hb1⟩; have hb2 := (unhide HB).drew.below (B := wr.drew.heap.size) (by simp; omega) hb1; have hf2 := hb2.frozen k; have hc2 := hb2.num k (by omega))
              all_goals
                go_wp2_with fail
                go_roundw
                case rel =>
                  obtain ⟨s1, s2, s3, s4⟩ := inner_step l lw r k M hlen hlt hM1 (unhide HN) (unhide HO) (unhide HRG)
                  have hz1 := hb1.size
                  simp only [World.size_drew] at hz1
                  exact ⟨k + 1, _, by omega, by go_num, s1, s2, s3, s4, ((hb.drew).trans (hb1.mono (by simp; omega))).setCell (by simp) _, by simp; omega, hb2.put k _⟩
                case measure => simp [intOf]; omega
            · have HK2 : Hid (k = M) := hide (by omega)
              have hdk2 : decide ((k : Int) < (M : Int)) = false := by simp; omega
              go_wp2_with fail
              go_roundw
              case rel =>
                refine ⟨r + 1, lw, by omega, ?_, hlen, fun j hj => hnew j (by rw [unhide HM] at hj; rw [unhide HK2]; exact hj), hrg, hb, hz, hblk⟩
                rw [unhide HM]
              case measure => simp [intOf]; omega
        · have hr5' : r = 5 := by omega
          subst hr5'
          have hc0 : wr.cell? ⟨w.heap.size + 1, 0, none⟩ = some (.int .u32 (digL l)) := by
            rw [hblk.num 0 (by omega), hlv 0 (by decide)]; rfl
          clear hlv hrg hblk
          go_wp2
          go_ret
          exact ⟨rfl, hb⟩
end Go.Proofs.YtandblanpafjoabGreatDoor
