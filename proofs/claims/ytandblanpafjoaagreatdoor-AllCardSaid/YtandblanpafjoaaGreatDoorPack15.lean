import Derived.Test.YtandblanpafjoaaGreatDoorPack04
import Derived.Test.YtandblanpafjoaaGreatDoorPack09
import Derived.Test.YtandblanpafjoaaGreatDoorPack01
import Derived.Laws.BytesArg
import Derived.Test.YtandblanpafjoaaGreatDoorChecked
namespace Go.Proofs.YtandblanpafjoaaGreatDoor
open Go.RowKit Go.Extern.Stop Go.Stop Go.Extern
set_option maxHeartbeats 4000000 in
theorem rpack_no (f st ak : Int) (ao : Option Addr) (n c : Nat) (w : World) (h : ¬ GoodP f st ak n) :
    Calls Tryz.prog 65 #[.agg #[.int .i64 f, .int .i64 st, .int .i64 ak, .slice ao n c]] w fun e w' => e = .returned (.tuple #[.slice none 0 0, .bool false]) ∧ Below w.heap.size w w' := by
  unfold GoodP at h
  have hfin : Below w.heap.size w (w.alloc (.cells #[.int .i64 f, .int .i64 st, .int .i64 ak, .slice ao n c] 130)) := (Below.refl _ _).alloc (Nat.le_refl _) _
  have HF := hide hfin
  clear hfin
  by_cases a1 : f < 0
  · go_enter Tryz.func65, Tryz.ntmps65
    go_wp2
    go_ret2
    exact ⟨rfl, unhide HF⟩
  have d1 : decide (f < 0) = false := by simp; omega
  by_cases a2 : 3 < f
  · go_enter Tryz.func65, Tryz.ntmps65
    go_wp2
    go_ret2
    exact ⟨rfl, unhide HF⟩
  have d1' : decide (3 < f) = false := by simp; omega
  by_cases a3 : st < 0
  · go_enter Tryz.func65, Tryz.ntmps65
    go_wp2
    go_ret2
    exact ⟨rfl, unhide HF⟩
  have d2 : decide (st < 0) = false := by simp; omega
  by_cases a4 : 65535 < st
  · go_enter Tryz.func65, Tryz.ntmps65
    go_wp2
    go_ret2
    exact ⟨rfl, unhide HF⟩
  have d2' : decide (65535 < st) = false := by simp; omega
  by_cases a5 : ak < 0
  · go_enter Tryz.func65, Tryz.ntmps65
    go_wp2
    go_ret2
    exact ⟨rfl, unhide HF⟩
  have d3 : decide (ak < 0) = false := by simp; omega
  by_cases a6 : 65535 < ak
  · go_enter Tryz.func65, Tryz.ntmps65
    go_wp2
    go_ret2
    exact ⟨rfl, unhide HF⟩
  have d3' : decide (65535 < ak) = false := by simp; omega
  have h8 : (64 : Int) < (n : Int) := by omega
  clear h
  go_enter Tryz.func65, Tryz.ntmps65
  go_wp2
  go_ret2
  exact ⟨rfl, unhide HF⟩
end Go.Proofs.YtandblanpafjoaaGreatDoor

namespace Go.Proofs.YtandblanpafjoaaGreatDoor
open Go.RowKit Go.Extern.Stop Go.Stop Go.Extern
set_option maxRecDepth 100000 in
set_option maxHeartbeats 2000000 in
theorem rpack_yes (f st ak : Int) (ao : Option Addr) (n c : Nat) (l : List Int) (w : World) (h : GoodP f st ak n) (hl : l.length = n) (hc0 : ao = none → c = 0) (hsrc : SrcAt w ao l) :
    Calls Tryz.prog 65 #[.agg #[.int .i64 f, .int .i64 st, .int .i64 ak, .slice ao n c]] w fun e w' => ∃ v, e = .returned (.tuple #[v, .bool true]) ∧ w'.ownsRow w.heap.size 5 1 v (8 + n) ((packL f st ak l).map (Value.int .u8)) ∧ Below w.heap.size w w' := by
  obtain ⟨⟨h1, h2⟩, ⟨h3, h4⟩, ⟨h5, h6⟩, h7⟩ := h
  obtain ⟨i8, hi8, hz8, hs8, hy8⟩ := info_parts Tryz.infoU8
  have d1 : decide (f < 0) = false := by simp; omega
  have d1' : decide (3 < f) = false := by simp; omega
  have d2 : decide (st < 0) = false := by simp; omega
  have d2' : decide (65535 < st) = false := by simp; omega
  have d3 : decide (ak < 0) = false := by simp; omega
  have d3' : decide (65535 < ak) = false := by simp; omega
  have h8 : ¬ (64 : Int) < (n : Int) := by omega
  have HT := hide (And.intro hi8 (And.intro hz8 (And.intro hs8 hy8)))
  have HS := hide hsrc
  have HC := hide hc0
  have HL := hide hl
  have hcf : f % 256 = f := by omega
  have hcn : (n : Int) % 256 = (n : Int) := by omega
  have hs1 : st / 256 % 256 = st / 256 := by omega
  have ha1 : ak / 256 % 256 = ak / 256 := by omega
  clear hi8 hz8 hs8 hy8 hsrc hc0 hl
  go_enter Tryz.func65, Tryz.ntmps65
  go_wp2_with (at_builtin; refine wpList_append_src rfl _ _ 46 rfl w.heap.size 5 i8 (.int .u8 0) Tryz.underlying46 (unhide HT).1 (unhide HT).2.1 (unhide HT).2.2.1 (unhide HT).2.2.2 rfl _ 7 _ rfl (own_lit (w.alloc (.cells #[.int .i64 f, .int .i64 st, .int .i64 ak, .slice ao n c] 130)) _ 7 _ (by simp) (by omega) (by unfold maxLen; omega) rfl) ao n c l rfl (unhide HC) (unhide HL) (((unhide HS).alloc _).alloc _) (by omega) (by simp only [World.size_alloc]; omega) ?_; intro v4 w4 hown4 hgr4 hnil4)
  have HO4 : Hid (w4.ownsRow w.heap.size 5 1 v4 (7 + n) ((headL f st ak l).map (Value.int .u8))) := by
    have e : (headL f st ak l).map (Value.int .u8) = [Value.int .u8 82, .int .u8 f, .int .u8 (st / 256), .int .u8 (st % 256), .int .u8 (ak / 256), .int .u8 (ak % 256), .int .u8 (n : Int)] ++ l.map (Value.int .u8) := by
      simp [headL, unhide HL]
    rw [e]
    exact hide hown4
  obtain ⟨g, cap, rfl, hbg, hgl, hcap⟩ := own_some (unhide HO4) (by omega)
  have HB4 : Hid (Below w.heap.size w w4) := by
    refine hide ((((Below.refl w.heap.size w).alloc (Nat.le_refl _) _).alloc (by simp) _).trans (below_grown hgr4 (by simp; omega) (by simp)))
  clear hown4 hgr4 hnil4
  have hlen := headL_len f st ak l
  go_wp2_with fail
  go_loop [5, 6] (fun v i => ∃ k : Nat, k ≤ 7 + n ∧ i = .int .i64 k ∧ v = .int .u8 (xorL ((headL f st ak l).take k))) (fun _ i => 7 + n - (intOf i).toNat)
  case atStart => exact ⟨0, Nat.zero_le _, rfl, rfl⟩
  case round =>
    obtain ⟨k, hk, rfl, rfl⟩ := hrel
    by_cases hlt : k < 7 + n
    · have hlt2 : (k : Int) < 7 + (n : Int) := by omega
      have hkl : k < (headL f st ak l).length := by rw [hlen, unhide HL]; exact hlt
      have hcell : w4.cell? ⟨g, k, none⟩ = some (.int .u8 (headL f st ak l)[k]) := by
        have := own_num (unhide HO4) (by rw [hlen, unhide HL]) k hlt
        rw [Nat.zero_add, List.getD_eq_getElem?_getD, List.getElem?_eq_getElem hkl] at this
        exact this
      have hs := hide (xorL_snoc (headL f st ak l) k hkl)
      go_wp2_with fail
      go_round
      case rel => exact ⟨k + 1, by omega, by go_num, int_eq (unhide hs).symm⟩
      case measure => simp [intOf]; omega
    · have hlt2 : ¬ (k : Int) < 7 + (n : Int) := by omega
      go_wp2_with (at_builtin; refine wpList_append_src rfl _ _ 46 rfl w.heap.size 5 i8 (.int .u8 0) Tryz.underlying46 (unhide HT).1 (unhide HT).2.1 (unhide HT).2.2.1 (unhide HT).2.2.2 rfl _ (7 + n) _ rfl ((unhide HO4).alloc _) _ 1 1 _ rfl (fun h => by cases h) rfl (src_new1 _ _ _ _ rfl) (by omega) (by have := (unhide HB4).size; first | omega | (simp only [World.size_alloc]; omega)) ?_; intro v6 w6 hown6 hgr6 hnil6)
      go_ret2
      refine ⟨v6, rfl, ?_, ?_⟩
      · rw [show 7 + n + 1 = 8 + n by omega] at hown6
        have e : (headL f st ak l).take k = headL f st ak l := List.take_of_length_le (by rw [hlen, unhide HL]; omega)
        rw [e] at hown6
        simpa [packL] using hown6
      · have hz := (unhide HB4).size
        exact ((unhide HB4).alloc hz _).trans (below_grown hgr6 (by simp; omega) hbg)
end Go.Proofs.YtandblanpafjoaaGreatDoor

namespace Go.Proofs.YtandblanpafjoaaGreatDoor
open Go.RowKit Go.Extern.Stop Go.Stop Go.Extern
set_option maxHeartbeats 400000 in
theorem rfnv_any (b off n c : Nat) (l : List Int) (w : World) (hl : l.length = n) (hn : n ≤ 1000)
    (hc : ∀ j, j < n → w.cell? ⟨b, off + j, none⟩ = some (.int .u8 (l.getD j 0))) (hr : ∀ j : Nat, 0 ≤ l.getD j 0 ∧ l.getD j 0 ≤ 255) :
    Calls Tryz.prog 74 #[.slice (some ⟨b, off, none⟩) n c] w fun e w' => e = .returned (.int .u32 (fnvL l)) ∧ w' = w := by
  go_enter Tryz.func74, Tryz.ntmps74
  go_wp2
  go_loop [3, 4] (fun v i => ∃ k : Nat, k ≤ n ∧ i = .int .i64 k ∧ v = .int .u32 (fnvL (l.take k))) (fun _ i => n - (intOf i).toNat)
  case atStart => exact ⟨0, Nat.zero_le _, rfl, rfl⟩
  case round =>
    obtain ⟨k, hk, rfl, rfl⟩ := hrel
    by_cases hlt : k < n
    · have hcell := hc k hlt
      have hrk := hr k
      have hs := hide (fnvL_snoc l k (by omega))
      go_wp2
      go_round
      case rel => exact ⟨k + 1, by omega, by go_num, int_eq (unhide hs).symm⟩
      case measure => simp [intOf]; omega
    · go_wp2
      go_ret
      exact ⟨ret_int (by rw [List.take_of_length_le (by omega)]), rfl⟩
set_option maxHeartbeats 400000 in
theorem rfour_any (v : Int) (w : World) (ha : 0 ≤ v) (hb : v ≤ 4294967295) :
    Calls Tryz.prog 75 #[.int .u32 v] w fun e w' => e = .returned (.slice (some ⟨w.heap.size, 0, none⟩) 4 4) ∧ w' = w.alloc (.cells #[.int .u8 (v / 16777216), .int .u8 (v / 65536 % 256), .int .u8 (v / 256 % 256), .int .u8 (v % 256)] 5) := by
  go_enter Tryz.func75, Tryz.ntmps75
  go_wp2
  go_ret
  exact ⟨rfl, rfl⟩
end Go.Proofs.YtandblanpafjoaaGreatDoor

namespace Go.Proofs.YtandblanpafjoaaGreatDoor
open Go.RowKit Go.Extern.Stop Go.Stop Go.Extern
def lvV (l : List Int) (r n : Nat) : List Value := (List.range n).map fun j => .int .u32 (lev l r j)
theorem lvV_len (l : List Int) (r n : Nat) : (lvV l r n).length = n := by simp [lvV]
theorem lvV_succ (l : List Int) (r n : Nat) : lvV l r (n + 1) = lvV l r n ++ [.int .u32 (lev l r n)] := by simp [lvV, List.range_succ]
theorem lvV_get (l : List Int) (r n j : Nat) (h : j < n) : (lvV l r n)[j]? = some (.int .u32 (lev l r j)) := by simp [lvV, h]
theorem lvV_zero (l : List Int) : (nums .u32 (lv0 l 18)).toList.take (32 * 1) = lvV l 0 32 := by
  apply List.ext_getElem?
  intro j
  by_cases hj : j < 32
  · rw [lvV_get _ _ _ _ hj, List.getElem?_take, if_pos (by omega), Array.getElem?_toList, nums_get _ _ _ (by rw [lv0_len]; exact hj), lv0_get l j hj]
  · rw [List.getElem?_eq_none (by simp; omega), List.getElem?_eq_none (by rw [lvV_len]; omega)]
theorem bytes44_range (a b : Int) (ha : 0 ≤ a ∧ a ≤ 4294967295) (hb : 0 ≤ b ∧ b ≤ 4294967295) (j : Nat) : 0 ≤ (bytes4 a ++ bytes4 b).getD j 0 ∧ (bytes4 a ++ bytes4 b).getD j 0 ≤ 255 := by
  unfold bytes4
  match j with
  | 0 | 1 | 2 | 3 | 4 | 5 | 6 | 7 => simp; omega
  | n + 8 => simp
theorem Tryz.infoU32 : (Tryz.prog.info? 102).map (fun i => (i.zero, i.size, i.bytes)) = some (some (.int .u32 0), 1, 4) := by kernel_rfl
theorem Tryz.make32 (l : List Int) (w : World) : (Instr.makeSlice 144 (.int .i64 32) (.int .i64 32)).run Tryz.prog w = .ok (.slice (some ⟨w.heap.size, 0, none⟩) 32 32) (w.alloc (.cells (nums .u32 (lv0 l 0)) 102)) := by kernel_rfl
set_option maxRecDepth 100000 in
set_option maxHeartbeats 400000 in
theorem rdigest_any (l : List Int) (b c : Nat) (w : World) (hl : l.length = 288) (hr : ∀ j : Nat, 0 ≤ l.getD j 0 ∧ l.getD j 0 ≤ 255) (hcap : 288 ≤ c) (hbl : b < w.heap.size)
    (hc : ∀ j, j < 288 → w.cell? ⟨b, j, none⟩ = some (.int .u8 (l.getD j 0))) :
    Calls Tryz.prog 52 #[.slice (some ⟨b, 0, none⟩) 288 c] w fun e w' => e = .returned (.int .u32 (digL l)) ∧ Below w.heap.size w w' := by
  have hmk := Tryz.make32 l
  have HC := hide hc
  have HR := hide hr
  clear hc hr
  go_enter Tryz.func52, Tryz.ntmps52
  go_wp2_with fail
  clear hmk
  go_loopw [4] (fun i wr => ∃ k : Nat, k ≤ 18 ∧ i = .int .i64 k ∧ Below w.heap.size w wr ∧ Blk wr w.heap.size (nums .u32 (lv0 l k)) 102) (fun i _ => 18 - (intOf i).toNat)
  case atStart => exact ⟨0, by omega, rfl, (Below.refl _ _).alloc (Nat.le_refl _) _, Blk.new _ _ _⟩
  case round =>
    obtain ⟨k, hk, rfl, hb, hblk⟩ := hrel
    by_cases hlt : k < 18
    · have hi1 : (0 : Int) ≤ 16 * (k : Int) := by omega
      have hi2 : 16 * (k : Int) + 16 ≤ 288 := by omega
      have hi3 : 16 * (k : Int) + 16 ≤ (c : Int) := by omega
      have hce := hblk.num k (by rw [lv0_len]; omega)
      have hfe := hblk.frozen k
      have HB := hide hblk
      clear hblk
      go_wp2_with fail
      refine (rfnv_any _ _ 16 _ (pageL l k) _ (pageL_len l k hl hlt) (by omega) ?_ (pageL_range l k (unhide HR))).mono ?_
      · intro j hj
        rw [hb.cell (p := ⟨b, 16 * k + j, none⟩) hbl, unhide HC _ (by omega), pageL_get l k j hj]
      rintro e w' ⟨rfl, rfl⟩
      go_wp2_with fail
      go_roundw
      case rel =>
        refine ⟨k + 1, by omega, by go_num, hb.setCell (by simp) _, ?_⟩
        rw [lv0_succ l k hlt]
        exact (unhide HB).put k _
      case measure => simp [intOf]; omega
    · have HK : Hid (k = 18) := hide (by omega)
      have hdk : decide ((k : Int) < 18) = false := by simp; omega
      rw [show k = 18 by omega] at hblk
      have HOWN : Hid (wr.ownsRow w.heap.size 102 1 (.slice (some ⟨w.heap.size, 0, none⟩) 32 32) 32 (lvV l 0 32)) :=
        hide ⟨by rw [lvV_len], Or.inr ⟨w.heap.size, 32, _, rfl, Nat.le_refl _, hblk, by omega, by unfold maxLen; omega, by rw [nums_size, lv0_len], lvV_zero l⟩⟩
      clear hblk
      go_wp2_with fail
      go_loopw [3] (fun v w2 => ∃ (r N : Nat), r ≤ 5 ∧ N = 2 ^ (5 - r) ∧ w2.ownsRow w.heap.size 102 1 v N (lvV l r N) ∧ Below w.heap.size w w2) (fun v _ => lenOf v)
      case atStart => exact ⟨0, 32, by omega, rfl, unhide HOWN, hb⟩
      case round =>
        clear HOWN hb HC HR
        obtain ⟨r, N, hr5, hN, hown, hb⟩ := hrel
        obtain ⟨W2, hW2⟩ : ∃ x, x = wr := ⟨_, rfl⟩
        subst hW2
        obtain ⟨g, cap, cur, rfl, hg, hcur, hNc, hcm, hcs, htake⟩ : ∃ g cap cur, u3 = .slice (some ⟨g, 0, none⟩) N cap ∧ w.heap.size ≤ g ∧ Blk W2 g cur 102 ∧ N ≤ cap ∧ cap ≤ maxLen ∧ cur.size = cap * 1 ∧ cur.toList.take (N * 1) = lvV l r N := by
          rcases hown.2 with ⟨_, h0⟩ | h
          · have := Nat.one_le_two_pow (n := 5 - r); omega
          · exact h
        by_cases hr4 : r < 5
        · obtain ⟨M, hM, hNM, hM0, hM1⟩ : ∃ M, M = 2 ^ (5 - (r + 1)) ∧ N = 2 * M ∧ 1 ≤ M ∧ M ≤ 16 := by
            refine ⟨2 ^ (4 - r), by rw [show 5 - (r + 1) = 4 - r by omega], ?_, Nat.one_le_two_pow, ?_⟩
            · rw [hN, show 5 - r = (4 - r) + 1 by omega, Nat.pow_succ]; omega
            · have : 2 ^ (4 - r) ≤ 2 ^ 4 := Nat.pow_le_pow_right (by omega) (by omega)
              simpa using this
          subst hNM
          have HM := hide hM
          have hread : Hid (∀ j, j < 2 * M → W2.cell? ⟨g, j, none⟩ = some (.int .u32 (lev l r j))) := hide fun j hj => by
            rw [Blk.cell hcur j]
            have := lvV_get l r (2 * M) j hj
            rw [← htake, List.getElem?_take, if_pos (by omega)] at this
            simpa using this
          have hgl : g < W2.heap.size := hcur.lt
          have hdec : decide ((1 : Int) < 2 * (M : Int)) = true := by simp; omega
          clear hM hN hown hcur htake hcs
          go_wp2_with fail
          go_loopw [6, 7] (fun v i w3 => ∃ k : Nat, k ≤ M ∧ i = .int .i64 (2 * (k : Int)) ∧ w3.ownsRow W2.heap.size 102 1 v k (lvV l (r + 1) k) ∧ Below W2.heap.size W2 w3) (fun _ i _ => 2 * M - (intOf i).toNat)
          case atStart => exact ⟨0, by omega, rfl, World.ownsRow_nil _ _ _ _, Below.refl _ _⟩
          case round =>
            obtain ⟨k, hkM, rfl, hown, hb3⟩ := hrel
            by_cases hlt : k < M
            · have hi1 : (0 : Int) ≤ 2 * (k : Int) := by omega
              have hi2 : 2 * (k : Int) < ((2 * M : Nat) : Int) := by omega
              have hi3 : 2 * (k : Int) + 1 < ((2 * M : Nat) : Int) := by omega
              have hi4 : 2 * (k : Int) < 2 * (M : Int) := by omega
              have hi5 : 2 * (k : Int) + 1 < 2 * (M : Int) := by omega
              have hi6 : (0 : Int) ≤ 2 * (k : Int) + 1 := by omega
              have ht2 : (2 * (k : Int)).toNat = 2 * k := by omega
              have ht3 : (2 * (k : Int) + 1).toNat = 2 * k + 1 := by omega
              have hc0 : wr.cell? ⟨g, 2 * k, none⟩ = some (.int .u32 (lev l r (2 * k))) := by rw [hb3.cell (p := ⟨g, 2 * k, none⟩) hgl]; exact unhide hread _ (by omega)
              have hc1 : ∀ o, (wr.alloc o).cell? ⟨g, 2 * k + 1, none⟩ = some (.int .u32 (lev l r (2 * k + 1))) := fun o => by
                rw [World.cell?_alloc_lt _ _ ⟨g, 2 * k + 1, none⟩ (by have := hb3.size; simp; omega), hb3.cell (p := ⟨g, 2 * k + 1, none⟩) hgl]; exact unhide hread _ (by omega)
              have hz3 := hb3.size
              obtain ⟨i8, hi8, hz8, hs8, hy8⟩ := info_parts Tryz.infoU8
              obtain ⟨i32, hi32, hz32, hs32, hy32⟩ := info_parts Tryz.infoU32
              have HT8 : Hid (Tryz.prog.info? 5 = some i8 ∧ i8.zero = some (.int .u8 0) ∧ i8.size = 1 ∧ i8.bytes = 1) := hide ⟨hi8, hz8, hs8, hy8⟩
              have HT32 : Hid (Tryz.prog.info? 102 = some i32 ∧ i32.zero = some (.int .u32 0) ∧ i32.size = 1 ∧ i32.bytes = 4) := hide ⟨hi32, hz32, hs32, hy32⟩
              clear hi8 hz8 hs8 hy8 hi32 hz32 hs32 hy32
              have HOWN := hide hown
              clear hown
              go_wp2_with fail
              refine (rfour_any _ _ (lev_range l r (2 * k)).1 (lev_range l r (2 * k)).2).mono ?_
              rintro e w1 ⟨rfl, rfl⟩
              go_wp2_with fail
              refine (rfour_any _ _ (lev_range l r (2 * k + 1)).1 (lev_range l r (2 * k + 1)).2).mono ?_
              rintro e w1 ⟨rfl, rfl⟩
              have hra := lev_range l r (2 * k)
              have hrb := lev_range l r (2 * k + 1)
              have HJ : Hid (lev l (r + 1) k = joinI (lev l r (2 * k)) (lev l r (2 * k + 1))) := hide rfl
              generalize lev l r (2 * k) = va at *
              generalize lev l r (2 * k + 1) = vb at *
              have HO8 : Hid (((wr.alloc (.cells (nums .u8 (bytes4 va)) 5)).alloc (.cells (nums .u8 (bytes4 vb)) 5)).ownsRow wr.heap.size 5 1 (.slice (some ⟨wr.heap.size, 0, none⟩) 4 4) 4 ((bytes4 va).map (.int .u8))) :=
                hide ⟨rfl, Or.inr ⟨wr.heap.size, 4, nums .u8 (bytes4 va), rfl, Nat.le_refl _, heap_alloc2_old _ _ _, by omega, by unfold maxLen; omega, rfl, rfl⟩⟩
              have HN8 : Hid (∀ j u, ((bytes4 vb).map (Value.int .u8))[j]? = some u → ((wr.alloc (.cells (nums .u8 (bytes4 va)) 5)).alloc (.cells (nums .u8 (bytes4 vb)) 5)).cell? ((⟨wr.heap.size + 1, 0, none⟩ : Addr).add j) = some u) :=
                hide (cells_new _ _ _ _ _ (by simp))
              go_wp2_with (at_builtin; refine wpList_append_own _ rfl _ _ 46 rfl wr.heap.size 5 i8 (.int .u8 0) 1 1 Tryz.underlying46 (unhide HT8).1 (unhide HT8).2.1 (unhide HT8).2.2.1 (unhide HT8).2.2.2 rfl (by decide) _ 4 _ rfl (unhide HO8) ⟨wr.heap.size + 1, 0, none⟩ 4 4 _ rfl rfl (unhide HN8) (nums_ones _ _) (by unfold maxLen; omega) (by omega) (by simp; omega) ?_; intro v4 w4 hown4 hgr4 hnil4)
              have hx4 : ∃ g4 c4, v4 = .slice (some ⟨g4, 0, none⟩) 8 c4 ∧ v4.ownBlock = some g4 := by
                rcases hown4.2 with ⟨_, h0⟩ | ⟨g4, c4, _, h, _⟩
                · omega
                · exact ⟨g4, c4, h, by rw [h]; rfl⟩
              obtain ⟨g4, c4, hv4, hob4⟩ := hx4
              have hc4 : ∀ j, j < 8 → w4.cell? ⟨g4, 0 + j, none⟩ = some (.int .u8 ((bytes4 va ++ bytes4 vb).getD j 0)) := fun j hj => by
                have := hown4.cells hob4 j (.int .u8 ((bytes4 va ++ bytes4 vb).getD j 0)) (by rw [← List.map_append, List.getElem?_map, List.getElem?_eq_getElem (by simpa [bytes4] using hj)]; simp [List.getElem?_eq_getElem (show j < (bytes4 va ++ bytes4 vb).length by simpa [bytes4] using hj)])
                rw [Addr.add_mid] at this; exact this
              have hz4 := hgr4.size
              simp only [World.size_alloc] at hz4
              have hownU : w4.ownsRow W2.heap.size 102 1 u6 k (lvV l (r + 1) k) := by
                refine (((unhide HOWN).alloc _).alloc _).kept hgr4 (Or.inr ?_)
                intro hE
                have := (unhide HOWN).lt wr.heap.size hE
                omega
              have hb4 : Below W2.heap.size W2 w4 := ((hb3.alloc hz3 _).alloc (by simp; omega) _).grown hgr4 (by simp; omega) (fun q hq => by have hq' : wr.heap.size = q := Option.some.inj hq; omega)
              have HOU := hide hownU
              have HC4 := hide hc4
              clear hown4 hgr4 hownU hc4 HOWN HO8 HN8 hob4 hnil4
              subst hv4
              refine (rfnv_any g4 0 8 c4 (bytes4 va ++ bytes4 vb) w4 rfl (by omega) (unhide HC4) (bytes44_range va vb hra hrb)).mono ?_
              rintro e w4 ⟨rfl, rfl⟩
              go_wp2_with (at_builtin; refine wpList_append_own _ rfl _ _ 144 rfl W2.heap.size 102 i32 (.int .u32 0) 1 4 Tryz.underlying144 (unhide HT32).1 (unhide HT32).2.1 (unhide HT32).2.2.1 (unhide HT32).2.2.2 rfl (by decide) _ k _ rfl ((unhide HOU).alloc _) ⟨w4.heap.size, 0, none⟩ 1 1 [.int .u32 (fnvL (bytes4 va ++ bytes4 vb))] rfl rfl (one_new _ _ _) (fun x hx => by simp at hx; subst hx; rfl) (by unfold maxLen; omega) (by omega) (by have := hb4.size; simp; omega) ?_; intro v5 w5 hown5 hgr5 hnil5)
              go_roundw
              case rel =>
                refine ⟨k + 1, by omega, int_eq (by omega), ?_, ?_⟩
                · rw [lvV_succ, unhide HJ]; exact hown5
                · exact (hb4.alloc hb4.size _).grown hgr5 (by have := hb4.size; simp; omega) (fun q hq => ((unhide HOU).lt q hq).1)
              case measure => simp [intOf]; omega
            · have HK2 : Hid (k = M) := hide (by omega)
              have hdk2 : decide (2 * (k : Int) < 2 * (M : Int)) = false := by simp; omega
              have hln := owns_len hown
              have HOWN := hide hown
              clear hown
              go_wp2_with fail
              go_roundw
              case rel =>
                have ho := unhide HOWN
                rw [unhide HK2] at ho
                exact ⟨r + 1, M, by omega, unhide HM, owns_mono ho hb.size, hb.trans (hb3.mono hb.size)⟩
              case measure => rw [hln]; show k < 2 * M; omega
        · have hr5' : r = 5 := by omega
          subst hr5'
          simp at hN
          subst hN
          have hc0 : W2.cell? ⟨g, 0, none⟩ = some (.int .u32 (digL l)) := by
            rw [Blk.cell hcur 0]
            have := lvV_get l 5 1 0 (by omega)
            rw [← htake, List.getElem?_take, if_pos (by omega)] at this
            simpa [digL] using this
          go_wp2
          go_ret
          exact ⟨rfl, hb⟩
end Go.Proofs.YtandblanpafjoaaGreatDoor

namespace Go.Proofs.YtandblanpafjoaaGreatDoor
open Go.RowKit Go.Extern.Stop Go.Stop Go.Extern
theorem room_bytes (s : ByteArray) : (((bytesOf s ++ [0, 0]).set s.size 77).set (s.size + 1) 88) = bytesOf s ++ [77, 88] := by
  rw [← bytesOf_len]
  simp
section
variable {P : Program}
theorem run_copy_str (w : World) (dT sT ty e : TypeId) (g dLen dCap : Nat) (s : ByteArray) (cur : List Int) (t : TypeId) (hu : P.underlying dT = some (.slice e)) (hs : (P.info? e).map (·.size) = some 1)
    (hg : Blk w g (nums .u8 cur) t) (hlen : s.size ≤ dLen) (hfit : s.size ≤ cur.length) :
    (Builtin.copy_ #[dT, sT] ty #[.slice (some ⟨g, 0, none⟩) dLen dCap, .string s]).run P w = .ok (goInt s.size) (w.setRow g (nums .u8 (bytesOf s ++ cur.drop s.size))) := by
  cases hq : P.info? e with
  | none => simp [hq] at hs
  | some i =>
    have hst := run_storeCells_at P g 0 t ((bytesOf s).map (.int .u8)) 0 (nums .u8 cur) w hg (by simp [nums_size, bytesOf_len]; omega) (nums_ones _ _)
    have hmin : Nat.min s.size dLen = s.size := Nat.min_eq_left hlen
    have hv : List.take s.size (s.data.toList.map fun b => Value.int .u8 (b.toNat : Int)) = (bytesOf s).map (.int .u8) := by
      rw [List.take_of_length_le (by simp)]; simp [bytesOf]
    simp only [Nat.zero_add, List.take_zero, List.nil_append, List.length_map, bytesOf_len] at hst
    have hfin : ((bytesOf s).map (Value.int .u8) ++ (nums .u8 cur).toList.drop s.size).toArray = nums .u8 (bytesOf s ++ cur.drop s.size) := by
      simp [nums, List.map_drop]
    rw [hfin] at hst
    simp [Builtin.copy_, run_underlying hu, Builtin.lenOf, sizeOf, typeInfo, hq, Builtin.firstCells, hmin, hv, hst]
end
end Go.Proofs.YtandblanpafjoaaGreatDoor

namespace Go.Proofs.YtandblanpafjoaaGreatDoor
open Go.RowKit
theorem one_u8 : (Tryz.prog.info? 5).map (·.size) = some 1 := by kernel_rfl
def spRow (cs : Array Value) (k : Nat) : Array Value := (List.replicate k (Value.int .u8 99) ++ cs.toList.drop k).toArray
theorem spRow_size (cs : Array Value) (k : Nat) (hk : k ≤ cs.size) : (spRow cs k).size = cs.size := by simp [spRow]; omega
theorem spRow_zero (cs : Array Value) : spRow cs 0 = cs := by simp [spRow]
theorem spRow_all (cs : Array Value) (k : Nat) (hk : cs.size = k) : spRow cs k = nums .u8 (List.replicate k 99) := by
  simp [spRow, nums, List.drop_of_length_le (show cs.toList.length ≤ k by simp [hk])]
theorem spRow_succ (cs : Array Value) (k : Nat) (hk : k < cs.size) : (spRow cs k).setIfInBounds k (.int .u8 99) = spRow cs (k + 1) := by
  apply Array.ext'
  unfold spRow
  rw [Array.toList_setIfInBounds]
  apply List.ext_getElem?
  intro j
  rw [List.getElem?_set]
  simp only [List.length_append, List.length_replicate, List.length_drop, Array.length_toList]
  by_cases h1 : k = j
  · subst h1
    rw [if_pos rfl, if_pos (by omega), List.getElem?_append_left (by simp), List.getElem?_replicate, if_pos (by omega)]
  · rw [if_neg h1]
    by_cases h2 : j < k
    · rw [List.getElem?_append_left (by simpa using h2), List.getElem?_append_left (by simp; omega), List.getElem?_replicate, List.getElem?_replicate, if_pos h2, if_pos (by omega)]
    · rw [List.getElem?_append_right (by simp; omega), List.getElem?_append_right (by simp; omega), List.getElem?_drop, List.getElem?_drop]
      congr 1
      simp
      omega
set_option maxHeartbeats 1000000 in
theorem spoilt_row (g n c : Nat) (cs : Array Value) (t : TypeId) (w : World) (hl : cs.size = c) (hc : c ≤ maxLen) (hnc : n ≤ c) (hb : Blk w g cs t) :
    Calls Tryz.prog 42 #[.slice (some ⟨g, 0, none⟩) n c] w fun e w' => e = .returned (.tuple #[]) ∧ Blk w' g (nums .u8 (List.replicate c 99)) t ∧ w.grownBy w' (some g) := by
  have HB := hide hb
  clear hb
  unfold maxLen at hc
  go_enter Tryz.func42, Tryz.ntmps42
  go_wp2_with fail
  go_loopw [3] (fun i wr => ∃ k : Nat, k ≤ c ∧ i = .int .i64 k ∧ Blk wr g (spRow cs k) t ∧ w.grownBy wr (some g)) (fun i _ => c - (intOf i).toNat)
  case atStart => exact ⟨0, by omega, rfl, by rw [spRow_zero]; exact unhide HB, grown_refl _ _⟩
  case round =>
    obtain ⟨k, hk, rfl, hbk, hgr⟩ := hrel
    by_cases hlt : k < c
    · have hlt' : (k : Int) < (c : Int) := by omega
      have hlen := spRow_size cs k (by omega)
      have HS := hide (spRow_succ cs k (by omega))
      go_wp2_with (refine wpList_store_one rfl 5 _ _ rfl g k (.int .u8 99) (spRow cs k) t rfl rfl rfl hbk (by omega) one_u8 ?_; intro w' hb1 hg1 hz1 hcl1)
      go_roundw
      case rel => exact ⟨k + 1, by omega, by go_num, by rw [← unhide HS]; exact hb1, grown_trans hgr hg1⟩
      case measure => simp [intOf]; omega
    · have hkn : k = c := by omega
      subst hkn
      go_wp2
      go_end0
      exact ⟨rfl, by rw [spRow_all cs k hl] at hbk; exact hbk, hgr⟩
set_option maxHeartbeats 1000000 in
theorem stays_row (g n c : Nat) (t : TypeId) (w : World) (hc : c ≤ maxLen) (_hnc : n ≤ c) (hb : Blk w g (nums .u8 (List.replicate c 99)) t) :
    Calls Tryz.prog 23 #[.slice (some ⟨g, 0, none⟩) n c] w fun e w' => e = .returned (.bool true) ∧ w' = w := by
  have HB := hide hb
  clear hb
  unfold maxLen at hc
  go_enter Tryz.func23, Tryz.ntmps23
  go_wp2_with fail
  go_loop [4] (fun i => ∃ k : Nat, k ≤ c ∧ i = .int .i64 k) (fun i => c - (intOf i).toNat)
  case atStart => exact ⟨0, by omega, rfl⟩
  case round =>
    obtain ⟨k, hk, rfl⟩ := hrel
    by_cases hlt : k < c
    · have hlt' : (k : Int) < (c : Int) := by omega
      have hck : w.cell? ⟨g, k, none⟩ = some (.int .u8 99) := by
        rw [(unhide HB).num k (by simp; omega), List.getD_eq_getElem?_getD, List.getElem?_replicate, if_pos hlt]; rfl
      go_wp2_with fail
      go_round
      case rel => exact ⟨k + 1, by omega, by go_num⟩
      case measure => simp [intOf]; omega
    · go_wp2
      go_ret
      exact ⟨rfl, rfl⟩
end Go.Proofs.YtandblanpafjoaaGreatDoor

