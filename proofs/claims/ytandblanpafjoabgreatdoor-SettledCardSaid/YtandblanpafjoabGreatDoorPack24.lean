import Derived.Test.YtandblanpafjoabGreatDoorPack14
import Derived.RegionTactic
import Derived.Laws.ResultCell
import Derived.Test.YtandblanpafjoabGreatDoorPack06
import Derived.Test.YtandblanpafjoabGreatDoorPack09
namespace Go.Proofs.YtandblanpafjoabGreatDoor
open Go.RowKit Go.Extern.Stop Go.Stop Go.Extern

set_option maxRecDepth 100000 in
set_option maxHeartbeats 400000 in
theorem gread_no (b n c : Nat) (w : World) (hn : n ≠ 288) :
    Calls Tryz.prog 48 #[.slice (some ⟨b, 0, none⟩) n c] w fun e w' => e = .returned (.tuple #[.agg (nums .u8 Z288), .bool false]) ∧ Below w.heap.size w w' := by
  have hz := Tryz.zeroMem
  have hne : ((n : Int) != 288) = true := by rw [bne_iff_ne]; omega
  go_enter Tryz.func48, Tryz.ntmps48
  go_wp2_with (first | (refine wpList_load_blk rfl 106 _ rfl (w.heap.size + 1) rfl 106 (nums .u8 Z288) _ (heap_alloc2_new _ _ _) Tryz.underlying106 rfl (Tryz.sizeMem _ Z288_len) ?_) | (refine wpList_store_blk rfl 106 _ _ rfl w.heap.size 106 (nums .u8 Z288) (nums .u8 Z288) rfl rfl (heap_alloc2_old _ _ _) (Tryz.sizeMem _ Z288_len) rfl (nums_one _ _) ?_))
  refine bodyPost_ret (v := .tuple #[.agg (nums .u8 Z288), .bool false]) ?_ rfl ⟨rfl, ?_⟩
  · rw [results_cell_tmp Tryz.results48]
    exact ret_cell_tmp ((Blk.setRow (heap_alloc2_old _ _ _) _)) Tryz.underlying106 rfl (Tryz.sizeMem _ Z288_len)
  · exact below_setRow (((Below.refl _ _).alloc (Nat.le_refl _) _).alloc (by simp) _) (Nat.le_refl _) _

set_option maxRecDepth 100000 in
set_option maxHeartbeats 400000 in
theorem gread_yes (b c : Nat) (l : List Int) (w : World) (hl : l.length = 288) (hcap : 288 ≤ c) (hbl : b < w.heap.size)
    (hc : ∀ j, j < 288 → w.cell? ⟨b, j, none⟩ = some (.int .u8 (l.getD j 0))) :
    Calls Tryz.prog 48 #[.slice (some ⟨b, 0, none⟩) 288 c] w fun e w' => e = .returned (.tuple #[.agg (nums .u8 l), .bool true]) ∧ Below w.heap.size w w' := by
  have hz := Tryz.zeroMem
  have HC := hide hc
  clear hc
  go_enter Tryz.func48, Tryz.ntmps48
  go_wp2_with fail
  go_loopw [10] (fun i wr => ∃ k : Nat, k ≤ 18 ∧ i = .int .i64 k ∧ Below w.heap.size w wr ∧ Blk wr w.heap.size (nums .u8 Z288) 106 ∧ Blk wr (w.heap.size + 1) (nums .u8 (memTo l k)) 106) (fun i _ => 18 - (intOf i).toNat)
  case atStart => exact ⟨0, by omega, rfl, ((Below.refl _ _).alloc (Nat.le_refl _) _).alloc (by simp) _, heap_alloc2_old _ _ _, by rw [memTo_zero]; exact heap_alloc2_new _ _ _⟩
  case round =>
    obtain ⟨k, hk, rfl, hb, hb0, hb1⟩ := hrel
    by_cases hlt : k < 18
    · have hw2 := i64_id ((k : Int) * 16) (by omega) (by omega)
      have hi1 : (0 : Int) ≤ (k : Int) * 16 := by omega
      have hi2 : (k : Int) * 16 ≤ 288 := by omega
      have hi3 : (k : Int) < 18 := by omega
      have hcp : (Builtin.copy_ #[35, 35] 3 #[.slice (some ⟨w.heap.size + 1, k * 16, none⟩) 16 16, .slice (some ⟨b, k * 16, none⟩) (288 - k * 16) (c - k * 16)]).run Tryz.prog wr.drew
          = .ok (.int .i64 16) (wr.drew.setRow (w.heap.size + 1) (nums .u8 (memTo l (k + 1)))) := by
        have hpl := pageL_len l k hl hlt
        have := run_copy_row (P := Tryz.prog) wr.drew 35 35 3 5 (w.heap.size + 1) (k * 16) 16 16 ⟨b, k * 16, none⟩ (288 - k * 16) (c - k * 16) (nums .u8 (memTo l k)) 106 ((pageL l k).map (.int .u8)) Tryz.underlying35 (by kernel_rfl) hb1
          (by rw [List.length_map, hpl]; exact (Nat.min_eq_right (by omega)).symm)
          (fun j v hj => by
            have hj16 : j < 16 := by
              have := (List.getElem?_eq_some_iff.1 hj).1
              rw [List.length_map, hpl] at this; exact this
            rw [Addr.add_mid, World.cell?_drew, hb.cell (p := ⟨b, k * 16 + j, none⟩) hbl, unhide HC _ (by omega), ← hj, List.getElem?_map, List.getElem?_eq_getElem (by omega)]
            have := pageL_get l k j hj16
            rw [List.getD_eq_getElem?_getD, List.getElem?_eq_getElem (by omega)] at this
            rw [Nat.mul_comm k 16, ← this]; rfl)
          (by rw [List.length_map, hpl, nums_size, memTo_len l k hl hk]; omega) (nums_ones _ _)
        rw [this, List.length_map, hpl]
        have e : ((nums .u8 (memTo l k)).toList.take (k * 16) ++ (pageL l k).map (Value.int .u8) ++ (nums .u8 (memTo l k)).toList.drop (k * 16 + 16)).toArray = nums .u8 (memTo l (k + 1)) := by
          rw [← memTo_succ l k hl hlt, Nat.mul_comm k 16]
          simp [nums, List.map_take, List.map_drop]
        rw [e]; rfl
      have ht : ((k : Int) * 16).toNat = k * 16 := by omega
      have hne : (c = k * 16) = False := by simp; omega
      have HB0 := hide hb0
      have HB1 := hide hb1
      clear hb0 hb1
      go_wp2_with fail
      go_region
      go_wp2_with fail
      go_roundw
      case rel => exact ⟨k + 1, by omega, by go_num, below_setRow hb.drew (by omega) _, (unhide HB0).drew.setRowOther _ _ (by omega), (unhide HB1).drew.setRow _⟩
      case measure => simp [intOf]; omega
    · have hdk : decide ((k : Int) < 18) = false := by simp; omega
      rw [show k = 18 by omega, memTo_all l hl] at hb1
      have HB0 := hide hb0
      have HB1 := hide hb1
      clear hb0 hb1
      go_wp2_with (first | (refine wpList_load_blk rfl 106 _ rfl (w.heap.size + 1) rfl 106 (nums .u8 l) _ (unhide HB1) Tryz.underlying106 rfl (Tryz.sizeMem _ hl) ?_) | (refine wpList_store_blk rfl 106 _ _ rfl w.heap.size 106 (nums .u8 Z288) (nums .u8 l) rfl rfl (unhide HB0) (Tryz.sizeMem _ hl) (by rw [nums_size, nums_size, hl, Z288_len]) (nums_one _ _) ?_))
      refine bodyPost_ret (v := .tuple #[.agg (nums .u8 l), .bool true]) ?_ rfl ⟨rfl, ?_⟩
      · rw [results_cell_tmp Tryz.results48]
        exact ret_cell_tmp ((unhide HB0).setRow _) Tryz.underlying106 rfl (Tryz.sizeMem _ hl)
      · exact below_setRow hb (Nat.le_refl _) _
end Go.Proofs.YtandblanpafjoabGreatDoor

namespace Go.Proofs.YtandblanpafjoabGreatDoor
open Go.RowKit Go.Extern.Stop Go.Stop Go.Extern

set_option maxRecDepth 100000 in
set_option maxHeartbeats 400000 in
theorem digest_no (b n c : Nat) (w : World) (hn : n ≠ 288) :
    Calls Tryz.prog 28 #[.slice (some ⟨b, 0, none⟩) n c] w fun e w' => e = .returned (.tuple #[.int .u32 0, .iface 39 (.int .i64 8)]) ∧ Below w.heap.size w w' := by
  have hz := Tryz.zeroMem
  go_enter Tryz.func28, Tryz.ntmps28
  go_wp2_with fail
  refine (gread_no b n c w hn).mono ?_
  rintro e w1 ⟨rfl, hb1⟩
  go_wp2_with (refine wpList_store_new rfl 106 _ _ rfl (nums .u8 Z288) (nums .u8 Z288) rfl rfl (Tryz.sizeMem _ Z288_len) rfl (nums_one _ _) ?_)
  go_ret2
  exact ⟨rfl, hb1.alloc hb1.size _⟩

set_option maxRecDepth 100000 in
set_option maxHeartbeats 400000 in
theorem digest_yes (b c : Nat) (l : List Int) (w : World) (hl : l.length = 288) (hr : ∀ j : Nat, 0 ≤ l.getD j 0 ∧ l.getD j 0 ≤ 255) (hcap : 288 ≤ c) (hbl : b < w.heap.size)
    (hc : ∀ j, j < 288 → w.cell? ⟨b, j, none⟩ = some (.int .u8 (l.getD j 0))) :
    Calls Tryz.prog 28 #[.slice (some ⟨b, 0, none⟩) 288 c] w fun e w' => e = .returned (.tuple #[.int .u32 (digL l), .nilIface]) ∧ Below w.heap.size w w' := by
  have hz := Tryz.zeroMem
  have HC := hide hc
  have HR := hide hr
  clear hc hr
  go_enter Tryz.func28, Tryz.ntmps28
  go_wp2_with fail
  refine (gread_yes b c l w hl hcap hbl (unhide HC)).mono ?_
  rintro e w1 ⟨rfl, hb1⟩
  go_wp2_with (first | (refine wpList_store_new rfl 106 _ _ rfl (nums .u8 Z288) (nums .u8 l) rfl rfl (Tryz.sizeMem _ hl) (by rw [nums_size, nums_size, hl, Z288_len]) (nums_one _ _) ?_) | (refine wpList_load_blk rfl 106 _ rfl w1.heap.size rfl 106 (nums .u8 l) _ (Blk.new _ _ _) Tryz.underlying106 rfl (Tryz.sizeMem _ hl) ?_))
  refine (gdigest_any l _ hl (unhide HR)).mono ?_
  rintro e w2 ⟨rfl, hb2⟩
  go_wp2
  go_ret2
  exact ⟨rfl, (hb1.alloc hb1.size _).trans (hb2.mono (by have := hb1.size; simp; omega))⟩

set_option maxRecDepth 100000 in
set_option maxHeartbeats 400000 in
theorem pdigest_no (b n c : Nat) (w : World) (hn : n ≠ 288) (hgL : Laid w) :
    Calls Tryz.prog 16 #[.slice (some ⟨b, 0, none⟩) n c] w fun e w' => e = .returned (.tuple #[.int .u32 0, .int .i64 8]) ∧ Below w.heap.size w w' := by
  go_enter Tryz.func16, Tryz.ntmps16
  go_wp2_with fail
  refine (digest_no b n c w hn).mono ?_
  rintro e w1 ⟨rfl, hb1⟩
  have hL1 := hgL.below hgL.lt hb1
  go_wp2_with fail
  refine (told_kind 8 w1 hL1).mono ?_
  rintro e w2 ⟨rfl, hb2⟩
  go_wp2
  go_ret2
  exact ⟨rfl, hb1.trans (hb2.mono hb1.size)⟩

set_option maxRecDepth 100000 in
set_option maxHeartbeats 400000 in
theorem pdigest_yes (b c : Nat) (l : List Int) (w : World) (hl : l.length = 288) (hr : ∀ j : Nat, 0 ≤ l.getD j 0 ∧ l.getD j 0 ≤ 255) (hcap : 288 ≤ c) (hbl : b < w.heap.size)
    (hc : ∀ j, j < 288 → w.cell? ⟨b, j, none⟩ = some (.int .u8 (l.getD j 0))) :
    Calls Tryz.prog 16 #[.slice (some ⟨b, 0, none⟩) 288 c] w fun e w' => e = .returned (.tuple #[.int .u32 (digL l), .int .i64 0]) ∧ Below w.heap.size w w' := by
  have HC := hide hc
  have HR := hide hr
  clear hc hr
  go_enter Tryz.func16, Tryz.ntmps16
  go_wp2_with fail
  refine (digest_yes b c l w hl (unhide HR) hcap hbl (unhide HC)).mono ?_
  rintro e w1 ⟨rfl, hb1⟩
  go_wp2_with fail
  refine (told_nil w1).mono ?_
  rintro e w2 ⟨rfl, hb2⟩
  go_wp2
  go_ret2
  exact ⟨rfl, hb1.trans (hb2.mono hb1.size)⟩
end Go.Proofs.YtandblanpafjoabGreatDoor

namespace Go.Proofs.YtandblanpafjoabGreatDoor
open Go.RowKit

/-! What is confirmed, where all know all; a peer that hears nothing stalls. -/
theorem confTo_ge (x : PeerM) (c : Nat) (hf : c ≤ x.frame) : ∀ k, (∀ q, q < k → c ≤ (x.known q).length) → c ≤ confTo x k
  | 0, _ => hf
  | k + 1, h => by
    unfold confTo
    have := confTo_ge x c hf k (fun q hq => h q (by omega))
    have := h k (by omega)
    omega
/-- The least of a frame and of how long rows are. -/
def leastTo (real : Nat → List Int) (f : Nat) : Nat → Nat
  | 0 => f
  | q + 1 => min (leastTo real f q) (real q).length
theorem Full.conf {n : NetM} {real : Nat → List Int} (h : Full n real) {p : Nat} (hp : p < n.players) : n.conf p = leastTo real (n.peers p).frame n.players := by
  unfold NetM.conf
  have : ∀ k, k ≤ n.players → confTo (n.peers p) k = leastTo real (n.peers p).frame k := by
    intro k
    induction k with
    | zero => intro _; rfl
    | succ k ih =>
      intro hk
      unfold confTo leastTo
      rw [ih (by omega), h p k hp (by omega)]
  exact this _ (Nat.le_refl _)
/-- After twenty ticks. -/
theorem settled {n : NetM} {real : Nat → List Int} (h : Inv n real) (j : Jnv n) : Inv (ticks n 20) real ∧ Full (ticks n 20) real ∧ (ticks n 20).players = n.players ∧ (ticks n 20).flights.length ≤ 8 * (n.players * n.players) := by
  obtain ⟨h1, _, _, h4, _, h6, _, h8⟩ := ticks_spec h j 20
  exact ⟨h1, h6 (by omega), h4, Nat.le_trans (h8 (by omega)) (by omega)⟩

def goes (n : NetM) (k : Nat) (ins : Nat → Int) : Nat → NetM
  | 0 => n
  | i + 1 => ((goes n k ins i).advance k (ins i)).2
theorem stall_at {players window delay : Nat} {lags : List Int} (hp : 2 ≤ players) (hw : 1 ≤ window ∧ window ≤ 8) (hd : delay ≤ 3) (k : Nat) (hk : k < players) (ins : Nat → Int) : ∀ i, i ≤ window + delay →
    ((goes (newM players window delay lags) k ins i).players = players ∧ (goes (newM players window delay lags) k ins i).window = window ∧ ((goes (newM players window delay lags) k ins i).peers k).frame = i ∧ (((goes (newM players window delay lags) k ins i).peers k).known k).length = delay + i ∧ (∀ q, q ≠ k → (((goes (newM players window delay lags) k ins i).peers k).known q).length = delay)) ∧
    (goes (newM players window delay lags) k ins i).conf k = min i delay ∧ ((goes (newM players window delay lags) k ins i).advance k (ins i)).1 = if i < window + delay then 0 else 4
  | 0, hi => by
    have hc : (newM players window delay lags).conf k = min 0 delay := by
      have := confTo_frame ((newM players window delay lags).peers k) players
      simp [newM] at this
      rw [Nat.zero_min]
      exact this
    refine ⟨⟨rfl, rfl, rfl, by simp [goes, newM], fun q _ => by simp [goes, newM]⟩, hc, ?_⟩
    show ((newM players window delay lags).advance k (ins 0)).1 = _
    unfold NetM.advance
    rw [hc, if_neg (by simp [newM]), if_neg (by simp [newM]; omega), if_pos (by omega)]
  | i + 1, hi => by
    obtain ⟨⟨a1, a2, a3, a4, a5⟩, a6, a7⟩ := stall_at (lags := lags) hp hw hd k hk ins i (by omega)
    have hadv : (goes (newM players window delay lags) k ins (i + 1)) = sendTo ((goes (newM players window delay lags) k ins i).stepped k (ins i)) k players := by
      show ((goes (newM players window delay lags) k ins i).advance k (ins i)).2 = _
      unfold NetM.advance
      rw [if_neg (by omega), if_neg (by rw [a2, a3, a6]; omega), a1]
    rw [hadv]
    generalize goes (newM players window delay lags) k ins i = g at *
    obtain ⟨s1, s2, _, _, s5, _⟩ := sendTo_same (g.stepped k (ins i)) k players
    have f1 : ((sendTo (g.stepped k (ins i)) k players).peers k).frame = i + 1 := by rw [s2, stepped_frame, if_pos rfl, a3]
    have f2 : (((sendTo (g.stepped k (ins i)) k players).peers k).known k).length = delay + (i + 1) := by rw [s2, stepped_known, if_pos ⟨rfl, rfl⟩]; simp; omega
    have f3 : ∀ q, q ≠ k → (((sendTo (g.stepped k (ins i)) k players).peers k).known q).length = delay := fun q hq => by rw [s2, stepped_known, if_neg (fun e => hq e.2)]; exact a5 q hq
    have f4 : (sendTo (g.stepped k (ins i)) k players).players = players := s1.trans a1
    have f5 : (sendTo (g.stepped k (ins i)) k players).window = window := s5.trans a2
    have hc : (sendTo (g.stepped k (ins i)) k players).conf k = min (i + 1) delay := by
      unfold NetM.conf
      rw [f4]
      have c1 := confTo_frame ((sendTo (g.stepped k (ins i)) k players).peers k) players
      rw [f1] at c1
      obtain ⟨q, hq, hqk⟩ : ∃ q, q < players ∧ q ≠ k := by
        by_cases e : k = 0
        · exact ⟨1, by omega, by omega⟩
        · exact ⟨0, by omega, by omega⟩
      have c2 := confTo_known ((sendTo (g.stepped k (ins i)) k players).peers k) players q hq
      rw [f3 q hqk] at c2
      have c3 := confTo_ge ((sendTo (g.stepped k (ins i)) k players).peers k) (min (i + 1) delay) (by rw [f1]; omega) players (fun r _ => by
        by_cases e : r = k
        · rw [e, f2]; omega
        · rw [f3 r e]; omega)
      omega
    refine ⟨⟨f4, f5, f1, f2, f3⟩, hc, ?_⟩
    unfold NetM.advance
    rw [f1, f5, hc, if_neg (by omega)]
    by_cases hl : i + 1 < window + delay
    · rw [if_neg (by omega), if_pos hl]
    · rw [if_pos (by omega), if_neg hl]
end Go.Proofs.YtandblanpafjoabGreatDoor

