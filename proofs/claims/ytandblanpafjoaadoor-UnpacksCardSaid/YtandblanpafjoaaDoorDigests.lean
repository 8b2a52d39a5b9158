import Derived.Test.YtandblanpafjoaaDoorRead
import Derived.Test.YtandblanpafjoaaDoorTold
namespace Go.Proofs.YtandblanpafjoaaDoor
open Go.RowKit Go.Extern.Stop Go.Stop Go.Extern

set_option maxRecDepth 100000 in
set_option maxHeartbeats 400000 in
theorem digest_no (b n c : Nat) (w : World) (hn : n ≠ 288) :
    Calls Tryd.prog 32 #[.slice (some ⟨b, 0, none⟩) n c] w fun e w' => e = .returned (.tuple #[.int .u32 0, .iface 23 (.int .i64 8)]) ∧ Below w.heap.size w w' := by
  have hz := Tryd.zeroMem
  go_enter Tryd.func32, Tryd.ntmps32
  go_wp2_with fail
  refine (gread_no b n c w hn).mono ?_
  rintro e w1 ⟨rfl, hb1⟩
  go_wp2_with (refine wpList_store_new rfl 81 _ _ rfl (nums .u8 Z288) (nums .u8 Z288) rfl rfl (Tryd.sizeMem _ Z288_len) rfl (nums_one _ _) ?_)
  go_ret2
  exact ⟨rfl, hb1.alloc hb1.size _⟩

set_option maxRecDepth 100000 in
set_option maxHeartbeats 400000 in
theorem digest_yes (b c : Nat) (l : List Int) (w : World) (hl : l.length = 288) (hr : ∀ j : Nat, 0 ≤ l.getD j 0 ∧ l.getD j 0 ≤ 255) (hcap : 288 ≤ c) (hbl : b < w.heap.size)
    (hc : ∀ j, j < 288 → w.cell? ⟨b, j, none⟩ = some (.int .u8 (l.getD j 0))) :
    Calls Tryd.prog 32 #[.slice (some ⟨b, 0, none⟩) 288 c] w fun e w' => e = .returned (.tuple #[.int .u32 (digL l), .nilIface]) ∧ Below w.heap.size w w' := by
  have hz := Tryd.zeroMem
  have HC := hide hc
  have HR := hide hr
  clear hc hr
  go_enter Tryd.func32, Tryd.ntmps32
  go_wp2_with fail
  refine (gread_yes b c l w hl hcap hbl (unhide HC)).mono ?_
  rintro e w1 ⟨rfl, hb1⟩
  go_wp2_with (first | (refine wpList_store_new rfl 81 _ _ rfl (nums .u8 Z288) (nums .u8 l) rfl rfl (Tryd.sizeMem _ hl) (by rw [nums_size, nums_size, hl, Z288_len]) (nums_one _ _) ?_) | (refine wpList_load_blk rfl 81 _ rfl w1.heap.size rfl 81 (nums .u8 l) _ (Blk.new _ _ _) Tryd.underlying81 rfl (Tryd.sizeMem _ hl) ?_))
  refine (gdigest_any l _ hl (unhide HR)).mono ?_
  rintro e w2 ⟨rfl, hb2⟩
  go_wp2
  go_ret2
  exact ⟨rfl, (hb1.alloc hb1.size _).trans (hb2.mono (by have := hb1.size; simp; omega))⟩

set_option maxRecDepth 100000 in
set_option maxHeartbeats 400000 in
theorem pdigest_no (b n c : Nat) (w : World) (hn : n ≠ 288) (hgL : Laid w) :
    Calls Tryd.prog 21 #[.slice (some ⟨b, 0, none⟩) n c] w fun e w' => e = .returned (.tuple #[.int .u32 0, .int .i64 8]) ∧ Below w.heap.size w w' := by
  go_enter Tryd.func21, Tryd.ntmps21
  go_wp2_with fail
  refine (digest_no b n c w hn).mono ?_
  rintro e w1 ⟨rfl, hb1⟩
  have hL1 := hgL.below hgL.lt hb1
  go_wp2_with fail
  refine (told_kind 8 w1 hL1).mono ?_
  rintro e w2 ⟨rfl, hb2⟩
  go_wp2
  go_ret2
  exact ⟨rfl, hb1.trans (hb2.mono hb1.size)⟩

set_option maxRecDepth 100000 in
set_option maxHeartbeats 400000 in
theorem pdigest_yes (b c : Nat) (l : List Int) (w : World) (hl : l.length = 288) (hr : ∀ j : Nat, 0 ≤ l.getD j 0 ∧ l.getD j 0 ≤ 255) (hcap : 288 ≤ c) (hbl : b < w.heap.size)
    (hc : ∀ j, j < 288 → w.cell? ⟨b, j, none⟩ = some (.int .u8 (l.getD j 0))) :
    Calls Tryd.prog 21 #[.slice (some ⟨b, 0, none⟩) 288 c] w fun e w' => e = .returned (.tuple #[.int .u32 (digL l), .int .i64 0]) ∧ Below w.heap.size w w' := by
  have HC := hide hc
  have HR := hide hr
  clear hc hr
  go_enter Tryd.func21, Tryd.ntmps21
  go_wp2_with fail
  refine (digest_yes b c l w hl (unhide HR) hcap hbl (unhide HC)).mono ?_
  rintro e w1 ⟨rfl, hb1⟩
  go_wp2_with fail
  refine (told_nil w1).mono ?_
  rintro e w2 ⟨rfl, hb2⟩
  go_wp2
  go_ret2
  exact ⟨rfl, hb1.trans (hb2.mono hb1.size)⟩
end Go.Proofs.YtandblanpafjoaaDoor
