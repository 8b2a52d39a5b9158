import Derived.Test.YtandblanpafjoabGreatDoorFnv
import Derived.Lib.EndianBits
import Derived.Laws.BitsAllLaws
namespace Go.Proofs.YtandblanpafjoabGreatDoor
open Go.RowKit Go.Extern.Stop Go.Stop Go.Extern

theorem or_pair (a b : Int) (ha0 : 0 ≤ a) (ha1 : a ≤ 4294967295) (hb0 : 0 ≤ b) (hb1 : b ≤ 4294967295) : bits .or .u64 (a * 4294967296) b = a * 4294967296 + b := by
  rw [u64_or _ _ (by omega) (by omega) hb0 (by omega), Nat.or_comm, ← u64_or _ _ hb0 (by omega) (by omega) (by omega)]
  rw [u64_or32 _ _ hb0 (by omega) (by omega) (by omega) (by omega)]
  omega

def bytes4 (v : Int) : List Int := [v / 16777216, v / 65536 % 256, v / 256 % 256, v % 256]
def joinI (a b : Int) : Int := fnvL (bytes4 a ++ bytes4 b)
theorem joinI_range (a b : Int) : 0 ≤ joinI a b ∧ joinI a b ≤ 4294967295 := fnvL_range _
def bytes8 (p : Int) : List Int := [p / 72057594037927936 % 256, p / 281474976710656 % 256, p / 1099511627776 % 256, p / 4294967296 % 256, p / 16777216 % 256, p / 65536 % 256, p / 256 % 256, p % 256]
theorem bytes8_pair (a b : Int) (ha0 : 0 ≤ a) (ha1 : a ≤ 4294967295) (hb0 : 0 ≤ b) (hb1 : b ≤ 4294967295) : bytes8 (a * 4294967296 + b) = bytes4 a ++ bytes4 b := by
  simp only [bytes8, bytes4, List.cons_append, List.nil_append, List.cons.injEq, and_true]
  refine ⟨?_, ?_, ?_, ?_, ?_, ?_, ?_, ?_⟩ <;> omega
theorem bytes8_range (p : Int) (j : Nat) : 0 ≤ (bytes8 p).getD j 0 ∧ (bytes8 p).getD j 0 ≤ 255 := by
  unfold bytes8
  match j with
  | 0 | 1 | 2 | 3 | 4 | 5 | 6 | 7 => simp; omega
  | n + 8 => simp

set_option maxHeartbeats 400000 in
theorem joined_any (a b : Int) (w : World) (ha : 0 ≤ a ∧ a ≤ 4294967295) (hb : 0 ≤ b ∧ b ≤ 4294967295) :
    Calls Tryz.prog 76 #[.int .u32 a, .int .u32 b] w fun e w' => e = .returned (.int .u32 (joinI a b)) ∧ Below w.heap.size w w' := by
  obtain ⟨ha0, ha1⟩ := ha
  obtain ⟨hb0, hb1⟩ := hb
  have hp := or_pair a b ha0 ha1 hb0 hb1
  go_enter Tryz.func76, Tryz.ntmps76
  go_wp2
  have hp0 : 0 ≤ a * 4294967296 + b := by omega
  generalize hq : a * 4294967296 + b = p at *
  have HQ := hide hq
  clear hq hp
  refine wp_loop_rounds 9 ?_
  iterate 9 (rw [rounds_succ]; go_wp2_with fail)
  refine (gfnv_any _ 0 8 8 (bytes8 p) _ rfl (by omega) ?_ (bytes8_range p)).mono ?_
  · intro j hj
    match j, hj with
    | 0, _ | 1, _ | 2, _ | 3, _ | 4, _ | 5, _ | 6, _ | 7, _ => simp [bytes8]
    | n + 8, h => omega
  rintro e w' ⟨rfl, rfl⟩
  go_wp2
  go_ret
  exact ⟨ret_int (by rw [← unhide HQ, bytes8_pair a b ha0 ha1 hb0 hb1]; rfl), (Below.refl _ _).alloc (Nat.le_refl _) _⟩
end Go.Proofs.YtandblanpafjoabGreatDoor
