import Derived.Test.YtandblanpafjoabGreatDoorGDig
import Derived.Test.YtandblanpafjoabGreatDoorCom
import Derived.RegionTactic
import Derived.Laws.ResultCell
namespace Go.Proofs.YtandblanpafjoabGreatDoor
open Go.RowKit Go.Extern.Stop Go.Stop Go.Extern

def Z288 : List Int := List.replicate 288 0
theorem Z288_len : Z288.length = 288 := List.length_replicate
theorem Tryz.infoMem : (Tryz.prog.info? 106).map (fun i => (i.zero, i.size)) = some (some (.agg (nums .u8 Z288)), 288) := by kernel_rfl
theorem Tryz.zeroMem (w : World) : (zeroValue 106).run Tryz.prog w = .ok (.agg (nums .u8 Z288)) w := (zero_of_info Tryz.infoMem).1 w
theorem Tryz.sizeMem (l : List Int) (hl : l.length = 288) : (Tryz.prog.info? 106).map (·.size) = some (nums .u8 l).size := by
  rw [nums_size, hl]; exact (zero_of_info Tryz.infoMem).2

def memTo (l : List Int) (k : Nat) : List Int := l.take (16 * k) ++ List.replicate (288 - 16 * k) 0
theorem memTo_len (l : List Int) (k : Nat) (hl : l.length = 288) (hk : k ≤ 18) : (memTo l k).length = 288 := by simp [memTo, hl]; omega
theorem memTo_zero (l : List Int) : memTo l 0 = Z288 := by rw [memTo, Nat.mul_zero, List.take_zero, List.nil_append]; rfl
theorem memTo_all (l : List Int) (hl : l.length = 288) : memTo l 18 = l := by simp [memTo, List.take_of_length_le (show l.length ≤ 16 * 18 by omega)]
theorem memTo_succ (l : List Int) (k : Nat) (hl : l.length = 288) (hk : k < 18) : (memTo l k).take (16 * k) ++ pageL l k ++ (memTo l k).drop (16 * k + 16) = memTo l (k + 1) := by
  have h1 : (memTo l k).take (16 * k) = l.take (16 * k) := by
    rw [memTo, List.take_append_of_le_length (by simp [hl]; omega), List.take_take, Nat.min_self]
  have h2 : (memTo l k).drop (16 * k + 16) = List.replicate (288 - 16 * (k + 1)) 0 := by
    have hlen : (l.take (16 * k)).length = 16 * k := by simp [hl]; omega
    rw [memTo, List.drop_append, hlen, show 16 * k + 16 - 16 * k = 16 by omega, List.drop_of_length_le (by rw [hlen]; omega), List.nil_append, List.drop_replicate]
    congr 1
  rw [h1, h2, memTo, pageL, show 16 * (k + 1) = 16 * k + 16 by omega, List.take_add (l := l) (i := 16 * k) (j := 16)]

end Go.Proofs.YtandblanpafjoabGreatDoor
