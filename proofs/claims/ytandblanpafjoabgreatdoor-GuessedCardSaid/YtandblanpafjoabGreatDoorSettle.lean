import Derived.Test.YtandblanpafjoabGreatDoorShip2
namespace Go.Proofs.YtandblanpafjoabGreatDoor
open Go.RowKit Go.Extern.Stop Go.Stop Go.Extern

theorem put_at (S : Int) (g k x y h t s : Nat) (hS : S = (s : Int)) (m : List Int) (w : World) (hm : m.length = 288) (hk : k < 4) (hx : x < 16) (hy : y < 16) (hh : h < 4) (ht : t < 4) (hs : s < 65536) (hblk : Blk w g (nums .u8 m) 106) :
    Calls Tryz.prog 70 #[.pointer (some ⟨g, 0, none⟩), .int .i64 (k : Int), .agg #[.complex .f64 (fo (x : Int)) (fo (y : Int)), .complex .f64 (tre h t) (tim h t), .int .u16 S]] w
      fun e w' => e = .returned (.tuple #[]) ∧ Blk w' g (nums .u8 (putL m k x y (newHead h t) s)) 106 ∧ w.grownBy w' (some g) := by
  subst hS; exact put_any g k x y h t s m w hm hk hx hy hh ht hs hblk

theorem grown_new {a b c : World} {r : Option Nat} {q : Nat} (h : a.grownBy b r) (k : b.grownBy c (some q)) (hq : a.heap.size ≤ q) : a.grownBy c r :=
  ⟨k.os.trans h.os, k.tape.trans h.tape, k.output.trans h.output, Nat.le_trans h.size k.size, fun i hi hr => (k.block i (Nat.lt_of_lt_of_le hi h.size) (fun e => by injection e with e'; omega)).trans (h.block i hi hr)⟩

def settleL (m : List Int) (k x y h s i : Nat) : List Int :=
  if i / 4 % 2 = 1 ∧ m.getD (16 * y + x) 0 ≠ (k : Int) + 1 then putL (m.set (16 * y + x) ((k : Int) + 1)) k x y h ((s + 1) % 65536) else putL m k x y h s

theorem sizeU16 : (Tryz.prog.info? 157).map (·.size) = some 1 := by kernel_rfl

set_option maxRecDepth 10000 in
set_option maxHeartbeats 1000000 in
theorem settle_any (g k x y h t s i : Nat) (m : List Int) (w : World) (hm : m.length = 288) (hk : k < 4) (hx : x < 16) (hy : y < 16) (hh : h < 4) (ht : t < 4) (hs : s < 65536) (hi : i < 256) (hr : ∀ j : Nat, 0 ≤ m.getD j 0 ∧ m.getD j 0 ≤ 255)
    (hblk : Blk w g (nums .u8 m) 106) :
    Calls Tryz.prog 74 #[.pointer (some ⟨g, 0, none⟩), .int .i64 (k : Int), .agg #[.complex .f64 (fo (x : Int)) (fo (y : Int)), .complex .f64 (tre h t) (tim h t), .int .u16 (s : Int)], .int .u8 (i : Int)] w
      fun e w' => e = .returned (.tuple #[]) ∧ Blk w' g (nums .u8 (settleL m k x y (newHead h t) s i)) 106 ∧ w.grownBy w' (some g) := by
  have hgl := hblk.lt
  have hand := and4_table ⟨i, hi⟩
  simp only at hand
  have hb0 := hblk.alloc (.cells #[.complex .f64 (fo (x : Int)) (fo (y : Int)), .complex .f64 (tre h t) (tim h t), .int .u16 (s : Int)] 159)
  have hg0 := (World.grownBy_alloc w (.cells #[.complex .f64 (fo (x : Int)) (fo (y : Int)), .complex .f64 (tre h t) (tim h t), .int .u16 (s : Int)] 159) (some g))
  have hcc := hb0.num (16 * y + x) (by omega)
  have hrc := hr (16 * y + x)
  have hlt : i / 4 % 2 < 2 := Nat.mod_lt _ (by omega)
  by_cases hp : i / 4 % 2 = 1
  · rw [hp] at hand
    simp at hand
    by_cases hq : m.getD (16 * y + x) 0 = (k : Int) + 1
    · have hcc' := hcc
      rw [hq] at hcc'
      have e : settleL m k x y (newHead h t) s i = putL m k x y (newHead h t) s := by unfold settleL; rw [if_neg (fun hh => hh.2 hq)]
      rw [e]
      clear hcc e hq hr hp
      go_enter Tryz.func74, Tryz.ntmps74
      go_wp2_with fail
      refine (cell_any g x y _ hx hy).mono ?_
      rintro e w1 ⟨rfl, rfl⟩
      go_wp2_with fail
      refine (put_any g k x y h t s m _ hm hk hx hy hh ht hs hb0).mono ?_
      rintro e w2 ⟨rfl, hb2, hg2⟩
      go_wp2
      go_end0
      exact ⟨rfl, hb2, grown_trans hg0 hg2⟩
    · have hne : (m.getD (16 * y + x) 0 != (k : Int) + 1) = true := by rw [bne_iff_ne]; exact hq
      have e : settleL m k x y (newHead h t) s i = putL (m.set (16 * y + x) ((k : Int) + 1)) k x y (newHead h t) ((s + 1) % 65536) := by unfold settleL; rw [if_pos ⟨hp, hq⟩]
      rw [e]
      generalize m.getD (16 * y + x) 0 = c at *
      have hne2 : w.heap.size ≠ g := by omega
      have hbx := Blk.new w #[.complex .f64 (fo (x : Int)) (fo (y : Int)), .complex .f64 (tre h t) (tim h t), .int .u16 (s : Int)] 159
      clear e hq hr hp
      go_enter Tryz.func74, Tryz.ntmps74
      go_wp2_with fail
      refine (cell_any g x y _ hx hy).mono ?_
      rintro e w1 ⟨rfl, rfl⟩
      go_wp2_with (first
        | (refine wpList_store_num rfl 5 _ _ rfl _ _ .u8 _ _ _ rfl rfl (by assumption) (by (try simp only [List.length_set]); omega) sizeU8 ?_; intro w1 hb1 hg1 hz1 hcl1; have hbx1 := hbx.grown hg1 hne2)
        | (refine wpList_store_one rfl 157 _ _ rfl _ _ _ _ _ rfl rfl rfl (by assumption) (by simp) sizeU16 ?_; intro w2 hb2 hg2 hz2 hcl2; have hcb := hb2.cell))
      refine (put_at _ g k x y h t ((s + 1) % 65536) (by rw [IntKind.wrap_u16]; omega) (m.set (16 * y + x) ((k : Int) + 1)) _ (by simp [hm]) hk hx hy hh ht (Nat.mod_lt _ (by omega)) (hb1.grown hg2 (Ne.symm hne2))).mono ?_
      rintro e w3 ⟨rfl, hb3, hg3⟩
      go_wp2
      go_end0
      refine ⟨rfl, hb3, ?_⟩
      exact grown_trans (grown_new (grown_trans hg0 hg1) hg2 (Nat.le_refl _)) hg3
  · have hp0 : i / 4 % 2 = 0 := by omega
    rw [hp0] at hand
    simp at hand
    have e : settleL m k x y (newHead h t) s i = putL m k x y (newHead h t) s := by unfold settleL; rw [if_neg (fun hh => hp hh.1)]
    rw [e]
    clear hcc e hr hp hp0
    go_enter Tryz.func74, Tryz.ntmps74
    go_wp2_with fail
    refine (cell_any g x y _ hx hy).mono ?_
    rintro e w1 ⟨rfl, rfl⟩
    go_wp2_with fail
    refine (put_any g k x y h t s m _ hm hk hx hy hh ht hs hb0).mono ?_
    rintro e w2 ⟨rfl, hb2, hg2⟩
    go_wp2
    go_end0
    exact ⟨rfl, hb2, grown_trans hg0 hg2⟩
end Go.Proofs.YtandblanpafjoabGreatDoor
