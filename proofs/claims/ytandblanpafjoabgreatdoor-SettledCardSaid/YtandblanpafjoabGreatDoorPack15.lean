import Derived.Test.YtandblanpafjoabGreatDoorPack14
import Derived.Deep.RegionHeld3
import Derived.Test.YtandblanpafjoabGreatDoorPack01
import Derived.Lib.EndianBits
import Derived.Laws.BitsAllLaws
namespace Go.Proofs.YtandblanpafjoabGreatDoor
open Go.RowKit Go.Extern.Stop Go.Stop Go.Extern

set_option maxHeartbeats 400000 in
theorem headingOf_any (n : Nat) (w : World) (hn : n < 4) :
    Calls Tryz.prog 100 #[.int .u8 (n : Int)] w fun e w' => e = .returned (.complex .f64 (hre n) (him n)) ∧ w' = w := by
  match n, hn with
  | 0, _ | 1, _ | 2, _ | 3, _ =>
    go_enter Tryz.func100, Tryz.ntmps100
    go_wp2
    go_ret
    exact ⟨rfl, rfl⟩

set_option maxHeartbeats 400000 in
theorem numberOf_any (h t : Nat) (w : World) (hh : h < 4) (ht : t < 4) :
    Calls Tryz.prog 99 #[.complex .f64 (tre h t) (tim h t)] w fun e w' => e = .returned (.int .u8 (newHead h t : Int)) ∧ w' = w := by
  obtain ⟨e1, e2, e3⟩ := num_table ⟨h, hh⟩ ⟨t, ht⟩
  have hlt := newHead_lt h t hh
  simp only at e1 e2 e3
  have r1 : ∀ ty w, (binOp .eql ty (.complex .f64 (tre h t) (tim h t)) (.complex .f64 0 4607182418800017408)).run Tryz.prog w = .ok (.bool (decide (newHead h t = 1))) w := fun ty w => by rw [run_eql_complex, e1]
  have r2 : ∀ ty w, (binOp .eql ty (.complex .f64 (tre h t) (tim h t)) (.complex .f64 13830554455654793216 0)).run Tryz.prog w = .ok (.bool (decide (newHead h t = 2))) w := fun ty w => by rw [run_eql_complex, e2]
  have r3 : ∀ ty w, (binOp .eql ty (.complex .f64 (tre h t) (tim h t)) (.complex .f64 0 13830554455654793216)).run Tryz.prog w = .ok (.bool (decide (newHead h t = 3))) w := fun ty w => by rw [run_eql_complex, e3]
  clear e1 e2 e3
  generalize newHead h t = n at *
  generalize tre h t = a at *
  generalize tim h t = b at *
  match n, hlt with
  | 0, _ | 1, _ | 2, _ | 3, _ =>
    simp at r1 r2 r3
    go_enter Tryz.func99, Tryz.ntmps99
    go_wp2
    go_ret
    exact ⟨rfl, rfl⟩

set_option maxHeartbeats 400000 in
theorem wrapped_any (n : Int) (w : World) (h0 : -1 ≤ n) (h1 : n ≤ 16) :
    Calls Tryz.prog 101 #[.float .f64 (fo n)] w fun e w' => e = .returned (.float .f64 (fo (n % 16))) ∧ w' = w := by
  have hc := toInt n h0 h1
  go_enter Tryz.func101, Tryz.ntmps101
  go_wp2
  go_ret
  exact ⟨rfl, rfl⟩

set_option maxHeartbeats 400000 in
theorem cell_any (g x y : Nat) (w : World) (hx : x < 16) (hy : y < 16) :
    Calls Tryz.prog 102 #[.pointer (some ⟨g, 0, none⟩), .complex .f64 (fo (x : Int)) (fo (y : Int))] w fun e w' => e = .returned (.pointer (some ⟨g, 16 * y + x, none⟩)) ∧ w' = w := by
  have hcx := toInt (x : Int) (by omega) (by omega)
  have hcy := toInt (y : Int) (by omega) (by omega)
  have hy2 : (y : Int) < 18 := by omega
  have hx2 : (x : Int) < 16 := by omega
  go_enter Tryz.func102, Tryz.ntmps102
  go_wp2
  go_ret
  exact ⟨by rw [Nat.mul_comm 16 y]; rfl, rfl⟩

def scap : Nat → Nat | 0 => 16 | 2 => 16 | _ => 8
set_option maxHeartbeats 400000 in
theorem shipBytes_any (g k : Nat) (w : World) (hk : k < 4) :
    Calls Tryz.prog 98 #[.pointer (some ⟨g, 0, none⟩), .int .i64 (k : Int)] w fun e w' => e = .returned (.slice (some ⟨g, 256 + 8 * k, none⟩) 8 (scap k)) ∧ w' = w := by
  match k, hk with
  | 0, _ | 1, _ | 2, _ | 3, _ =>
    go_enter Tryz.func98, Tryz.ntmps98
    go_wp2
    go_ret
    exact ⟨rfl, rfl⟩

theorem and3_table : ∀ i : Fin 256, bits .and .u8 (i.val : Int) 3 = ((i.val % 4 : Nat) : Int) := by decide +kernel
theorem and4_table : ∀ i : Fin 256, bits .and .u8 (i.val : Int) 4 = ((4 * (i.val / 4 % 2) : Nat) : Int) := by decide +kernel

set_option maxHeartbeats 400000 in
theorem turned_any (a b h i : Nat) (s : Int) (w : World) (hh : h < 4) (hi : i < 256) :
    Calls Tryz.prog 72 #[.agg #[.complex .f64 a b, .complex .f64 (hre h) (him h), .int .u16 s], .int .u8 (i : Int)] w fun e w' => e = .returned (.agg #[.complex .f64 a b, .complex .f64 (tre h (i % 4)) (tim h (i % 4)), .int .u16 s]) ∧ Below w.heap.size w w' := by
  have hand := and3_table ⟨i, hi⟩
  simp only at hand
  have r1 := cmul_left h hh
  have r2 := cmul_right h hh
  have hsc := store_complex
  have hlt : i % 4 < 4 := Nat.mod_lt _ (by omega)
  have H0 : Hid (∀ t, t ≠ 1 → t ≠ 2 → tre h t = hre h ∧ tim h t = him h) := hide (fun t h1 h2 => by
    unfold tre tim
    split <;> simp_all)
  generalize i % 4 = t at *
  match t, hlt with
  | 0, _ | 3, _ =>
    first | rw [(unhide H0 0 (by decide) (by decide)).1, (unhide H0 0 (by decide) (by decide)).2] | rw [(unhide H0 3 (by decide) (by decide)).1, (unhide H0 3 (by decide) (by decide)).2]
    simp at hand
    clear H0
    go_enter Tryz.func72, Tryz.ntmps72
    go_wp2
    exact bodyPost_ret (v := .agg #[.complex .f64 a b, .complex .f64 (hre h) (him h), .int .u16 s]) (by simp [results, Tryz.results72, go_sem]) rfl ⟨rfl, ((Below.refl _ _).alloc (Nat.le_refl _) _).alloc (by simp) _⟩
  | 1, _ =>
    simp at hand
    clear H0
    go_enter Tryz.func72, Tryz.ntmps72
    go_wp2
    exact bodyPost_ret (v := .agg #[.complex .f64 a b, .complex .f64 (tre h 1) (tim h 1), .int .u16 s]) (by simp [results, Tryz.results72, go_sem]) rfl ⟨rfl, ((Below.refl _ _).alloc (Nat.le_refl _) _).alloc (by simp) _⟩
  | 2, _ =>
    simp at hand
    clear H0
    go_enter Tryz.func72, Tryz.ntmps72
    go_wp2
    exact bodyPost_ret (v := .agg #[.complex .f64 a b, .complex .f64 (tre h 2) (tim h 2), .int .u16 s]) (by simp [results, Tryz.results72, go_sem]) rfl ⟨rfl, ((Below.refl _ _).alloc (Nat.le_refl _) _).alloc (by simp) _⟩

/-- Where a ship would go. -/
def goX (x h t : Nat) : Nat := if t = 3 then x else (((x : Int) + dxI (newHead h t)) % 16).toNat
def goY (y h t : Nat) : Nat := if t = 3 then y else (((y : Int) + dyI (newHead h t)) % 16).toNat
theorem goX_lt (x h t : Nat) (hx : x < 16) : goX x h t < 16 := by unfold goX; split <;> omega
theorem goY_lt (x h t : Nat) (hx : x < 16) : goY x h t < 16 := by unfold goY; split <;> omega
theorem dxI_range (h : Nat) : -1 ≤ dxI h ∧ dxI h ≤ 1 := by unfold dxI; split <;> omega
theorem dyI_range (h : Nat) : -1 ≤ dyI h ∧ dyI h ≤ 1 := by unfold dyI; split <;> omega

set_option maxHeartbeats 400000 in
theorem target_any (x y h i : Nat) (s : Int) (w : World) (hx : x < 16) (hy : y < 16) (hh : h < 4) (hi : i < 256) :
    Calls Tryz.prog 73 #[.agg #[.complex .f64 (fo (x : Int)) (fo (y : Int)), .complex .f64 (tre h (i % 4)) (tim h (i % 4)), .int .u16 s], .int .u8 (i : Int)] w fun e w' => e = .returned (.complex .f64 (fo (goX x h (i % 4) : Int)) (fo (goY y h (i % 4) : Int))) ∧ Below w.heap.size w w' := by
  have hand := and3_table ⟨i, hi⟩
  simp only at hand
  have hlt : i % 4 < 4 := Nat.mod_lt _ (by omega)
  generalize i % 4 = t at *
  have ha := cadd x y h t hx hy hh hlt
  have hdx := dxI_range (newHead h t)
  have hdy := dyI_range (newHead h t)
  by_cases h3 : t = 3
  · subst h3
    simp at hand
    have ex : goX x h 3 = x := rfl
    have ey : goY y h 3 = y := rfl
    rw [ex, ey]
    clear ha ex ey
    go_enter Tryz.func73, Tryz.ntmps73
    go_wp2
    go_ret
    exact ⟨rfl, (Below.refl _ _).alloc (Nat.le_refl _) _⟩
  · have hne : ((t : Int) == 3) = false := by rw [beq_eq_false_iff_ne]; omega
    have ex : ((goX x h t : Nat) : Int) = ((x : Int) + dxI (newHead h t)) % 16 := by unfold goX; rw [if_neg h3]; omega
    have ey : ((goY y h t : Nat) : Int) = ((y : Int) + dyI (newHead h t)) % 16 := by unfold goY; rw [if_neg h3]; omega
    rw [ex, ey]
    clear ex ey
    go_enter Tryz.func73, Tryz.ntmps73
    go_wp2_with fail
    refine (wrapped_any _ _ (by omega) (by omega)).mono ?_
    rintro e w1 ⟨rfl, rfl⟩
    go_wp2_with fail
    refine (wrapped_any _ _ (by omega) (by omega)).mono ?_
    rintro e w1 ⟨rfl, rfl⟩
    go_wp2
    go_ret
    exact ⟨rfl, (Below.refl _ _).alloc (Nat.le_refl _) _⟩
end Go.Proofs.YtandblanpafjoabGreatDoor

namespace Go.Proofs.YtandblanpafjoabGreatDoor
open Go.RowKit Go.Extern.Stop Go.Stop Go.Extern

theorem or_bytes (a b : Nat) (ha : a < 256) (hb : b < 256) : bits .or .u16 ((a : Int) * 256) (b : Int) = (a : Int) * 256 + (b : Int) := by
  rw [u16_or _ _ (by omega) (by omega) (by omega) (by omega), Nat.or_comm, ← u16_or _ _ (by omega) (by omega) (by omega) (by omega)]
  rw [u16_or8 _ _ (by omega) (by omega) (by omega) (by omega) (by omega)]
  omega

/-- What lies in a memory of a ship. -/
structure ShipAt (m : List Int) (k x y h a b : Nat) : Prop where
  ex : m.getD (256 + 8 * k) 0 = (x : Int)
  ey : m.getD (256 + 8 * k + 1) 0 = (y : Int)
  eh : m.getD (256 + 8 * k + 2) 0 = (h : Int)
  ea : m.getD (256 + 8 * k + 3) 0 = (a : Int)
  eb : m.getD (256 + 8 * k + 4) 0 = (b : Int)
  hx : x < 16
  hy : y < 16
  hh : h < 4
  ha : a < 256
  hb : b < 256

set_option maxRecDepth 10000 in
set_option maxHeartbeats 1000000 in
theorem ship_any (g k x y h a b : Nat) (m : List Int) (w : World) (hm : m.length = 288) (hk : k < 4) (hs : ShipAt m k x y h a b) (hblk : Blk w g (nums .u8 m) 106) :
    Calls Tryz.prog 71 #[.pointer (some ⟨g, 0, none⟩), .int .i64 (k : Int)] w fun e w' => e = .returned (.agg #[.complex .f64 (fo (x : Int)) (fo (y : Int)), .complex .f64 (hre h) (him h), .int .u16 ((a : Int) * 256 + (b : Int))]) ∧ Below w.heap.size w w' := by
  have hgl := hblk.lt
  have hc0 := hblk.num (256 + 8 * k) (by omega)
  have hc1 := hblk.num (256 + 8 * k + 1) (by omega)
  have hc2 := hblk.num (256 + 8 * k + 2) (by omega)
  have hc3 := hblk.num (256 + 8 * k + 3) (by omega)
  have hc4 := hblk.num (256 + 8 * k + 4) (by omega)
  rw [hs.ex] at hc0
  rw [hs.ey] at hc1
  rw [hs.eh] at hc2
  rw [hs.ea] at hc3
  rw [hs.eb] at hc4
  have hor := or_bytes a b hs.ha hs.hb
  have hx := hs.hx
  have hy := hs.hy
  have hh := hs.hh
  have ha := hs.ha
  have hb := hs.hb
  have hsc := store_complex
  have HOR : Hid (bits .or .u16 (IntKind.u16.wrap (IntKind.u16.wrap (a : Int) * 256)) (IntKind.u16.wrap (b : Int)) = (a : Int) * 256 + (b : Int)) := by
    rw [u16_wrap_id (a : Int) (by omega) (by omega), u16_wrap_id ((a : Int) * 256) (by omega) (by omega), u16_wrap_id (b : Int) (by omega) (by omega), hor]; exact hide rfl
  clear hor
  clear hs hblk
  go_enter Tryz.func71, Tryz.ntmps71
  go_wp2_with fail
  refine (shipBytes_any g k _ hk).mono ?_
  rintro e w1 ⟨rfl, rfl⟩
  go_wp2_with fail
  go_region_held3 (fun w' => w'.cell? ⟨g, 256 + 8 * k, none⟩ = some (.int .u8 (x : Int)) ∧ w'.cell? ⟨g, 256 + 8 * k + 1, none⟩ = some (.int .u8 (y : Int)) ∧ w'.cell? ⟨g, 256 + 8 * k + 2, none⟩ = some (.int .u8 (h : Int)) ∧ w'.cell? ⟨g, 256 + 8 * k + 3, none⟩ = some (.int .u8 (a : Int)) ∧ w'.cell? ⟨g, 256 + 8 * k + 4, none⟩ = some (.int .u8 (b : Int))) (go_keep) (first | (go_at_call 100; refine (headingOf_any h _ hh).mono ?_; rintro e w' ⟨rfl, rfl⟩))
  all_goals
    go_wp2
    refine bodyPost_ret (v := .agg #[.complex .f64 (fo (x : Int)) (fo (y : Int)), .complex .f64 (hre h) (him h), .int .u16 ((a : Int) * 256 + (b : Int))]) (by simp [results, Tryz.results71, go_sem]; exact ⟨⟨rfl, rfl⟩, unhide HOR⟩) rfl ⟨rfl, ((Below.refl _ _).alloc (Nat.le_refl _) _).drew⟩

/-- A ship put into a memory. -/
def putL (m : List Int) (k x y h s : Nat) : List Int :=
  ((((m.set (256 + 8 * k) (x : Int)).set (256 + 8 * k + 1) (y : Int)).set (256 + 8 * k + 2) (h : Int)).set (256 + 8 * k + 3) ((s / 256 : Nat) : Int)).set (256 + 8 * k + 4) ((s % 256 : Nat) : Int)

theorem sizeU8 : (Tryz.prog.info? 5).map (·.size) = some 1 := by kernel_rfl

set_option maxRecDepth 10000 in
set_option maxHeartbeats 1000000 in
theorem put_any (g k x y h t s : Nat) (m : List Int) (w : World) (hm : m.length = 288) (hk : k < 4) (hx : x < 16) (hy : y < 16) (hh : h < 4) (ht : t < 4) (hs : s < 65536) (hblk : Blk w g (nums .u8 m) 106) :
    Calls Tryz.prog 70 #[.pointer (some ⟨g, 0, none⟩), .int .i64 (k : Int), .agg #[.complex .f64 (fo (x : Int)) (fo (y : Int)), .complex .f64 (tre h t) (tim h t), .int .u16 (s : Int)]] w
      fun e w' => e = .returned (.tuple #[]) ∧ Blk w' g (nums .u8 (putL m k x y (newHead h t) s)) 106 ∧ w.grownBy w' (some g) := by
  have hgl := hblk.lt
  have hne : w.heap.size ≠ g := by omega
  have hbx := toByte x hx
  have hby := toByte y hy
  go_enter Tryz.func70, Tryz.ntmps70
  go_wp2_with fail
  refine (shipBytes_any g k _ hk).mono ?_
  rintro e w1 ⟨rfl, rfl⟩
  have hb0 := hblk.alloc (.cells #[.complex .f64 (fo (x : Int)) (fo (y : Int)), .complex .f64 (tre h t) (tim h t), .int .u16 (s : Int)] 159)
  have hg0 := (World.grownBy_alloc w (.cells #[.complex .f64 (fo (x : Int)) (fo (y : Int)), .complex .f64 (tre h t) (tim h t), .int .u16 (s : Int)] 159) (some g))
  go_wp2_with (first | (go_at_call 99; refine (numberOf_any h t _ hh ht).mono ?_; rintro e w' ⟨rfl, rfl⟩) | (refine wpList_store_num rfl 5 _ _ rfl _ _ .u8 _ _ _ rfl rfl (by assumption) (by (try simp only [List.length_set]); omega) sizeU8 ?_; intro w' hb hg hz hcl))
  go_end0
  exact ⟨rfl, hb, by repeat (first | assumption | refine grown_trans ?_ (by assumption))⟩
end Go.Proofs.YtandblanpafjoabGreatDoor

namespace Go.Proofs.YtandblanpafjoabGreatDoor
open Go.RowKit Go.Extern.Stop Go.Stop Go.Extern

theorem put_at (S : Int) (g k x y h t s : Nat) (hS : S = (s : Int)) (m : List Int) (w : World) (hm : m.length = 288) (hk : k < 4) (hx : x < 16) (hy : y < 16) (hh : h < 4) (ht : t < 4) (hs : s < 65536) (hblk : Blk w g (nums .u8 m) 106) :
    Calls Tryz.prog 70 #[.pointer (some ⟨g, 0, none⟩), .int .i64 (k : Int), .agg #[.complex .f64 (fo (x : Int)) (fo (y : Int)), .complex .f64 (tre h t) (tim h t), .int .u16 S]] w
      fun e w' => e = .returned (.tuple #[]) ∧ Blk w' g (nums .u8 (putL m k x y (newHead h t) s)) 106 ∧ w.grownBy w' (some g) := by
  subst hS; exact put_any g k x y h t s m w hm hk hx hy hh ht hs hblk

theorem grown_new {a b c : World} {r : Option Nat} {q : Nat} (h : a.grownBy b r) (k : b.grownBy c (some q)) (hq : a.heap.size ≤ q) : a.grownBy c r :=
  ⟨k.os.trans h.os, k.tape.trans h.tape, k.output.trans h.output, Nat.le_trans h.size k.size, fun i hi hr => (k.block i (Nat.lt_of_lt_of_le hi h.size) (fun e => by injection e with e'; omega)).trans (h.block i hi hr)⟩

def settleL (m : List Int) (k x y h s i : Nat) : List Int :=
  if i / 4 % 2 = 1 ∧ m.getD (16 * y + x) 0 ≠ (k : Int) + 1 then putL (m.set (16 * y + x) ((k : Int) + 1)) k x y h ((s + 1) % 65536) else putL m k x y h s

theorem sizeU16 : (Tryz.prog.info? 157).map (·.size) = some 1 := by kernel_rfl

set_option maxRecDepth 10000 in
set_option maxHeartbeats 1000000 in
theorem settle_any (g k x y h t s i : Nat) (m : List Int) (w : World) (hm : m.length = 288) (hk : k < 4) (hx : x < 16) (hy : y < 16) (hh : h < 4) (ht : t < 4) (hs : s < 65536) (hi : i < 256) (hr : ∀ j : Nat, 0 ≤ m.getD j 0 ∧ m.getD j 0 ≤ 255)
    (hblk : Blk w g (nums .u8 m) 106) :
    Calls Tryz.prog 74 #[.pointer (some ⟨g, 0, none⟩), .int .i64 (k : Int), .agg #[.complex .f64 (fo (x : Int)) (fo (y : Int)), .complex .f64 (tre h t) (tim h t), .int .u16 (s : Int)], .int .u8 (i : Int)] w
      fun e w' => e = .returned (.tuple #[]) ∧ Blk w' g (nums .u8 (settleL m k x y (newHead h t) s i)) 106 ∧ w.grownBy w' (some g) := by
  have hgl := hblk.lt
  have hand := and4_table ⟨i, hi⟩
  simp only at hand
  have hb0 := hblk.alloc (.cells #[.complex .f64 (fo (x : Int)) (fo (y : Int)), .complex .f64 (tre h t) (tim h t), .int .u16 (s : Int)] 159)
  have hg0 := (World.grownBy_alloc w (.cells #[.complex .f64 (fo (x : Int)) (fo (y : Int)), .complex .f64 (tre h t) (tim h t), .int .u16 (s : Int)] 159) (some g))
  have hcc := hb0.num (16 * y + x) (by omega)
  have hrc := hr (16 * y + x)
  have hlt : i / 4 % 2 < 2 := Nat.mod_lt _ (by omega)
  by_cases hp : i / 4 % 2 = 1
  · rw [hp] at hand
    simp at hand
    by_cases hq : m.getD (16 * y + x) 0 = (k : Int) + 1
    · have hcc' := hcc
      rw [hq] at hcc'
      have e : settleL m k x y (newHead h t) s i = putL m k x y (newHead h t) s := by unfold settleL; rw [if_neg (fun hh => hh.2 hq)]
      rw [e]
      clear hcc e hq hr hp
      go_enter Tryz.func74, Tryz.ntmps74
      go_wp2_with fail
      refine (cell_any g x y _ hx hy).mono ?_
      rintro e w1 ⟨rfl, rfl⟩
      go_wp2_with fail
      refine (put_any g k x y h t s m _ hm hk hx hy hh ht hs hb0).mono ?_
      rintro e w2 ⟨rfl, hb2, hg2⟩
      go_wp2
      go_end0
      exact ⟨rfl, hb2, grown_trans hg0 hg2⟩
    · have hne : (m.getD (16 * y + x) 0 != (k : Int) + 1) = true := by rw [bne_iff_ne]; exact hq
      have e : settleL m k x y (newHead h t) s i = putL (m.set (16 * y + x) ((k : Int) + 1)) k x y (newHead h t) ((s + 1) % 65536) := by unfold settleL; rw [if_pos ⟨hp, hq⟩]
      rw [e]
      generalize m.getD (16 * y + x) 0 = c at *
      have hne2 : w.heap.size ≠ g := by omega
      have hbx := Blk.new w #[.complex .f64 (fo (x : Int)) (fo (y : Int)), .complex .f64 (tre h t) (tim h t), .int .u16 (s : Int)] 159
      clear e hq hr hp
      go_enter Tryz.func74, Tryz.ntmps74
      go_wp2_with fail
      refine (cell_any g x y _ hx hy).mono ?_
      rintro e w1 ⟨rfl, rfl⟩
      go_wp2_with (first
        | (refine wpList_store_num rfl 5 _ _ rfl _ _ .u8 _ _ _ rfl rfl (by assumption) (by (try simp only [List.length_set]); omega) sizeU8 ?_; intro w1 hb1 hg1 hz1 hcl1; have hbx1 := hbx.grown hg1 hne2)
        | (refine wpList_store_one rfl 157 _ _ rfl _ _ _ _ _ rfl rfl rfl (by assumption) (by simp) sizeU16 ?_; intro w2 hb2 hg2 hz2 hcl2; have hcb := hb2.cell))
      refine (put_at _ g k x y h t ((s + 1) % 65536) (by rw [IntKind.wrap_u16]; omega) (m.set (16 * y + x) ((k : Int) + 1)) _ (by simp [hm]) hk hx hy hh ht (Nat.mod_lt _ (by omega)) (hb1.grown hg2 (Ne.symm hne2))).mono ?_
      rintro e w3 ⟨rfl, hb3, hg3⟩
      go_wp2
      go_end0
      refine ⟨rfl, hb3, ?_⟩
      exact grown_trans (grown_new (grown_trans hg0 hg1) hg2 (Nat.le_refl _)) hg3
  · have hp0 : i / 4 % 2 = 0 := by omega
    rw [hp0] at hand
    simp at hand
    have e : settleL m k x y (newHead h t) s i = putL m k x y (newHead h t) s := by unfold settleL; rw [if_neg (fun hh => hp hh.1)]
    rw [e]
    clear hcc e hr hp hp0
    go_enter Tryz.func74, Tryz.ntmps74
    go_wp2_with fail
    refine (cell_any g x y _ hx hy).mono ?_
    rintro e w1 ⟨rfl, rfl⟩
    go_wp2_with fail
    refine (put_any g k x y h t s m _ hm hk hx hy hh ht hs hb0).mono ?_
    rintro e w2 ⟨rfl, hb2, hg2⟩
    go_wp2
    go_end0
    exact ⟨rfl, hb2, grown_trans hg0 hg2⟩
end Go.Proofs.YtandblanpafjoabGreatDoor

/-! The game as plain functions on a memory, a list of 288 numbers. -/
namespace Go.Proofs.YtandblanpafjoabGreatDoor

theorem getD_set (l : List Int) (i j : Nat) (v : Int) (hi : i < l.length) : (l.set i v).getD j 0 = if i = j then v else l.getD j 0 := by
  by_cases h : i = j
  · subst h; rw [if_pos rfl]; simp [hi]
  · rw [if_neg h]; simp [List.getElem?_set_ne h]

def gx (m : List Int) (k : Nat) : Nat := (m.getD (256 + 8 * k) 0).toNat
def gy (m : List Int) (k : Nat) : Nat := (m.getD (256 + 8 * k + 1) 0).toNat
def gh (m : List Int) (k : Nat) : Nat := (m.getD (256 + 8 * k + 2) 0).toNat
def ga (m : List Int) (k : Nat) : Nat := (m.getD (256 + 8 * k + 3) 0).toNat
def gb (m : List Int) (k : Nat) : Nat := (m.getD (256 + 8 * k + 4) 0).toNat
/-- A ship's score. -/
def gs (m : List Int) (k : Nat) : Nat := ga m k * 256 + gb m k

structure Good (m : List Int) (n : Nat) : Prop where
  len : m.length = 288
  rng : ∀ j : Nat, 0 ≤ m.getD j 0 ∧ m.getD j 0 ≤ 255
  sx : ∀ k, k < n → gx m k < 16
  sy : ∀ k, k < n → gy m k < 16
  sh : ∀ k, k < n → gh m k < 4

theorem Good.ship {m : List Int} {n k : Nat} (h : Good m n) (hk : k < n) : ShipAt m k (gx m k) (gy m k) (gh m k) (ga m k) (gb m k) where
  ex := by have := (h.rng (256 + 8 * k)).1; unfold gx; omega
  ey := by have := (h.rng (256 + 8 * k + 1)).1; unfold gy; omega
  eh := by have := (h.rng (256 + 8 * k + 2)).1; unfold gh; omega
  ea := by have := (h.rng (256 + 8 * k + 3)).1; unfold ga; omega
  eb := by have := (h.rng (256 + 8 * k + 4)).1; unfold gb; omega
  hx := h.sx k hk
  hy := h.sy k hk
  hh := h.sh k hk
  ha := by have := (h.rng (256 + 8 * k + 3)); unfold ga; omega
  hb := by have := (h.rng (256 + 8 * k + 4)); unfold gb; omega
theorem Good.score {m : List Int} {n k : Nat} (h : Good m n) : gs m k < 65536 := by
  have h1 := h.rng (256 + 8 * k + 3)
  have h2 := h.rng (256 + 8 * k + 4)
  unfold gs ga gb; omega

def blocked (m : List Int) (n k tx ty : Nat) : Bool := (List.range n).any fun o => decide (o ≠ k) && (decide (gx m o = tx) && decide (gy m o = ty))
/-- One player's input. -/
def turnL (m : List Int) (n k i : Nat) : List Int :=
  if blocked m n k (goX (gx m k) (gh m k) (i % 4)) (goY (gy m k) (gh m k) (i % 4)) then settleL m k (gx m k) (gy m k) (newHead (gh m k) (i % 4)) (gs m k) i
  else settleL m k (goX (gx m k) (gh m k) (i % 4)) (goY (gy m k) (gh m k) (i % 4)) (newHead (gh m k) (i % 4)) (gs m k) i
/-- A frame's first inputs. -/
def turnsL (m : List Int) (n : Nat) (ins : List Int) : Nat → List Int
  | 0 => m
  | k + 1 => turnL (turnsL m n ins k) n k (ins.getD k 0).toNat
def frameL (m : List Int) (n : Nat) (ins : List Int) : List Int := turnsL m n ins n

theorem putL_len (m : List Int) (k x y h s : Nat) : (putL m k x y h s).length = m.length := by simp [putL]
theorem putL_get (m : List Int) (k x y h s j : Nat) (hm : m.length = 288) (hk : k < 4) : (putL m k x y h s).getD j 0 =
    if j = 256 + 8 * k + 4 then ((s % 256 : Nat) : Int) else if j = 256 + 8 * k + 3 then ((s / 256 : Nat) : Int) else if j = 256 + 8 * k + 2 then (h : Int) else if j = 256 + 8 * k + 1 then (y : Int) else if j = 256 + 8 * k then (x : Int) else m.getD j 0 := by
  unfold putL
  rw [getD_set _ _ _ _ (by simp [hm]; omega), getD_set _ _ _ _ (by simp [hm]; omega), getD_set _ _ _ _ (by simp [hm]; omega), getD_set _ _ _ _ (by simp [hm]; omega), getD_set _ _ _ _ (by simp [hm]; omega)]
  simp only [eq_comm]
theorem good_put {m : List Int} {n : Nat} (hg : Good m n) (k x y h s : Nat) (hk : k < 4) (hx : x < 16) (hy : y < 16) (hh : h < 4) (hs : s < 65536) : Good (putL m k x y h s) n where
  len := by rw [putL_len]; exact hg.len
  rng j := by
    rw [putL_get m k x y h s j hg.len hk]
    have := hg.rng j
    repeat (first | omega | split)
  sx o ho := by
    unfold gx
    rw [putL_get m k x y h s _ hg.len hk]
    have := hg.sx o ho
    unfold gx at this
    repeat (first | omega | split)
  sy o ho := by
    unfold gy
    rw [putL_get m k x y h s _ hg.len hk]
    have := hg.sy o ho
    unfold gy at this
    repeat (first | omega | split)
  sh o ho := by
    unfold gh
    rw [putL_get m k x y h s _ hg.len hk]
    have := hg.sh o ho
    unfold gh at this
    repeat (first | omega | split)
theorem good_cell {m : List Int} {n : Nat} (hg : Good m n) (c k : Nat) (hc : c < 256) (hk : k < 4) : Good (m.set c ((k : Int) + 1)) n where
  len := by rw [List.length_set]; exact hg.len
  rng j := by
    rw [getD_set _ _ _ _ (by rw [hg.len]; omega)]
    have := hg.rng j
    split <;> omega
  sx o ho := by unfold gx; rw [getD_set _ _ _ _ (by rw [hg.len]; omega), if_neg (by omega)]; exact hg.sx o ho
  sy o ho := by unfold gy; rw [getD_set _ _ _ _ (by rw [hg.len]; omega), if_neg (by omega)]; exact hg.sy o ho
  sh o ho := by unfold gh; rw [getD_set _ _ _ _ (by rw [hg.len]; omega), if_neg (by omega)]; exact hg.sh o ho
theorem good_settle {m : List Int} {n : Nat} (hg : Good m n) (k x y h s i : Nat) (hk : k < 4) (hx : x < 16) (hy : y < 16) (hh : h < 4) (hs : s < 65536) : Good (settleL m k x y h s i) n := by
  unfold settleL
  split
  · exact good_put (good_cell hg _ k (by omega) hk) k x y h _ hk hx hy hh (Nat.mod_lt _ (by omega))
  · exact good_put hg k x y h s hk hx hy hh hs
theorem good_turn {m : List Int} {n : Nat} (hg : Good m n) (k i : Nat) (hk : k < n) (hn : n ≤ 4) : Good (turnL m n k i) n := by
  have h1 := hg.sx k hk
  have h2 := hg.sy k hk
  have h3 := newHead_lt (gh m k) (i % 4) (hg.sh k hk)
  have h4 := hg.score (k := k)
  unfold turnL
  split
  · exact good_settle hg k _ _ _ _ i (by omega) h1 h2 h3 h4
  · exact good_settle hg k _ _ _ _ i (by omega) (goX_lt _ _ _ h1) (goY_lt _ _ _ h2) h3 h4
theorem good_turns {m : List Int} {n : Nat} (hg : Good m n) (ins : List Int) (hn : n ≤ 4) : ∀ k, k ≤ n → Good (turnsL m n ins k) n
  | 0, _ => hg
  | k + 1, h => good_turn (good_turns hg ins hn k (by omega)) k _ (by omega) hn
end Go.Proofs.YtandblanpafjoabGreatDoor

