import Derived.Test.YtandblanpafjoabGreatDoorShip
import Derived.Test.YtandblanpafjoabGreatDoorBase2
import Derived.Lib.EndianBits
import Derived.Laws.BitsAllLaws
namespace Go.Proofs.YtandblanpafjoabGreatDoor
open Go.RowKit Go.Extern.Stop Go.Stop Go.Extern

theorem or_bytes (a b : Nat) (ha : a < 256) (hb : b < 256) : bits .or .u16 ((a : Int) * 256) (b : Int) = (a : Int) * 256 + (b : Int) := by
  rw [u16_or _ _ (by omega) (by omega) (by omega) (by omega), Nat.or_comm, ← u16_or _ _ (by omega) (by omega) (by omega) (by omega)]
  rw [u16_or8 _ _ (by omega) (by omega) (by omega) (by omega) (by omega)]
  omega

/-- What lies in a memory of a ship. -/
structure ShipAt (m : List Int) (k x y h a b : Nat) : Prop where
  ex : m.getD (256 + 8 * k) 0 = (x : Int)
  ey : m.getD (256 + 8 * k + 1) 0 = (y : Int)
  eh : m.getD (256 + 8 * k + 2) 0 = (h : Int)
  ea : m.getD (256 + 8 * k + 3) 0 = (a : Int)
  eb : m.getD (256 + 8 * k + 4) 0 = (b : Int)
  hx : x < 16
  hy : y < 16
  hh : h < 4
  ha : a < 256
  hb : b < 256

set_option maxRecDepth 10000 in
set_option maxHeartbeats 1000000 in
theorem ship_any (g k x y h a b : Nat) (m : List Int) (w : World) (hm : m.length = 288) (hk : k < 4) (hs : ShipAt m k x y h a b) (hblk : Blk w g (nums .u8 m) 106) :
    Calls Tryz.prog 71 #[.pointer (some ⟨g, 0, none⟩), .int .i64 (k : Int)] w fun e w' => e = .returned (.agg #[.complex .f64 (fo (x : Int)) (fo (y : Int)), .complex .f64 (hre h) (him h), .int .u16 ((a : Int) * 256 + (b : Int))]) ∧ Below w.heap.size w w' := by
  have hgl := hblk.lt
  have hc0 := hblk.num (256 + 8 * k) (by omega)
  have hc1 := hblk.num (256 + 8 * k + 1) (by omega)
  have hc2 := hblk.num (256 + 8 * k + 2) (by omega)
  have hc3 := hblk.num (256 + 8 * k + 3) (by omega)
  have hc4 := hblk.num (256 + 8 * k + 4) (by omega)
  rw [hs.ex] at hc0
  rw [hs.ey] at hc1
  rw [hs.eh] at hc2
  rw [hs.ea] at hc3
  rw [hs.eb] at hc4
  have hor := or_bytes a b hs.ha hs.hb
  have hx := hs.hx
  have hy := hs.hy
  have hh := hs.hh
  have ha := hs.ha
  have hb := hs.hb
  have hsc := store_complex
  have HOR : Hid (bits .or .u16 (IntKind.u16.wrap (IntKind.u16.wrap (a : Int) * 256)) (IntKind.u16.wrap (b : Int)) = (a : Int) * 256 + (b : Int)) := by
    rw [u16_wrap_id (a : Int) (by omega) (by omega), u16_wrap_id ((a : Int) * 256) (by omega) (by omega), u16_wrap_id (b : Int) (by omega) (by omega), hor]; exact hide rfl
  clear hor
  clear hs hblk
  go_enter Tryz.func71, Tryz.ntmps71
  go_wp2_with fail
  refine (shipBytes_any g k _ hk).mono ?_
  rintro e w1 ⟨rfl, rfl⟩
  go_wp2_with fail
  go_region_held3 (fun w' => w'.cell? ⟨g, 256 + 8 * k, none⟩ = some (.int .u8 (x : Int)) ∧ w'.cell? ⟨g, 256 + 8 * k + 1, none⟩ = some (.int .u8 (y : Int)) ∧ w'.cell? ⟨g, 256 + 8 * k + 2, none⟩ = some (.int .u8 (h : Int)) ∧ w'.cell? ⟨g, 256 + 8 * k + 3, none⟩ = some (.int .u8 (a : Int)) ∧ w'.cell? ⟨g, 256 + 8 * k + 4, none⟩ = some (.int .u8 (b : Int))) (go_keep) (first | (go_at_call 100; refine (headingOf_any h _ hh).mono ?_; rintro e w' ⟨rfl, rfl⟩))
  all_goals
    go_wp2
    refine bodyPost_ret (v := .agg #[.complex .f64 (fo (x : Int)) (fo (y : Int)), .complex .f64 (hre h) (him h), .int .u16 ((a : Int) * 256 + (b : Int))]) (by simp [results, Tryz.results71, go_sem]; exact ⟨⟨rfl, rfl⟩, unhide HOR⟩) rfl ⟨rfl, ((Below.refl _ _).alloc (Nat.le_refl _) _).drew⟩

/-- A ship put into a memory. -/
def putL (m : List Int) (k x y h s : Nat) : List Int :=
  ((((m.set (256 + 8 * k) (x : Int)).set (256 + 8 * k + 1) (y : Int)).set (256 + 8 * k + 2) (h : Int)).set (256 + 8 * k + 3) ((s / 256 : Nat) : Int)).set (256 + 8 * k + 4) ((s % 256 : Nat) : Int)

theorem sizeU8 : (Tryz.prog.info? 5).map (·.size) = some 1 := by kernel_rfl

set_option maxRecDepth 10000 in
set_option maxHeartbeats 1000000 in
theorem put_any (g k x y h t s : Nat) (m : List Int) (w : World) (hm : m.length = 288) (hk : k < 4) (hx : x < 16) (hy : y < 16) (hh : h < 4) (ht : t < 4) (hs : s < 65536) (hblk : Blk w g (nums .u8 m) 106) :
    Calls Tryz.prog 70 #[.pointer (some ⟨g, 0, none⟩), .int .i64 (k : Int), .agg #[.complex .f64 (fo (x : Int)) (fo (y : Int)), .complex .f64 (tre h t) (tim h t), .int .u16 (s : Int)]] w
      fun e w' => e = .returned (.tuple #[]) ∧ Blk w' g (nums .u8 (putL m k x y (newHead h t) s)) 106 ∧ w.grownBy w' (some g) := by
  have hgl := hblk.lt
  have hne : w.heap.size ≠ g := by omega
  have hbx := toByte x hx
  have hby := toByte y hy
  go_enter Tryz.func70, Tryz.ntmps70
  go_wp2_with fail
  refine (shipBytes_any g k _ hk).mono ?_
  rintro e w1 ⟨rfl, rfl⟩
  have hb0 := hblk.alloc (.cells #[.complex .f64 (fo (x : Int)) (fo (y : Int)), .complex .f64 (tre h t) (tim h t), .int .u16 (s : Int)] 159)
  have hg0 := (World.grownBy_alloc w (.cells #[.complex .f64 (fo (x : Int)) (fo (y : Int)), .complex .f64 (tre h t) (tim h t), .int .u16 (s : Int)] 159) (some g))
  go_wp2_with (first | (go_at_call 99; refine (numberOf_any h t _ hh ht).mono ?_; rintro e w' ⟨rfl, rfl⟩) | (refine wpList_store_num rfl 5 _ _ rfl _ _ .u8 _ _ _ rfl rfl (by assumption) (by (try simp only [List.length_set]); omega) sizeU8 ?_; intro w' hb hg hz hcl))
  go_end0
  exact ⟨rfl, hb, by repeat (first | assumption | refine grown_trans ?_ (by assumption))⟩
end Go.Proofs.YtandblanpafjoabGreatDoor
