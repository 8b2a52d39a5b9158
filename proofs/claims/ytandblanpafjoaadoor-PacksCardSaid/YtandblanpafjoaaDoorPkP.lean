import Derived.Test.YtandblanpafjoaaDoorPk2
import Derived.Test.YtandblanpafjoaaDoorFaultK
namespace Go.Proofs.YtandblanpafjoaaDoor
open Go.RowKit Go.Extern.Stop Go.Stop Go.Extern
set_option maxHeartbeats 1000000 in
theorem pack_yes (f st ak : Int) (ao : Option Addr) (n c : Nat) (l : List Int) (w : World) (h : GoodP f st ak n) (hl : l.length = n) (hc0 : ao = none → c = 0) (hsrc : SrcAt w ao l) :
    Calls Tryd.prog 35 #[.agg #[.int .i64 f, .int .i64 st, .int .i64 ak, .slice ao n c]] w fun e w' => ∃ g, e = .returned (.tuple #[.slice (some ⟨g, 0, none⟩) (8 + n) (8 + n), .nilIface]) ∧ w.heap.size ≤ g ∧ Blk w' g (nums .u8 (packL f st ak l)) 5 ∧ Below w.heap.size w w' := by
  have HC := hide hc0
  have HL := hide hl
  have HS := hide hsrc
  clear hc0 hl hsrc
  go_enter Tryd.func35, Tryd.ntmps35
  go_wp2_with fail
  refine (write_yes f st ak ao n c l _ h (unhide HL) (unhide HC) ((unhide HS).alloc _)).mono ?_
  rintro e w1 ⟨g, rfl, hg, hblk, hb1⟩
  go_wp2_with fail
  refine (kindOf_nil w1).mono ?_
  rintro e w2 ⟨rfl, hb2⟩
  go_wp2
  go_ret2
  have hz1 := hb1.size
  have hlt := hblk.lt
  simp only [World.size_alloc] at hg hz1
  refine ⟨g, rfl, by omega, hblk.below hlt hb2, ?_⟩
  exact (((Below.refl _ _).alloc (Nat.le_refl _) _).trans (hb1.mono (by simp))).trans (hb2.mono (by omega))

set_option maxHeartbeats 1000000 in
theorem pack_no (f st ak : Int) (ao : Option Addr) (n c : Nat) (w : World) (hgL : Laid w) (h : ¬ GoodP f st ak n) :
    Calls Tryd.prog 35 #[.agg #[.int .i64 f, .int .i64 st, .int .i64 ak, .slice ao n c]] w fun e w' => e = .returned (.tuple #[.slice none 0 0, .iface 23 (.int .i64 5)]) ∧ Below w.heap.size w w' := by
  go_enter Tryd.func35, Tryd.ntmps35
  go_wp2_with fail
  refine (write_no f st ak ao n c _ h).mono ?_
  rintro e w1 ⟨⟨s, rfl⟩, hb1⟩
  have hL1 : Laid w1 := (hgL.alloc _).below (by simp) hb1
  go_wp2_with fail
  refine (kindOf_fault s w1 hL1).mono ?_
  rintro e w2 ⟨rfl, hb2⟩
  go_wp2
  go_ret2
  have hz1 := hb1.size
  simp only [World.size_alloc] at hz1
  exact ⟨rfl, (((Below.refl _ _).alloc (Nat.le_refl _) _).trans (hb1.mono (by simp))).trans (hb2.mono (by omega))⟩

set_option maxHeartbeats 1000000 in
theorem ppack_yes (f st ak : Int) (ao : Option Addr) (n c : Nat) (l : List Int) (w : World) (h : GoodP f st ak n) (hl : l.length = n) (hc0 : ao = none → c = 0) (hsrc : SrcAt w ao l) :
    Calls Tryd.prog 23 #[.agg #[.int .i64 f, .int .i64 st, .int .i64 ak, .slice ao n c]] w fun e w' => ∃ g, e = .returned (.tuple #[.slice (some ⟨g, 0, none⟩) (8 + n) (8 + n), .int .i64 0]) ∧ w.heap.size ≤ g ∧ Blk w' g (nums .u8 (packL f st ak l)) 5 ∧ Below w.heap.size w w' := by
  have HC := hide hc0
  have HL := hide hl
  have HS := hide hsrc
  clear hc0 hl hsrc
  go_enter Tryd.func23, Tryd.ntmps23
  go_wp2_with fail
  refine (pack_yes f st ak ao n c l _ h (unhide HL) (unhide HC) ((unhide HS).alloc _)).mono ?_
  rintro e w1 ⟨g, rfl, hg, hblk, hb1⟩
  go_wp2_with fail
  refine (told_nil w1).mono ?_
  rintro e w2 ⟨rfl, hb2⟩
  go_wp2
  go_ret2
  have hz1 := hb1.size
  have hlt := hblk.lt
  simp only [World.size_alloc] at hg hz1
  refine ⟨g, rfl, by omega, hblk.below hlt hb2, ?_⟩
  exact (((Below.refl _ _).alloc (Nat.le_refl _) _).trans (hb1.mono (by simp))).trans (hb2.mono (by omega))

set_option maxHeartbeats 1000000 in
theorem ppack_no (f st ak : Int) (ao : Option Addr) (n c : Nat) (w : World) (hgL : Laid w) (h : ¬ GoodP f st ak n) :
    Calls Tryd.prog 23 #[.agg #[.int .i64 f, .int .i64 st, .int .i64 ak, .slice ao n c]] w fun e w' => e = .returned (.tuple #[.slice none 0 0, .int .i64 5]) ∧ Below w.heap.size w w' := by
  go_enter Tryd.func23, Tryd.ntmps23
  go_wp2_with fail
  refine (pack_no f st ak ao n c _ (hgL.alloc _) h).mono ?_
  rintro e w1 ⟨rfl, hb1⟩
  have hL1 : Laid w1 := (hgL.alloc _).below (by simp) hb1
  go_wp2_with fail
  refine (told_kind 5 w1 hL1).mono ?_
  rintro e w2 ⟨rfl, hb2⟩
  go_wp2
  go_ret2
  have hz1 := hb1.size
  simp only [World.size_alloc] at hz1
  exact ⟨rfl, (((Below.refl _ _).alloc (Nat.le_refl _) _).trans (hb1.mono (by simp))).trans (hb2.mono (by omega))⟩
end Go.Proofs.YtandblanpafjoaaDoor
