import Derived.Test.YtandblanpafjoabGreatDoorAs2
import Derived.Deep.QuietTactic
import Derived.BigQuiet
import Derived.WalkSmall
namespace Go.Proofs.YtandblanpafjoabGreatDoor
open Go.RowKit Go.Extern.Stop Go.Stop Go.Extern

set_option maxHeartbeats 1000000 in
/-- api.Told: no error. -/
theorem told_nil (w : World) :
    Calls Tryz.prog 26 #[.nilIface] w fun ev w' => ev = .returned (.tuple #[.int .i64 0, .int .i64 (-1)]) ∧ Below w.heap.size w w' := by
  go_enter Tryz.func26, Tryz.ntmps26
  go_wp2_with (go_at_call 42; refine (as_nil _ _).mono ?_; rintro e w' ⟨rfl, rfl⟩)
  go_ret2
  exact ⟨rfl, ((Below.refl _ _).alloc (Nat.le_refl _) _).alloc (by simp) _⟩

set_option maxHeartbeats 1000000 in
/-- api.Told: a Kind. -/
theorem told_kind (k : Int) (w : World) (hgL : Laid w) :
    Calls Tryz.prog 26 #[.iface 39 (.int .i64 k)] w fun ev w' => ev = .returned (.tuple #[.int .i64 k, .int .i64 (-1)]) ∧ Below w.heap.size w w' := by
  go_enter Tryz.func26, Tryz.ntmps26
  go_wp2_with fail
  refine (as_missKP k _ _ (hgL.alloc _)).mono ?_
  rintro e w1 ⟨rfl, hb1⟩
  have hL1 : Laid w1 := (hgL.alloc _).below (by simp) hb1
  have hz1 := hb1.size
  go_wp2_with fail
  refine (as_hitK k _ (.int .i64 0) _ (hL1.alloc _) (by simp) (by simp)).mono ?_
  rintro e w2 ⟨rfl, w3, hb3, rfl⟩
  have hz3 := hb3.size
  have hc3 : w3.cell? ⟨w1.heap.size, 0, none⟩ = some (.int .i64 0) := by rw [hb3.cell (p := ⟨w1.heap.size, 0, none⟩) (by simp)]; simp
  have hc : (w3.setCell ⟨w1.heap.size, 0, none⟩ (.int .i64 k)).cell? ⟨w1.heap.size, 0, none⟩ = some (.int .i64 k) := by
    rw [World.cell?_setCell_same _ _ _ hc3]
  go_wp2
  go_ret2
  refine ⟨rfl, ?_⟩
  have b1 : Below w.heap.size w w1 := ((Below.refl _ _).alloc (Nat.le_refl _) _).trans (hb1.mono (by simp))
  have b2 := b1.alloc (B := w.heap.size) (by have := b1.size; omega) (.cells #[.int .i64 0] 39)
  have b3 := b2.trans (hb3.mono (by have := b1.size; simp; omega))
  exact b3.setCell (by have := b1.size; simp; omega) _

set_option maxHeartbeats 1000000 in
/-- api.Told: an error of a peer. -/
theorem told_peer (b : Nat) (p k : Int) (w : World) (hgL : Laid w) (hp : w.cell? ⟨b, 0, none⟩ = some (.int .i64 p)) (hk : w.cell? ⟨b, 1, none⟩ = some (.int .i64 k)) :
    Calls Tryz.prog 26 #[.iface 96 (.pointer (some ⟨b, 0, none⟩))] w fun ev w' => ev = .returned (.tuple #[.int .i64 k, .int .i64 p]) ∧ Below w.heap.size w w' := by
  have hbl : b < w.heap.size := cell_lt hp
  go_enter Tryz.func26, Tryz.ntmps26
  go_wp2_with fail
  refine (as_hitP _ _ (.pointer none) _ (hgL.alloc _) (by simp) (by simp)).mono ?_
  rintro e w2 ⟨rfl, w3, hb3, rfl⟩
  have hz3 := hb3.size
  have hc3 : w3.cell? ⟨w.heap.size, 0, none⟩ = some (.pointer none) := by rw [hb3.cell (p := ⟨w.heap.size, 0, none⟩) (by simp)]; simp
  have hc : (w3.setCell ⟨w.heap.size, 0, none⟩ (.pointer (some ⟨b, 0, none⟩))).cell? ⟨w.heap.size, 0, none⟩ = some (.pointer (some ⟨b, 0, none⟩)) := by
    rw [World.cell?_setCell_same _ _ _ hc3]
  have hne : ∀ o, (w3.setCell ⟨w.heap.size, 0, none⟩ (.pointer (some ⟨b, 0, none⟩))).cell? ⟨b, o, none⟩ = w.cell? ⟨b, o, none⟩ := fun o => by
    rw [World.cell?_setCell_other _ _ _ _ (by intro h; injection h with h1; omega), hb3.cell (p := ⟨b, o, none⟩) (by simp; omega), World.cell?_alloc_lt _ _ ⟨b, o, none⟩ hbl]
  have hp' : (w3.setCell ⟨w.heap.size, 0, none⟩ (.pointer (some ⟨b, 0, none⟩))).cell? ⟨b, 0, none⟩ = some (.int .i64 p) := by rw [hne]; exact hp
  have hk' : (w3.setCell ⟨w.heap.size, 0, none⟩ (.pointer (some ⟨b, 0, none⟩))).cell? ⟨b, 1, none⟩ = some (.int .i64 k) := by rw [hne]; exact hk
  have hB : Below w.heap.size w (w3.setCell ⟨w.heap.size, 0, none⟩ (.pointer (some ⟨b, 0, none⟩))) := (((Below.refl _ _).alloc (Nat.le_refl _) _).trans (hb3.mono (by simp))).setCell (by simp) _
  clear hne hc3
  generalize (w3.setCell ⟨w.heap.size, 0, none⟩ (.pointer (some ⟨b, 0, none⟩))) = w4 at *
  go_wp2
  go_quiet (fail)
  go_wp2
  go_ret2
  exact ⟨rfl, Go.below_drewN hB _⟩
end Go.Proofs.YtandblanpafjoabGreatDoor
