import Derived.Test.YtandblanpafjoaaDoorFault
namespace Go.Proofs.YtandblanpafjoaaDoor
open Go.RowKit Go.Extern.Stop Go.Stop Go.Extern
set_option maxHeartbeats 1000000 in
theorem kindOf_nil (w : World) :
    Calls Tryd.prog 48 #[.nilIface] w fun ev w' => ev = .returned .nilIface ∧ Below w.heap.size w w' := by
  go_enter Tryd.func48, Tryd.ntmps48
  go_wp2_with (go_at_call 42; refine (as_nil _ _).mono ?_; rintro e w' ⟨rfl, rfl⟩)
  go_ret
  exact ⟨rfl, (Below.refl _ _).alloc (Nat.le_refl _) _⟩

set_option maxHeartbeats 1000000 in
theorem kindOf_fault (s : ByteArray) (w : World) (hgL : Laid w) :
    Calls Tryd.prog 48 #[.iface 149 (.agg #[.string s])] w fun ev w' => ev = .returned (.iface 23 (.int .i64 5)) ∧ Below w.heap.size w w' := by
  go_enter Tryd.func48, Tryd.ntmps48
  go_wp2_with fail
  refine (as_hitF s _ (.int .i64 0) _ (hgL.alloc _) (by simp) (by simp)).mono ?_
  rintro e w2 ⟨rfl, w3, hb3, rfl⟩
  have hz3 := hb3.size
  have hc3 : w3.cell? ⟨w.heap.size, 0, none⟩ = some (.int .i64 0) := by rw [hb3.cell (p := ⟨w.heap.size, 0, none⟩) (by simp)]; simp
  have hc : (w3.setCell ⟨w.heap.size, 0, none⟩ (.int .i64 5)).cell? ⟨w.heap.size, 0, none⟩ = some (.int .i64 5) := by
    rw [World.cell?_setCell_same _ _ _ hc3]
  go_wp2
  go_ret
  refine ⟨rfl, ?_⟩
  exact (((Below.refl _ _).alloc (Nat.le_refl _) _).trans (hb3.mono (by simp))).setCell (by simp) _
end Go.Proofs.YtandblanpafjoaaDoor
