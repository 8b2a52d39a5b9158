import Derived.Test.YtandblanpafjoaaDoorPk2
namespace Go.Proofs.YtandblanpafjoaaDoor
open Go.RowKit Go.Extern.Stop Go.Stop Go.Extern

/-! The document's packet. -/
set_option maxHeartbeats 4000000 in
theorem rpack_no (f st ak : Int) (ao : Option Addr) (n c : Nat) (w : World) (h : ¬ GoodP f st ak n) :
    Calls Tryd.prog 24 #[.agg #[.int .i64 f, .int .i64 st, .int .i64 ak, .slice ao n c]] w fun e w' => e = .returned (.tuple #[.slice none 0 0, .bool false]) ∧ Below w.heap.size w w' := by
  unfold GoodP at h
  have hfin : Below w.heap.size w (w.alloc (.cells #[.int .i64 f, .int .i64 st, .int .i64 ak, .slice ao n c] 46)) := (Below.refl _ _).alloc (Nat.le_refl _) _
  have HF := hide hfin
  clear hfin
  by_cases a1 : f < 0
  · go_enter Tryd.func24, Tryd.ntmps24
    go_wp2
    go_ret2
    exact ⟨rfl, unhide HF⟩
  have d1 : decide (f < 0) = false := by simp; omega
  by_cases a2 : 3 < f
  · go_enter Tryd.func24, Tryd.ntmps24
    go_wp2
    go_ret2
    exact ⟨rfl, unhide HF⟩
  have d1' : decide (3 < f) = false := by simp; omega
  by_cases a3 : st < 0
  · go_enter Tryd.func24, Tryd.ntmps24
    go_wp2
    go_ret2
    exact ⟨rfl, unhide HF⟩
  have d2 : decide (st < 0) = false := by simp; omega
  by_cases a4 : 65535 < st
  · go_enter Tryd.func24, Tryd.ntmps24
    go_wp2
    go_ret2
    exact ⟨rfl, unhide HF⟩
  have d2' : decide (65535 < st) = false := by simp; omega
  by_cases a5 : ak < 0
  · go_enter Tryd.func24, Tryd.ntmps24
    go_wp2
    go_ret2
    exact ⟨rfl, unhide HF⟩
  have d3 : decide (ak < 0) = false := by simp; omega
  by_cases a6 : 65535 < ak
  · go_enter Tryd.func24, Tryd.ntmps24
    go_wp2
    go_ret2
    exact ⟨rfl, unhide HF⟩
  have d3' : decide (65535 < ak) = false := by simp; omega
  have h8 : (64 : Int) < (n : Int) := by omega
  clear h
  go_enter Tryd.func24, Tryd.ntmps24
  go_wp2
  go_ret2
  exact ⟨rfl, unhide HF⟩

end Go.Proofs.YtandblanpafjoaaDoor
