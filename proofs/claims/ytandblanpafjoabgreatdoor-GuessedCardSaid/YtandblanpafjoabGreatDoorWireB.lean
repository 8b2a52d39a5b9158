import Derived.Test.YtandblanpafjoabGreatDoorWireA
namespace Go.Proofs.YtandblanpafjoabGreatDoor
open Go.RowKit Go.Extern.Stop Go.Stop Go.Extern

/-! The queue's methods. -/
/-- A parcel's cells; bl: in which block the bytes of a packet lie, by the packet's number. -/
def pcl (bl : Nat → Nat) (f : FlyM) : List Value := [.int .i64 (f.to : Int), .int .i64 (f.due : Int), .slice (some ⟨bl f.num, 0, none⟩) f.bytes.length f.bytes.length, .int .i64 (f.num : Int)]
def pcls (bl : Nat → Nat) (l : List FlyM) : List Value := l.flatMap (pcl bl)
theorem pcl_len (bl : Nat → Nat) (f : FlyM) : (pcl bl f).length = 4 := rfl
theorem pcls_len (bl : Nat → Nat) (l : List FlyM) : (pcls bl l).length = 4 * l.length := by
  induction l with
  | nil => rfl
  | cons a l ih => simp only [pcls, List.flatMap_cons, List.length_append, List.length_cons, pcl_len] at ih ⊢; omega
theorem pcls_get (bl : Nat → Nat) : ∀ (l : List FlyM) (i j : Nat), i < l.length → j < 4 → (pcls bl l)[i * 4 + j]? = (pcl bl (fl l i))[j]?
  | a :: l, 0, j, _, hj => by
    simp only [pcls, List.flatMap_cons]
    rw [List.getElem?_append_left (by rw [pcl_len]; omega)]
    simp [fl]
  | a :: l, i + 1, j, h, hj => by
    have := pcls_get bl l i j (by simpa using h) hj
    simp only [pcls, List.flatMap_cons] at this ⊢
    rw [List.getElem?_append_right (by rw [pcl_len]; omega), pcl_len, show (i + 1) * 4 + j - 4 = i * 4 + j by omega, this]
    simp [fl]
theorem pcls_append (bl : Nat → Nat) (a b : List FlyM) : pcls bl (a ++ b) = pcls bl a ++ pcls bl b := by simp [pcls]
theorem pcls_congr {bl bl' : Nat → Nat} {l : List FlyM} (h : ∀ f ∈ l, bl' f.num = bl f.num) : pcls bl' l = pcls bl l := by
  unfold pcls
  induction l with
  | nil => rfl
  | cons a l ih => simp only [List.flatMap_cons]; rw [ih (fun f hf => h f (by simp [hf]))]; simp [pcl, h a (by simp)]
/-- A queue in the cells of block g. -/
structure QAt (w : World) (g cap : Nat) (bl : Nat → Nat) (l : List FlyM) : Prop where
  blk : ∃ cs, Blk w g cs 127 ∧ cs.size = cap * 4 ∧ cs.toList.take (l.length * 4) = pcls bl l
  big : cap ≤ maxLen
  cap : l.length ≤ cap
theorem QAt.cell {w : World} {g cap : Nat} {bl : Nat → Nat} {l : List FlyM} (h : QAt w g cap bl l) (i j : Nat) (hi : i < l.length) (hj : j < 4) : w.cell? ⟨g, i * 4 + j, none⟩ = (pcl bl (fl l i))[j]? := by
  obtain ⟨cs, hb, hs, ht⟩ := h.blk
  rw [hb.cell, ← pcls_get bl l i j hi hj, ← ht, List.getElem?_take, if_pos (by omega)]
  simp

set_option maxRecDepth 10000 in
set_option maxHeartbeats 800000 in
theorem qless_any (g cap i j : Nat) (bl : Nat → Nat) (l : List FlyM) (w : World) (h : QAt w g cap bl l) (hi : i < l.length) (hj : j < l.length) :
    Calls Tryz.prog 153 #[.slice (some ⟨g, 0, none⟩) l.length cap, .int .i64 (i : Int), .int .i64 (j : Int)] w fun e w' => e = .returned (.bool (decide (before (fl l i) (fl l j)))) ∧ Below w.heap.size w w' := by
  have a0 : w.cell? ⟨g, i * 4, none⟩ = some (.int .i64 ((fl l i).to : Int)) := h.cell i 0 hi (by omega)
  have a1 : w.cell? ⟨g, i * 4 + 1, none⟩ = some (.int .i64 ((fl l i).due : Int)) := h.cell i 1 hi (by omega)
  have a2 : w.cell? ⟨g, i * 4 + 2, none⟩ = some (.slice (some ⟨bl (fl l i).num, 0, none⟩) (fl l i).bytes.length (fl l i).bytes.length) := h.cell i 2 hi (by omega)
  have a3 : w.cell? ⟨g, i * 4 + 3, none⟩ = some (.int .i64 ((fl l i).num : Int)) := h.cell i 3 hi (by omega)
  have b0 : w.cell? ⟨g, j * 4, none⟩ = some (.int .i64 ((fl l j).to : Int)) := h.cell j 0 hj (by omega)
  have b1 : w.cell? ⟨g, j * 4 + 1, none⟩ = some (.int .i64 ((fl l j).due : Int)) := h.cell j 1 hj (by omega)
  have b2 : w.cell? ⟨g, j * 4 + 2, none⟩ = some (.slice (some ⟨bl (fl l j).num, 0, none⟩) (fl l j).bytes.length (fl l j).bytes.length) := h.cell j 2 hj (by omega)
  have b3 : w.cell? ⟨g, j * 4 + 3, none⟩ = some (.int .i64 ((fl l j).num : Int)) := h.cell j 3 hj (by omega)
  have ho := ordI_lt (fl l i).due (fl l i).num (fl l j).due (fl l j).num
  have hbf : decide (before (fl l i) (fl l j)) = decide (ordI (fl l i).due (fl l i).num (fl l j).due (fl l j).num < 0) := by rw [ho]; rfl
  rw [hbf]
  clear h ho hbf
  generalize fl l i = x at *
  generalize fl l j = y at *
  have i0 : (0 : Int) ≤ (i : Int) := by omega
  have i1 : (i : Int) < (l.length : Int) := by omega
  have j0 : (0 : Int) ≤ (j : Int) := by omega
  have j1 : (j : Int) < (l.length : Int) := by omega
  go_enter Tryz.func153, Tryz.ntmps153
  go_wp2_with fail
  refine wp_moves_reads_tail0 8 (by kernel_rfl) (by kernel_rfl) (by kernel_rfl) (by kernel_rfl) ?_
  simp only [List.take_succ_cons, List.take_zero, List.drop_succ_cons, List.drop_zero]
  repeat still_step
  refine wpStill_nil ?_
  go_wp2_with fail
  refine (order_any (x.to : Int) (x.due : Int) (x.num : Int) (y.to : Int) (y.due : Int) (y.num : Int) _ _ w.drew).mono ?_
  rintro e w1 ⟨rfl, hb⟩
  go_wp2
  go_ret
  exact ⟨rfl, (Below.refl _ w).drew.trans hb⟩

set_option maxHeartbeats 400000 in
theorem qlen_any (n cap : Nat) (ao : Option Addr) (w : World) : Calls Tryz.prog 152 #[.slice ao n cap] w fun e w' => e = .returned (.int .i64 (n : Int)) ∧ w' = w := by
  go_enter Tryz.func152, Tryz.ntmps152
  go_wp2
  go_ret
  exact ⟨rfl, rfl⟩
end Go.Proofs.YtandblanpafjoabGreatDoor
