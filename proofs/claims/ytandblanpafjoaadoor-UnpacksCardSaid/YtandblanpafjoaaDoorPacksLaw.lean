import Derived.Test.YtandblanpafjoaaDoorRPk2
import Derived.Test.YtandblanpafjoaaDoorPkZ
import Derived.Test.YtandblanpafjoaaDoorPkP
import Derived.Test.YtandblanpafjoaaDoorSpoil
import Derived.Test.YtandblanpafjoaaDoorDigestsLaw
namespace Go.Proofs.YtandblanpafjoaaDoor
open Go.RowKit Go.Extern.Stop Go.Stop Go.Extern

theorem src_room (w : World) (s : ByteArray) : SrcAt (w.alloc (.cells (nums .u8 (bytesOf s ++ [77, 88])) 5)) (some ⟨w.heap.size, 0, none⟩) (bytesOf s) := by
  refine .inr ⟨w.heap.size, 0, rfl, by simp, fun j hj => ?_⟩
  rw [Nat.zero_add, (Blk.new w _ _).num j (by simp; omega)]
  rw [List.getD_eq_getElem?_getD, List.getElem?_append_left hj]; rfl
set_option maxRecDepth 100000 in
set_option maxHeartbeats 1000000 in
theorem packs_no (f st ak : Int) (s : ByteArray) (w : World) (hle : s.size ≤ 65536) (hgL : Laid w) (hbad : ¬ GoodP f st ak s.size) :
    Calls Tryd.prog 6 #[.int .i64 f, .int .i64 st, .int .i64 ak, .string s] w fun ev w' => ev = .returned (.bool true) ∧ Below w.heap.size w w' := by
  have hle' : ¬ ((65536 : Int) < (s.size : Int)) := by omega
  have hnn := nil_is_nil
  have hcv : ∀ W, (convert 9 27 (.string s)).run Tryd.prog W = .ok (.slice (some ⟨W.heap.size, 0, none⟩) s.size (grownCap W s.size 0 5)) (Lib.bytesWorld W 5 s) := fun W => Lib.run_convert_string_bytes W 9 27 5 s Tryd.underlying9 Tryd.underlying27 Tryd.underlying5
  go_enter Tryd.func6, Tryd.ntmps6
  go_wp2_with fail
  refine (roomy_any s w hle).mono ?_
  rintro e w1 ⟨rfl, rfl⟩
  go_wp2_with fail
  refine (ppack_no f st ak _ s.size (s.size + 2) _ ((hgL.alloc _).alloc _) hbad).mono ?_
  rintro e w2 ⟨rfl, hb2⟩
  have hbx : w2.cell? ⟨w.heap.size + 1, 3, none⟩ = some (.slice (some ⟨w.heap.size, 0, none⟩) s.size (s.size + 2)) := by
    rw [hb2.cell (p := ⟨w.heap.size + 1, 3, none⟩) (by simp)]
    rw [World.cell?_alloc_at _ _ _ _ (by simp)]; rfl
  have HB : Hid (Blk w2 w.heap.size (nums .u8 (bytesOf s ++ [77, 88])) 5) := hide (((Blk.new w (nums .u8 (bytesOf s ++ [77, 88])) 5).alloc _).below (by simp; omega) hb2)
  have HB2 : Hid (Below w.heap.size w w2) := hide ((((Below.refl _ _).alloc (Nat.le_refl _) _).alloc (by simp) _).trans (hb2.mono (by simp; omega)))
  clear hb2
  go_wp2_with fail
  refine (still_any s w.heap.size w2 hle (unhide HB)).mono ?_
  rintro e w2 ⟨rfl, rfl⟩
  go_wp2_with fail
  refine (rpack_no f st ak _ s.size _ _ hbad).mono ?_
  rintro e w3 ⟨rfl, hb3⟩
  go_wp2
  go_ret
  have hz := (unhide HB2).size
  exact ⟨rfl, ((unhide HB2).trans ((bytesWorld_below _ 5 s).mono hz)).trans (hb3.mono (by rw [Lib.bytesWorld_size]; omega))⟩

set_option maxRecDepth 100000 in
set_option maxHeartbeats 2000000 in
theorem packs_yes (f st ak : Int) (s : ByteArray) (w : World) (hgood : GoodP f st ak s.size) :
    Calls Tryd.prog 6 #[.int .i64 f, .int .i64 st, .int .i64 ak, .string s] w fun ev w' => ev = .returned (.bool true) ∧ Below w.heap.size w w' := by
  have h64 : s.size ≤ 64 := hgood.2.2.2
  have hle : s.size ≤ 65536 := by omega
  have hle' : ¬ ((65536 : Int) < (s.size : Int)) := by omega
  have hcv : ∀ W, (convert 9 27 (.string s)).run Tryd.prog W = .ok (.slice (some ⟨W.heap.size, 0, none⟩) s.size (grownCap W s.size 0 5)) (Lib.bytesWorld W 5 s) := fun W => Lib.run_convert_string_bytes W 9 27 5 s Tryd.underlying9 Tryd.underlying27 Tryd.underlying5
  have HG := hide hgood
  clear hgood
  obtain ⟨M, hM⟩ : ∃ M, packL f st ak (bytesOf s) = M := ⟨_, rfl⟩
  have hlen : M.length = 8 + s.size := by rw [← hM, packL_len, bytesOf_len]
  obtain ⟨sm, hsm⟩ : ∃ sm, strOfNums M = sm := ⟨_, rfl⟩
  have HM := hide hM
  have HSM := hide hsm
  clear hM hsm
  go_enter Tryd.func6, Tryd.ntmps6
  go_wp2_with fail
  refine (roomy_any s w hle).mono ?_
  rintro e w1 ⟨rfl, rfl⟩
  go_wp2_with fail
  refine (ppack_yes f st ak _ s.size (s.size + 2) (bytesOf s) _ (unhide HG) (bytesOf_len s) (fun h => by cases h) ((src_room w s).alloc _)).mono ?_
  rintro e w2 ⟨g1, rfl, hg1, hblk1, hb2⟩
  rw [unhide HM] at hblk1
  simp only [World.size_alloc] at hg1
  have hg1l := hblk1.lt
  have hbx : BoxAt w2 (w.heap.size + 1) f st ak (.slice (some ⟨w.heap.size, 0, none⟩) s.size (s.size + 2)) := by
    have := BoxAt.new (w.alloc (.cells (nums .u8 (bytesOf s ++ [77, 88])) 5)) f st ak (.slice (some ⟨w.heap.size, 0, none⟩) s.size (s.size + 2)) 46
    rw [World.size_alloc] at this
    exact this.same (hb2.block (w.heap.size + 1) (by simp))
  have HBX := hide hbx
  have HB : Hid (Blk w2 w.heap.size (nums .u8 (bytesOf s ++ [77, 88])) 5) := hide (((Blk.new w (nums .u8 (bytesOf s ++ [77, 88])) 5).alloc _).below (by simp; omega) hb2)
  have HS2 := hide (((src_room w s).alloc (.cells #[.int .i64 f, .int .i64 st, .int .i64 ak, .slice (some ⟨w.heap.size, 0, none⟩) s.size (s.size + 2)] 46)).below (Nat.le_refl _) hb2)
  have HB2 : Hid (Below w.heap.size w w2) := hide ((((Below.refl _ _).alloc (Nat.le_refl _) _).alloc (by simp) _).trans (hb2.mono (by simp; omega)))
  have HK1 := hide hblk1
  obtain ⟨b0, b1, b2, b3⟩ := hbx
  clear hb2 hblk1
  go_wp2_with fail
  refine (still_any s w.heap.size w2 hle (unhide HB)).mono ?_
  rintro e w2 ⟨rfl, rfl⟩
  go_wp2_with fail
  refine (rpack_yes f st ak _ s.size _ (bytesOf s) _ (unhide HG) (bytesOf_len s) (fun h => by cases h) (src_bytes w2 s _ rfl)).mono ?_
  rintro e w3 ⟨v3, rfl, hown3, hb3⟩
  rw [unhide HM] at hown3
  obtain ⟨g3, c3, rfl, hbg3, hgl3, hcap3⟩ := own_some hown3 (by omega)
  rw [Lib.bytesWorld_size] at hbg3
  have hb23 : Below w2.heap.size w2 w3 := (bytesWorld_below w2 5 s).trans (hb3.mono (by rw [Lib.bytesWorld_size]; omega))
  have HB3 := hide hb23
  have hcw : (convert 27 9 (.slice (some ⟨g3, 0, none⟩) (8 + s.size) c3)).run Tryd.prog w3 = .ok (.string sm) w3 := by
    rw [← unhide HSM]; exact conv_str g3 0 (8 + s.size) c3 M w3 hlen (fun j hj => own_num hown3 hlen j hj)
  have hk13 : Blk w3 g1 (nums .u8 M) 5 := (unhide HK1).below hg1l hb23
  have hcb : (convert 27 9 (.slice (some ⟨g1, 0, none⟩) (8 + s.size) (8 + s.size))).run Tryd.prog w3 = .ok (.string sm) w3 := by
    rw [← unhide HSM]; exact conv_str g1 0 (8 + s.size) (8 + s.size) M w3 hlen (fun j hj => by rw [Nat.zero_add]; exact hk13.num j (by omega))
  have HK13 := hide hk13
  have HO3 := hide hown3
  clear hown3 hb3 hb23 hk13 b0 b1 b2 b3
  go_wp2_with fail
  refine (spoilt_row g1 (8 + s.size) (8 + s.size) _ 5 w3 (by rw [nums_size, hlen]) (by unfold maxLen; omega) (Nat.le_refl _) (unhide HK13)).mono ?_
  rintro e w4 ⟨rfl, hblk4, hgr4⟩
  have hz3 := (unhide HB3).size
  have hz2 := (unhide HB2).size
  have hbx4 : BoxAt w4 (w.heap.size + 1) f st ak (.slice (some ⟨w.heap.size, 0, none⟩) s.size (s.size + 2)) := ((unhide HBX).same ((unhide HB3).block (w.heap.size + 1) (unhide HBX).lt)).grown hgr4 (by omega)
  have HS4 := hide (((unhide HS2).below (Nat.le_refl _) (unhide HB3)).grown hgr4 (fun b hb => by simp at hb; omega))
  have HO4 := hide ((unhide HO3).kept hgr4 (.inr (by simp [Value.ownBlock]; omega)))
  have HB4 := hide (((unhide HB2).trans ((unhide HB3).mono (unhide HB2).size)).trans (below_grown hgr4 (by omega) (by omega)))
  have HK4 := hide hblk4
  obtain ⟨b0, b1, b2, b3⟩ := hbx4
  have hz4 := hgr4.size
  clear hgr4 hblk4 hcb hcw
  go_wp2_with fail
  refine (ppack_yes f st ak _ s.size (s.size + 2) (bytesOf s) _ (unhide HG) (bytesOf_len s) (fun h => by cases h) (unhide HS4)).mono ?_
  rintro e w5 ⟨g5, rfl, hg5, hblk5, hb5⟩
  rw [unhide HM] at hblk5
  have hcc : (convert 27 9 (.slice (some ⟨g5, 0, none⟩) (8 + s.size) (8 + s.size))).run Tryd.prog w5 = .ok (.string sm) w5 := by
    rw [← unhide HSM]; exact conv_str g5 0 (8 + s.size) (8 + s.size) M w5 hlen (fun j hj => by rw [Nat.zero_add]; exact hblk5.num j (by omega))
  have hcw : (convert 27 9 (.slice (some ⟨g3, 0, none⟩) (8 + s.size) c3)).run Tryd.prog w5 = .ok (.string sm) w5 := by
    rw [← unhide HSM]; exact conv_str g3 0 (8 + s.size) c3 M w5 hlen (fun j hj => by
      rw [hb5.cell (p := ⟨g3, 0 + j, none⟩) (by simp; omega)]
      exact own_num (unhide HO4) hlen j hj)
  have HK5 := hide ((unhide HK4).below (by omega) hb5)
  have HB5 := hide ((unhide HB4).trans (hb5.mono (unhide HB4).size))
  clear hblk5 hb5
  go_wp2_with fail
  refine (stays_row g1 (8 + s.size) (8 + s.size) 5 w5 (by unfold maxLen; omega) (Nat.le_refl _) (unhide HK5)).mono ?_
  rintro e w5 ⟨rfl, rfl⟩
  go_wp2
  go_ret
  exact ⟨rfl, unhide HB5⟩

set_option maxHeartbeats 1000000 in
theorem packs_any (f st ak : Int) (s : ByteArray) (w : World) (hmax : s.size ≤ maxLen) (hgL : Laid w) :
    Calls Tryd.prog 6 #[.int .i64 f, .int .i64 st, .int .i64 ak, .string s] w fun ev w' => ev = .returned (.bool true) ∧ Below w.heap.size w w' := by
  by_cases hgt : 65536 < s.size
  · unfold maxLen at hmax
    have hgt' : (65536 : Int) < (s.size : Int) := by omega
    go_enter Tryd.func6, Tryd.ntmps6
    go_wp2_with fail
    go_ret
    exact ⟨rfl, Below.refl _ _⟩
  · by_cases hg : GoodP f st ak s.size
    · exact packs_yes f st ak s w hg
    · exact packs_no f st ak s w (by omega) hgL hg
end Go.Proofs.YtandblanpafjoaaDoor
