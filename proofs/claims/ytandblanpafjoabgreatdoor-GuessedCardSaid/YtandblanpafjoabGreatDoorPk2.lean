import Derived.Test.YtandblanpafjoabGreatDoorPk1
import Derived.Laws.MakeOwn
namespace Go.Proofs.YtandblanpafjoabGreatDoor
open Go.RowKit Go.Extern.Stop Go.Stop Go.Extern

/-- A packet's four cells. -/
def BoxAt (w : World) (b : Nat) (f st ak : Int) (v : Value) : Prop :=
  w.cell? ⟨b, 0, none⟩ = some (.int .i64 f) ∧ w.cell? ⟨b, 1, none⟩ = some (.int .i64 st) ∧ w.cell? ⟨b, 2, none⟩ = some (.int .i64 ak) ∧ w.cell? ⟨b, 3, none⟩ = some v
theorem BoxAt.new (w : World) (f st ak : Int) (v : Value) (t : TypeId) : BoxAt (w.alloc (.cells #[.int .i64 f, .int .i64 st, .int .i64 ak, v] t)) w.heap.size f st ak v := by
  refine ⟨?_, ?_, ?_, ?_⟩ <;> (rw [World.cell?_alloc_new]; rfl)
theorem BoxAt.lt {w : World} {b : Nat} {f st ak : Int} {v : Value} (h : BoxAt w b f st ak v) : b < w.heap.size := cell_lt h.1
theorem BoxAt.same {w w' : World} {b : Nat} {f st ak : Int} {v : Value} (h : BoxAt w b f st ak v) (e : w'.heap[b]? = w.heap[b]?) : BoxAt w' b f st ak v := by
  obtain ⟨h0, h1, h2, h3⟩ := h
  refine ⟨?_, ?_, ?_, ?_⟩ <;> (rw [World.cell?_of_block (w := w) (by exact e)]; assumption)
theorem BoxAt.grown {w w' : World} {b g : Nat} {f st ak : Int} {v : Value} (h : BoxAt w b f st ak v) (hg : w.grownBy w' (some g)) (hne : b ≠ g) : BoxAt w' b f st ak v :=
  h.same (hg.block b h.lt (fun e => hne (by injection e)))
theorem BoxAt.alloc {w : World} {b : Nat} {f st ak : Int} {v : Value} (h : BoxAt w b f st ak v) (o : Obj) : BoxAt (w.alloc o) b f st ak v := h.same (heap_alloc_old w o h.lt)

/-- What stands while a packet is written: its parts, its inputs, and that what was there before is as it was. -/
structure WInv (w wk : World) (g : Nat) (f st ak : Int) (ao : Option Addr) (n c : Nat) (l : List Int) : Prop where
  box : BoxAt wk w.heap.size f st ak (.slice ao n c)
  src : SrcAt wk ao l
  below : Below w.heap.size w wk
  lt : g < wk.heap.size
theorem WInv.alloc {w wk : World} {g : Nat} {f st ak : Int} {ao : Option Addr} {n c : Nat} {l : List Int} (h : WInv w wk g f st ak ao n c l) (o : Obj) : WInv w (wk.alloc o) g f st ak ao n c l :=
  ⟨h.box.alloc o, h.src.alloc o, h.below.alloc h.below.size o, by have := h.lt; simp; omega⟩
theorem WInv.grown {w wk w' : World} {g : Nat} {f st ak : Int} {ao : Option Addr} {n c : Nat} {l : List Int} (h : WInv w wk g f st ak ao n c l) (hg : wk.grownBy w' (some g)) (hw : w.heap.size < g) (hs : ∀ b, ao.map (·.block) = some b → b < w.heap.size) : WInv w w' g f st ak ao n c l :=
  ⟨h.box.grown hg (by omega), h.src.grown hg (fun b hb => by have := hs b hb; omega), h.below.trans (below_grown hg h.below.size (by omega)), by have := h.lt; have := hg.size; omega⟩

set_option maxRecDepth 100000 in
set_option maxHeartbeats 2000000 in
theorem write_yes (f st ak : Int) (ao : Option Addr) (n c : Nat) (l : List Int) (w : World) (h : GoodP f st ak n) (hl : l.length = n) (hc0 : ao = none → c = 0) (hsrc : SrcAt w ao l) :
    Calls Tryz.prog 55 #[.agg #[.int .i64 f, .int .i64 st, .int .i64 ak, .slice ao n c]] w fun e w' => ∃ g, e = .returned (.tuple #[.slice (some ⟨g, 0, none⟩) (8 + n) (8 + n), .nilIface]) ∧ w.heap.size ≤ g ∧ Blk w' g (nums .u8 (packL f st ak l)) 5 ∧ Below w.heap.size w w' := by
  have HG := hide h
  obtain ⟨⟨h1, h2⟩, ⟨h3, h4⟩, ⟨h5, h6⟩, h7⟩ := h
  obtain ⟨i8, hi8, hz8, hs8, hy8⟩ := info_parts Tryz.infoU8
  have hmk : ∀ W : World, (Instr.makeSlice 35 (.int .i64 0) (.int .i64 (8 + (n : Int)))).run Tryz.prog W = .ok (.slice (some ⟨W.heap.size, 0, none⟩) 0 (8 + n)) (W.alloc (.cells (nums .u8 (List.replicate (8 + n) 0)) 5)) := fun W => by
    rw [run_make W 35 5 i8 (.int .u8 0) Tryz.underlying35 hi8 hz8 .i64 .i64 _ _ (by omega) (by omega) (by rw [hy8]; omega) (by omega)]
    rw [show (8 + (n : Int)).toNat = 8 + n by omega, show (0 : Int).toNat = 0 from rfl, hs8, Nat.mul_one, show madeCells (Value.cells (.int .u8 0)) (8 + n) = nums .u8 (List.replicate (8 + n) 0) from made_zeros _]
  have HT := hide (And.intro hi8 hs8)
  have HS := hide hsrc
  have HC := hide hc0
  have HL := hide hl
  have hcf : f % 256 = f := by omega
  have hcn : (n : Int) % 256 = (n : Int) := by omega
  clear hi8 hz8 hs8 hy8 hsrc hc0 hl
  go_enter Tryz.func55, Tryz.ntmps55
  go_wp2_with fail
  refine (parts_yes f st ak ao n c _ (unhide HG)).mono ?_
  rintro e w1 ⟨rfl, rfl⟩
  have HI := hide (WInv.mk (w := w) (g := w.heap.size + 1) (((BoxAt.new w f st ak (.slice ao n c) 130).alloc (.cells #[.int .i64 f, .int .i64 st, .int .i64 ak, .slice ao n c] 130))) (((unhide HS).alloc (.cells #[.int .i64 f, .int .i64 st, .int .i64 ak, .slice ao n c] 130)).alloc (.cells #[.int .i64 f, .int .i64 st, .int .i64 ak, .slice ao n c] 130))
    (((Below.refl w.heap.size w).alloc (Nat.le_refl _) (.cells #[.int .i64 f, .int .i64 st, .int .i64 ak, .slice ao n c] 130)).alloc (by simp) (.cells #[.int .i64 f, .int .i64 st, .int .i64 ak, .slice ao n c] 130)) (by simp))
  generalize ((w.alloc (.cells #[.int .i64 f, .int .i64 st, .int .i64 ak, .slice ao n c] 130)).alloc (.cells #[.int .i64 f, .int .i64 st, .int .i64 ak, .slice ao n c] 130)) = W at *
  have hlt0 := (unhide HI).lt
  have hlt1 : w.heap.size < W.heap.size := by omega
  have hne1 : w.heap.size ≠ W.heap.size := by omega
  have HI1 := hide (WInv.mk (g := W.heap.size) ((unhide HI).box.alloc (.cells (nums .u8 (List.replicate (8 + n) 0)) 5)) ((unhide HI).src.alloc _) ((unhide HI).below.alloc (unhide HI).below.size _) (by simp))
  have HSL := hide (unhide HS).lt
  obtain ⟨b0, b1, b2, b3⟩ := (unhide HI).box
  clear hlt0
  go_wp2_with (first
    | (at_builtin; refine wpList_append_fits rfl _ _ 35 rfl w.heap.size 5 i8 Tryz.underlying35 (unhide HT).1 (unhide HT).2 W.heap.size 0 (8 + n) [] rfl ((World.ownsRow_made W (nums .u8 (List.replicate (8 + n) 0)) (8 + n) (by omega) (by unfold maxLen; omega) (by simp [nums_size])).alloc _) _ 2 2 _ rfl (fun h => by cases h) rfl (src_new2 _ _ _ _ _ (by simp)) (by omega) ?_; intro w1 hown1 hgr1; have HI2 := hide (((unhide HI1).alloc _).grown hgr1 hlt1 (unhide HSL)); have HO1 := hide hown1; clear hown1 hgr1 b0 b1 b2 b3; obtain ⟨b0, b1, b2, b3⟩ := (unhide HI2).box))
  refine (pkappend_any st w.heap.size W.heap.size 2 (8 + n) _ w1 h3 h4 (unhide HO1) (by omega)).mono ?_
  rintro e w2 ⟨rfl, hown2, hgr2⟩
  have HI3 := hide ((unhide HI2).grown hgr2 hlt1 (unhide HSL))
  have HO2 := hide hown2
  clear hown2 hgr2 b0 b1 b2 b3
  obtain ⟨b0, b1, b2, b3⟩ := (unhide HI3).box
  go_wp2_with fail
  refine (pkappend_any ak w.heap.size W.heap.size 4 (8 + n) _ w2 h5 h6 (unhide HO2) (by omega)).mono ?_
  rintro e w3 ⟨rfl, hown3, hgr3⟩
  have HI4 := hide ((unhide HI3).grown hgr3 hlt1 (unhide HSL))
  have HO3 := hide hown3
  clear hown3 hgr3 b0 b1 b2 b3
  obtain ⟨b0, b1, b2, b3⟩ := (unhide HI4).box
  go_wp2_with (first
    | (at_builtin; refine wpList_append_fits rfl _ _ 35 rfl w.heap.size 5 i8 Tryz.underlying35 (unhide HT).1 (unhide HT).2 W.heap.size 6 (8 + n) _ rfl ((unhide HO3).alloc _) _ 1 1 _ rfl (fun h => by cases h) rfl (src_new1 _ _ _ _ (by simp)) (by omega) ?_; intro w4 hown4 hgr4; have HI5 := hide (((unhide HI4).alloc _).grown hgr4 hlt1 (unhide HSL)); have HO4 := hide hown4; clear hown4 hgr4 b0 b1 b2 b3; obtain ⟨b0, b1, b2, b3⟩ := (unhide HI5).box)
    | (at_builtin; refine wpList_append_fits rfl _ _ 35 rfl w.heap.size 5 i8 Tryz.underlying35 (unhide HT).1 (unhide HT).2 W.heap.size 7 (8 + n) _ rfl (unhide HO4) ao n c l rfl (unhide HC) (unhide HL) (unhide HI5).src (by omega) ?_; intro w5 hown5 hgr5; have HI6 := hide ((unhide HI5).grown hgr5 hlt1 (unhide HSL)); have HO5 := hide hown5; clear hown5 hgr5 b0 b1 b2 b3))
  have HH : Hid (w5.ownsRow w.heap.size 5 1 (.slice (some ⟨W.heap.size, 0, none⟩) (7 + n) (8 + n)) (7 + n) ((headL f st ak l).map (Value.int .u8))) := by
    have := unhide HO5
    have e : ([] ++ List.map (Value.int IntKind.u8) [82, f] ++ [Value.int IntKind.u8 (st / 256), Value.int IntKind.u8 (st % 256)] ++ [Value.int IntKind.u8 (ak / 256), Value.int IntKind.u8 (ak % 256)] ++ List.map (Value.int IntKind.u8) [(n : Int)] ++ List.map (Value.int IntKind.u8) l) = (headL f st ak l).map (Value.int .u8) := by
      simp [headL, unhide HL]
    rw [e] at this
    exact hide this
  refine (pksum_any W.heap.size 0 (7 + n) (8 + n) (headL f st ak l) w5 (by rw [headL_len, unhide HL]) (by omega) (fun j hj => own_num (unhide HH) (by rw [headL_len, unhide HL]) j hj)).mono ?_
  rintro e w5' ⟨rfl, rfl⟩
  go_wp2_with (at_builtin; refine wpList_append_fits rfl _ _ 35 rfl w.heap.size 5 i8 Tryz.underlying35 (unhide HT).1 (unhide HT).2 W.heap.size (7 + n) (8 + n) _ rfl ((unhide HH).alloc _) _ 1 1 _ rfl (fun h => by cases h) rfl (src_new1 _ _ _ _ rfl) (by omega) ?_; intro w6 hown6 hgr6; have HI7 := hide (((unhide HI6).alloc _).grown hgr6 hlt1 (unhide HSL)); have HO6 := hide hown6; clear hown6 hgr6)
  go_ret2
  have hfin : w6.ownsRow w.heap.size 5 1 (.slice (some ⟨W.heap.size, 0, none⟩) (8 + n) (8 + n)) (8 + n) ((packL f st ak l).map (Value.int .u8)) := by
    have := unhide HO6
    rw [show 7 + n + 1 = 8 + n by omega] at this
    simpa [packL] using this
  refine ⟨W.heap.size, ?_, by omega, (own_blk hfin).2, (unhide HI7).below⟩
  rw [show 7 + n + 1 = 8 + n by omega]; rfl

set_option maxHeartbeats 1000000 in
theorem write_no (f st ak : Int) (ao : Option Addr) (n c : Nat) (w : World) (h : ¬ GoodP f st ak n) :
    Calls Tryz.prog 55 #[.agg #[.int .i64 f, .int .i64 st, .int .i64 ak, .slice ao n c]] w fun e w' => (∃ s, e = .returned (.tuple #[.slice none 0 0, .iface 219 (.agg #[.string s])])) ∧ Below w.heap.size w w' := by
  go_enter Tryz.func55, Tryz.ntmps55
  go_wp2_with fail
  refine (parts_no f st ak ao n c _ h).mono ?_
  rintro e w1 ⟨⟨s, rfl⟩, rfl⟩
  go_wp2
  go_ret2
  exact ⟨⟨s, rfl⟩, ((Below.refl _ _).alloc (Nat.le_refl _) _).alloc (by simp) _⟩

end Go.Proofs.YtandblanpafjoabGreatDoor
