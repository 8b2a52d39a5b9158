import Derived.Test.YtandblanpafjoaaGreatDoorPack03
import Derived.Deep.QuietTactic
import Derived.BigQuiet
import Derived.WalkSmall
import Derived.Test.YtandblanpafjoaaGreatDoorPack01
import Derived.Test.YtandblanpafjoaaGreatDoorPack02
import Derived.Laws.MakeOwn
namespace Go.Proofs.YtandblanpafjoaaGreatDoor
open Go.RowKit Go.Extern.Stop Go.Stop Go.Extern
set_option maxHeartbeats 1000000 in
/-- api.Told: no error. -/
theorem told_nil (w : World) :
    Calls Tryz.prog 56 #[.nilIface] w fun ev w' => ev = .returned (.tuple #[.int .i64 0, .int .i64 (-1)]) ∧ Below w.heap.size w w' := by
  go_enter Tryz.func56, Tryz.ntmps56
  go_wp2_with (go_at_call 81; refine (as_nil _ _).mono ?_; rintro e w' ⟨rfl, rfl⟩)
  go_ret2
  exact ⟨rfl, ((Below.refl _ _).alloc (Nat.le_refl _) _).alloc (by simp) _⟩
set_option maxHeartbeats 1000000 in
/-- api.Told: a Kind. -/
theorem told_kind (k : Int) (w : World) (hgL : Laid w) :
    Calls Tryz.prog 56 #[.iface 51 (.int .i64 k)] w fun ev w' => ev = .returned (.tuple #[.int .i64 k, .int .i64 (-1)]) ∧ Below w.heap.size w w' := by
  go_enter Tryz.func56, Tryz.ntmps56
  go_wp2_with fail
  refine (as_missKP k _ _ (hgL.alloc _)).mono ?_
  rintro e w1 ⟨rfl, hb1⟩
  have hL1 : Laid w1 := (hgL.alloc _).below (by simp) hb1
  have hz1 := hb1.size
  go_wp2_with fail
  refine (as_hitK k _ (.int .i64 0) _ (hL1.alloc _) (by simp) (by simp)).mono ?_
  rintro e w2 ⟨rfl, w3, hb3, rfl⟩
  have hz3 := hb3.size
  have hc3 : w3.cell? ⟨w1.heap.size, 0, none⟩ = some (.int .i64 0) := by rw [hb3.cell (p := ⟨w1.heap.size, 0, none⟩) (by simp)]; simp
  have hc : (w3.setCell ⟨w1.heap.size, 0, none⟩ (.int .i64 k)).cell? ⟨w1.heap.size, 0, none⟩ = some (.int .i64 k) := by
    rw [World.cell?_setCell_same _ _ _ hc3]
  go_wp2
  go_ret2
  refine ⟨rfl, ?_⟩
  have b1 : Below w.heap.size w w1 := ((Below.refl _ _).alloc (Nat.le_refl _) _).trans (hb1.mono (by simp))
  have b2 := b1.alloc (B := w.heap.size) (by have := b1.size; omega) (.cells #[.int .i64 0] 51)
  have b3 := b2.trans (hb3.mono (by have := b1.size; simp; omega))
  exact b3.setCell (by have := b1.size; simp; omega) _
set_option maxHeartbeats 1000000 in
/-- api.Told: an error of a peer. -/
theorem told_peer (b : Nat) (p k : Int) (w : World) (hgL : Laid w) (hp : w.cell? ⟨b, 0, none⟩ = some (.int .i64 p)) (hk : w.cell? ⟨b, 1, none⟩ = some (.int .i64 k)) :
    Calls Tryz.prog 56 #[.iface 149 (.pointer (some ⟨b, 0, none⟩))] w fun ev w' => ev = .returned (.tuple #[.int .i64 k, .int .i64 p]) ∧ Below w.heap.size w w' := by
  have hbl : b < w.heap.size := cell_lt hp
  go_enter Tryz.func56, Tryz.ntmps56
  go_wp2_with fail
  refine (as_hitP _ _ (.pointer none) _ (hgL.alloc _) (by simp) (by simp)).mono ?_
  rintro e w2 ⟨rfl, w3, hb3, rfl⟩
  have hz3 := hb3.size
  have hc3 : w3.cell? ⟨w.heap.size, 0, none⟩ = some (.pointer none) := by rw [hb3.cell (p := ⟨w.heap.size, 0, none⟩) (by simp)]; simp
  have hc : (w3.setCell ⟨w.heap.size, 0, none⟩ (.pointer (some ⟨b, 0, none⟩))).cell? ⟨w.heap.size, 0, none⟩ = some (.pointer (some ⟨b, 0, none⟩)) := by
    rw [World.cell?_setCell_same _ _ _ hc3]
  have hne : ∀ o, (w3.setCell ⟨w.heap.size, 0, none⟩ (.pointer (some ⟨b, 0, none⟩))).cell? ⟨b, o, none⟩ = w.cell? ⟨b, o, none⟩ := fun o => by
    rw [World.cell?_setCell_other _ _ _ _ (by intro h; injection h with h1; omega), hb3.cell (p := ⟨b, o, none⟩) (by simp; omega), World.cell?_alloc_lt _ _ ⟨b, o, none⟩ hbl]
  have hp' : (w3.setCell ⟨w.heap.size, 0, none⟩ (.pointer (some ⟨b, 0, none⟩))).cell? ⟨b, 0, none⟩ = some (.int .i64 p) := by rw [hne]; exact hp
  have hk' : (w3.setCell ⟨w.heap.size, 0, none⟩ (.pointer (some ⟨b, 0, none⟩))).cell? ⟨b, 1, none⟩ = some (.int .i64 k) := by rw [hne]; exact hk
  have hB : Below w.heap.size w (w3.setCell ⟨w.heap.size, 0, none⟩ (.pointer (some ⟨b, 0, none⟩))) := (((Below.refl _ _).alloc (Nat.le_refl _) _).trans (hb3.mono (by simp))).setCell (by simp) _
  clear hne hc3
  generalize (w3.setCell ⟨w.heap.size, 0, none⟩ (.pointer (some ⟨b, 0, none⟩))) = w4 at *
  go_wp2
  go_quiet (fail)
  go_wp2
  go_ret2
  exact ⟨rfl, Go.below_drewN hB _⟩
end Go.Proofs.YtandblanpafjoaaGreatDoor

namespace Go.Proofs.YtandblanpafjoaaGreatDoor
open Go.RowKit Go.Extern.Stop Go.Stop Go.Extern
end Go.Proofs.YtandblanpafjoaaGreatDoor

namespace Go.Proofs.YtandblanpafjoaaGreatDoor
open Go.RowKit Go.Extern.Stop Go.Stop Go.Extern
set_option maxHeartbeats 1000000 in
theorem parts_yes (f st ak : Int) (ao : Option Addr) (n c : Nat) (w : World) (h : GoodP f st ak n) :
    Calls Tryz.prog 92 #[.agg #[.int .i64 f, .int .i64 st, .int .i64 ak, .slice ao n c]] w fun e w' => e = .returned .nilIface ∧ w' = w.alloc (.cells #[.int .i64 f, .int .i64 st, .int .i64 ak, .slice ao n c] 130) := by
  obtain ⟨⟨h1, h2⟩, ⟨h3, h4⟩, ⟨h5, h6⟩, h7⟩ := h
  have d1 : decide (f < 0) = false := by simp; omega
  have d2 : decide (st < 0) = false := by simp; omega
  have d3 : decide (ak < 0) = false := by simp; omega
  have h8 : ¬ (64 : Int) < (n : Int) := by omega
  go_enter Tryz.func92, Tryz.ntmps92
  go_wp2
  go_ret
  exact ⟨rfl, rfl⟩
set_option maxHeartbeats 4000000 in
theorem parts_no (f st ak : Int) (ao : Option Addr) (n c : Nat) (w : World) (h : ¬ GoodP f st ak n) :
    Calls Tryz.prog 92 #[.agg #[.int .i64 f, .int .i64 st, .int .i64 ak, .slice ao n c]] w fun e w' => (∃ s, e = .returned (.iface 205 (.agg #[.string s]))) ∧ w' = w.alloc (.cells #[.int .i64 f, .int .i64 st, .int .i64 ak, .slice ao n c] 130) := by
  unfold GoodP at h
  by_cases a1 : f < 0
  · go_enter Tryz.func92, Tryz.ntmps92
    go_wp2
    go_ret
    exact ⟨⟨_, rfl⟩, rfl⟩
  have d1 : decide (f < 0) = false := by simp; omega
  by_cases a2 : 4 ≤ f
  · go_enter Tryz.func92, Tryz.ntmps92
    go_wp2
    go_ret
    exact ⟨⟨_, rfl⟩, rfl⟩
  by_cases a3 : st < 0
  · go_enter Tryz.func92, Tryz.ntmps92
    go_wp2
    go_ret
    exact ⟨⟨_, rfl⟩, rfl⟩
  have d2 : decide (st < 0) = false := by simp; omega
  by_cases a4 : 65535 < st
  · go_enter Tryz.func92, Tryz.ntmps92
    go_wp2
    go_ret
    exact ⟨⟨_, rfl⟩, rfl⟩
  by_cases a5 : ak < 0
  · go_enter Tryz.func92, Tryz.ntmps92
    go_wp2
    go_ret
    exact ⟨⟨_, rfl⟩, rfl⟩
  have d3 : decide (ak < 0) = false := by simp; omega
  by_cases a6 : 65535 < ak
  · go_enter Tryz.func92, Tryz.ntmps92
    go_wp2
    go_ret
    exact ⟨⟨_, rfl⟩, rfl⟩
  have h8 : (64 : Int) < (n : Int) := by omega
  clear h
  go_enter Tryz.func92, Tryz.ntmps92
  go_wp2
  go_ret
  exact ⟨⟨_, rfl⟩, rfl⟩
set_option maxHeartbeats 400000 in
theorem pksum_any (b off n c : Nat) (l : List Int) (w : World) (hl : l.length = n) (hn : n ≤ 100000)
    (hc : ∀ j, j < n → w.cell? ⟨b, off + j, none⟩ = some (.int .u8 (l.getD j 0))) :
    Calls Tryz.prog 94 #[.slice (some ⟨b, off, none⟩) n c] w fun e w' => e = .returned (.int .u8 (xorL l)) ∧ w' = w := by
  go_enter Tryz.func94, Tryz.ntmps94
  go_wp2
  go_loop [3, 8] (fun v i => ∃ k : Nat, k ≤ n ∧ i = .int .i64 k ∧ v = .int .u8 (xorL (l.take k))) (fun _ i => n - (intOf i).toNat)
  case atStart => exact ⟨0, Nat.zero_le _, rfl, rfl⟩
  case round =>
    obtain ⟨k, hk, rfl, rfl⟩ := hrel
    by_cases hlt : k < n
    · have hcell := hc k hlt
      have hs := hide (xorL_snoc l k (by omega))
      go_wp2
      go_round
      case rel => exact ⟨k + 1, by omega, by go_num, int_eq (unhide hs).symm⟩
      case measure => simp [intOf]; omega
    · go_wp2
      go_ret
      exact ⟨ret_int (by rw [List.take_of_length_le (by omega)]), rfl⟩
set_option maxHeartbeats 400000 in
theorem pkappend_any (x : Int) (base g n cap : Nat) (xs : List Value) (w : World) (hx0 : 0 ≤ x) (hx1 : x ≤ 65535) (hown : w.ownsRow base 5 1 (.slice (some ⟨g, 0, none⟩) n cap) n xs) (hroom : n + 2 ≤ cap) :
    Calls Tryz.prog 93 #[.slice (some ⟨g, 0, none⟩) n cap, .int .i64 x] w fun e w' => e = .returned (.slice (some ⟨g, 0, none⟩) (n + 2) cap) ∧ w'.ownsRow base 5 1 (.slice (some ⟨g, 0, none⟩) (n + 2) cap) (n + 2) (xs ++ [.int .u8 (x / 256), .int .u8 (x % 256)]) ∧ w.grownBy w' (some g) := by
  obtain ⟨i8, hi8, hz8, hs8, hy8⟩ := info_parts Tryz.infoU8
  have HT := hide (And.intro hi8 hs8)
  have HOWN := hide hown
  clear hi8 hz8 hs8 hy8 hown
  go_enter Tryz.func93, Tryz.ntmps93
  go_wp2_with (at_builtin; refine wpList_append_fits rfl _ _ 46 rfl base 5 i8 Tryz.underlying46 (unhide HT).1 (unhide HT).2 g n cap xs rfl ((unhide HOWN).alloc _) _ 2 2 _ rfl (fun h => by cases h) rfl (src_new2 _ _ _ _ _ rfl) hroom ?_; intro w' hown' hgr')
  go_ret
  refine ⟨rfl, ?_, ?_⟩
  · simpa using hown'
  · exact grown_trans (World.grownBy_alloc w _ (some g)) hgr'
end Go.Proofs.YtandblanpafjoaaGreatDoor

namespace Go.Proofs.YtandblanpafjoaaGreatDoor
open Go.RowKit Go.Extern.Stop Go.Stop Go.Extern
/-- A packet's four cells. -/
def BoxAt (w : World) (b : Nat) (f st ak : Int) (v : Value) : Prop :=
  w.cell? ⟨b, 0, none⟩ = some (.int .i64 f) ∧ w.cell? ⟨b, 1, none⟩ = some (.int .i64 st) ∧ w.cell? ⟨b, 2, none⟩ = some (.int .i64 ak) ∧ w.cell? ⟨b, 3, none⟩ = some v
theorem BoxAt.new (w : World) (f st ak : Int) (v : Value) (t : TypeId) : BoxAt (w.alloc (.cells #[.int .i64 f, .int .i64 st, .int .i64 ak, v] t)) w.heap.size f st ak v := by
  refine ⟨?_, ?_, ?_, ?_⟩ <;> (rw [World.cell?_alloc_new]; rfl)
theorem BoxAt.lt {w : World} {b : Nat} {f st ak : Int} {v : Value} (h : BoxAt w b f st ak v) : b < w.heap.size := cell_lt h.1
theorem BoxAt.same {w w' : World} {b : Nat} {f st ak : Int} {v : Value} (h : BoxAt w b f st ak v) (e : w'.heap[b]? = w.heap[b]?) : BoxAt w' b f st ak v := by
  obtain ⟨h0, h1, h2, h3⟩ := h
  refine ⟨?_, ?_, ?_, ?_⟩ <;> (rw [World.cell?_of_block (w := w) (by exact e)]; assumption)
theorem BoxAt.grown {w w' : World} {b g : Nat} {f st ak : Int} {v : Value} (h : BoxAt w b f st ak v) (hg : w.grownBy w' (some g)) (hne : b ≠ g) : BoxAt w' b f st ak v :=
  h.same (hg.block b h.lt (fun e => hne (by injection e)))
theorem BoxAt.alloc {w : World} {b : Nat} {f st ak : Int} {v : Value} (h : BoxAt w b f st ak v) (o : Obj) : BoxAt (w.alloc o) b f st ak v := h.same (heap_alloc_old w o h.lt)
/-- What stands while a packet is written: its parts, its inputs, and that what was there before is as it was. -/
structure WInv (w wk : World) (g : Nat) (f st ak : Int) (ao : Option Addr) (n c : Nat) (l : List Int) : Prop where
  box : BoxAt wk w.heap.size f st ak (.slice ao n c)
  src : SrcAt wk ao l
  below : Below w.heap.size w wk
  lt : g < wk.heap.size
theorem WInv.alloc {w wk : World} {g : Nat} {f st ak : Int} {ao : Option Addr} {n c : Nat} {l : List Int} (h : WInv w wk g f st ak ao n c l) (o : Obj) : WInv w (wk.alloc o) g f st ak ao n c l :=
  ⟨h.box.alloc o, h.src.alloc o, h.below.alloc h.below.size o, by have := h.lt; simp; omega⟩
theorem WInv.grown {w wk w' : World} {g : Nat} {f st ak : Int} {ao : Option Addr} {n c : Nat} {l : List Int} (h : WInv w wk g f st ak ao n c l) (hg : wk.grownBy w' (some g)) (hw : w.heap.size < g) (hs : ∀ b, ao.map (·.block) = some b → b < w.heap.size) : WInv w w' g f st ak ao n c l :=
  ⟨h.box.grown hg (by omega), h.src.grown hg (fun b hb => by have := hs b hb; omega), h.below.trans (below_grown hg h.below.size (by omega)), by have := h.lt; have := hg.size; omega⟩
set_option maxRecDepth 100000 in
set_option maxHeartbeats 2000000 in
theorem write_yes (f st ak : Int) (ao : Option Addr) (n c : Nat) (l : List Int) (w : World) (h : GoodP f st ak n) (hl : l.length = n) (hc0 : ao = none → c = 0) (hsrc : SrcAt w ao l) :
    Calls Tryz.prog 63 #[.agg #[.int .i64 f, .int .i64 st, .int .i64 ak, .slice ao n c]] w fun e w' => ∃ g, e = .returned (.tuple #[.slice (some ⟨g, 0, none⟩) (8 + n) (8 + n), .nilIface]) ∧ w.heap.size ≤ g ∧ Blk w' g (nums .u8 (packL f st ak l)) 5 ∧ Below w.heap.size w w' := by
  have HG := hide h
  obtain ⟨⟨h1, h2⟩, ⟨h3, h4⟩, ⟨h5, h6⟩, h7⟩ := h
  obtain ⟨i8, hi8, hz8, hs8, hy8⟩ := info_parts Tryz.infoU8
  have hmk : ∀ W : World, (Instr.makeSlice 46 (.int .i64 0) (.int .i64 (8 + (n : Int)))).run Tryz.prog W = .ok (.slice (some ⟨W.heap.size, 0, none⟩) 0 (8 + n)) (W.alloc (.cells (nums .u8 (List.replicate (8 + n) 0)) 5)) := fun W => by
    rw [run_make W 46 5 i8 (.int .u8 0) Tryz.underlying46 hi8 hz8 .i64 .i64 _ _ (by omega) (by omega) (by rw [hy8]; omega) (by omega)]
    rw [show (8 + (n : Int)).toNat = 8 + n by omega, show (0 : Int).toNat = 0 from rfl, hs8, Nat.mul_one, show madeCells (Value.cells (.int .u8 0)) (8 + n) = nums .u8 (List.replicate (8 + n) 0) from made_zeros _]
  have HT := hide (And.intro hi8 hs8)
  have HS := hide hsrc
  have HC := hide hc0
  have HL := hide hl
  have hcf : f % 256 = f := by omega
  have hcn : (n : Int) % 256 = (n : Int) := by omega
  clear hi8 hz8 hs8 hy8 hsrc hc0 hl
  go_enter Tryz.func63, Tryz.ntmps63
  go_wp2_with fail
  refine (parts_yes f st ak ao n c _ (unhide HG)).mono ?_
  rintro e w1 ⟨rfl, rfl⟩
  have HI := hide (WInv.mk (w := w) (g := w.heap.size + 1) (((BoxAt.new w f st ak (.slice ao n c) 130).alloc (.cells #[.int .i64 f, .int .i64 st, .int .i64 ak, .slice ao n c] 130))) (((unhide HS).alloc (.cells #[.int .i64 f, .int .i64 st, .int .i64 ak, .slice ao n c] 130)).alloc (.cells #[.int .i64 f, .int .i64 st, .int .i64 ak, .slice ao n c] 130))
    (((Below.refl w.heap.size w).alloc (Nat.le_refl _) (.cells #[.int .i64 f, .int .i64 st, .int .i64 ak, .slice ao n c] 130)).alloc (by simp) (.cells #[.int .i64 f, .int .i64 st, .int .i64 ak, .slice ao n c] 130)) (by simp))
  generalize ((w.alloc (.cells #[.int .i64 f, .int .i64 st, .int .i64 ak, .slice ao n c] 130)).alloc (.cells #[.int .i64 f, .int .i64 st, .int .i64 ak, .slice ao n c] 130)) = W at *
  have hlt0 := (unhide HI).lt
  have hlt1 : w.heap.size < W.heap.size := by omega
  have hne1 : w.heap.size ≠ W.heap.size := by omega
  have HI1 := hide (WInv.mk (g := W.heap.size) ((unhide HI).box.alloc (.cells (nums .u8 (List.replicate (8 + n) 0)) 5)) ((unhide HI).src.alloc _) ((unhide HI).below.alloc (unhide HI).below.size _) (by simp))
  have HSL := hide (unhide HS).lt
  obtain ⟨b0, b1, b2, b3⟩ := (unhide HI).box
  clear hlt0
  go_wp2_with (first
    | (at_builtin; refine wpList_append_fits rfl _ _ 46 rfl w.heap.size 5 i8 Tryz.underlying46 (unhide HT).1 (unhide HT).2 W.heap.size 0 (8 + n) [] rfl ((World.ownsRow_made W (nums .u8 (List.replicate (8 + n) 0)) (8 + n) (by omega) (by unfold maxLen; omega) (by simp [nums_size])).alloc _) _ 2 2 _ rfl (fun h => by cases h) rfl (src_new2 _ _ _ _ _ (by simp)) (by omega) ?_; intro w1 hown1 hgr1; have HI2 := hide (((unhide HI1).alloc _).grown hgr1 hlt1 (unhide HSL)); have HO1 := hide hown1; clear hown1 hgr1 b0 b1 b2 b3; obtain ⟨b0, b1, b2, b3⟩ := (unhide HI2).box))
  refine (pkappend_any st w.heap.size W.heap.size 2 (8 + n) _ w1 h3 h4 (unhide HO1) (by omega)).mono ?_
  rintro e w2 ⟨rfl, hown2, hgr2⟩
  have HI3 := hide ((unhide HI2).grown hgr2 hlt1 (unhide HSL))
  have HO2 := hide hown2
  clear hown2 hgr2 b0 b1 b2 b3
  obtain ⟨b0, b1, b2, b3⟩ := (unhide HI3).box
  go_wp2_with fail
  refine (pkappend_any ak w.heap.size W.heap.size 4 (8 + n) _ w2 h5 h6 (unhide HO2) (by omega)).mono ?_
  rintro e w3 ⟨rfl, hown3, hgr3⟩
  have HI4 := hide ((unhide HI3).grown hgr3 hlt1 (unhide HSL))
  have HO3 := hide hown3
  clear hown3 hgr3 b0 b1 b2 b3
  obtain ⟨b0, b1, b2, b3⟩ := (unhide HI4).box
  go_wp2_with (first
    | (at_builtin; refine wpList_append_fits rfl _ _ 46 rfl w.heap.size 5 i8 Tryz.underlying46 (unhide HT).1 (unhide HT).2 W.heap.size 6 (8 + n) _ rfl ((unhide HO3).alloc _) _ 1 1 _ rfl (fun h => by cases h) rfl (src_new1 _ _ _ _ (by simp)) (by omega) ?_; intro w4 hown4 hgr4; have HI5 := hide (((unhide HI4).alloc _).grown hgr4 hlt1 (unhide HSL)); have HO4 := hide hown4; clear hown4 hgr4 b0 b1 b2 b3; obtain ⟨b0, b1, b2, b3⟩ := (unhide HI5).box)
    | (at_builtin; refine wpList_append_fits rfl _ _ 46 rfl w.heap.size 5 i8 Tryz.underlying46 (unhide HT).1 (unhide HT).2 W.heap.size 7 (8 + n) _ rfl (unhide HO4) ao n c l rfl (unhide HC) (unhide HL) (unhide HI5).src (by omega) ?_; intro w5 hown5 hgr5; have HI6 := hide ((unhide HI5).grown hgr5 hlt1 (unhide HSL)); have HO5 := hide hown5; clear hown5 hgr5 b0 b1 b2 b3))
  have HH : Hid (w5.ownsRow w.heap.size 5 1 (.slice (some ⟨W.heap.size, 0, none⟩) (7 + n) (8 + n)) (7 + n) ((headL f st ak l).map (Value.int .u8))) := by
    have := unhide HO5
    have e : ([] ++ List.map (Value.int IntKind.u8) [82, f] ++ [Value.int IntKind.u8 (st / 256), Value.int IntKind.u8 (st % 256)] ++ [Value.int IntKind.u8 (ak / 256), Value.int IntKind.u8 (ak % 256)] ++ List.map (Value.int IntKind.u8) [(n : Int)] ++ List.map (Value.int IntKind.u8) l) = (headL f st ak l).map (Value.int .u8) := by
      simp [headL, unhide HL]
    rw [e] at this
    exact hide this
  refine (pksum_any W.heap.size 0 (7 + n) (8 + n) (headL f st ak l) w5 (by rw [headL_len, unhide HL]) (by omega) (fun j hj => own_num (unhide HH) (by rw [headL_len, unhide HL]) j hj)).mono ?_
  rintro e w5' ⟨rfl, rfl⟩
  go_wp2_with (at_builtin; refine wpList_append_fits rfl _ _ 46 rfl w.heap.size 5 i8 Tryz.underlying46 (unhide HT).1 (unhide HT).2 W.heap.size (7 + n) (8 + n) _ rfl ((unhide HH).alloc _) _ 1 1 _ rfl (fun h => by cases h) rfl (src_new1 _ _ _ _ rfl) (by omega) ?_; intro w6 hown6 hgr6; have HI7 := hide (((unhide HI6).alloc _).grown hgr6 hlt1 (unhide HSL)); have HO6 := hide hown6; clear hown6 hgr6)
  go_ret2
  have hfin : w6.ownsRow w.heap.size 5 1 (.slice (some ⟨W.heap.size, 0, none⟩) (8 + n) (8 + n)) (8 + n) ((packL f st ak l).map (Value.int .u8)) := by
    have := unhide HO6
    rw [show 7 + n + 1 = 8 + n by omega] at this
    simpa [packL] using this
  refine ⟨W.heap.size, ?_, by omega, (own_blk hfin).2, (unhide HI7).below⟩
  rw [show 7 + n + 1 = 8 + n by omega]; rfl
end Go.Proofs.YtandblanpafjoaaGreatDoor

namespace Go.Proofs.YtandblanpafjoaaGreatDoor
open Go.RowKit Go.Extern.Stop Go.Stop Go.Extern
def inputsL (l : List Int) : List Int := (l.drop 7).take (l.length - 8)
def OkP (l : List Int) : Prop := Framed l ∧ GoodP (fromL l) (startL l) (ackL l) (l.length - 8)
instance (l : List Int) : Decidable (OkP l) := by unfold OkP; infer_instance
/-- What was there is as it was. -/
structure HeldP (w0 w' : World) : Prop where
  below : Below w0.heap.size w0 w'
theorem held_mk {w0 w' : World} {b o : Nat} {x : Int} (c1 : w0.cell? ⟨b, o + 1, none⟩ = some (.int .u8 x)) (hbl : b < w0.heap.size) (hb : Below w0.heap.size w0 w') : w'.cell? ⟨b, o + 1, none⟩ = some (.int .u8 x) ∧ HeldP w0 w' :=
  ⟨by rw [hb.cell (p := ⟨b, o + 1, none⟩) hbl]; exact c1, ⟨hb⟩⟩
def Z4 : Array Value := #[.int .i64 0, .int .i64 0, .int .i64 0, .slice none 0 0]
theorem Tryz.sizePk : (Tryz.prog.info? 130).map (·.size) = some 4 := by kernel_rfl
theorem Tryz.zeroPk (w : World) : (zeroValue 130).run Tryz.prog w = .ok (.agg #[.int .i64 0, .int .i64 0, .int .i64 0, .slice none 0 0]) w := by kernel_rfl
theorem grown_setRow (w : World) (g : Nat) (cs : Array Value) : w.grownBy (w.setRow g cs) (some g) :=
  ⟨rfl, rfl, rfl, by simp, fun k _ hk => setRow_other w g k cs (fun e => hk (by rw [e]))⟩
theorem set4 {w : World} {g : Nat} {t : TypeId} (h : Blk w g Z4 t) (a b c d : Value) : Blk ((((w.setCell ⟨g, 0, none⟩ a).setCell ⟨g, 1, none⟩ b).setCell ⟨g, 2, none⟩ c).setCell ⟨g, 3, none⟩ d) g #[a, b, c, d] t := by
  have := (((h.set 0 a).set 1 b).set 2 c).set 3 d
  simpa [Z4] using this
theorem own_set4 {w : World} {g base n m : Nat} {e : TypeId} {v : Value} {xs : List Value} (h : w.ownsRow base e m v n xs) (a b c d : Value) (hne : v.ownBlock ≠ some g) : ((((w.setCell ⟨g, 0, none⟩ a).setCell ⟨g, 1, none⟩ b).setCell ⟨g, 2, none⟩ c).setCell ⟨g, 3, none⟩ d).ownsRow base e m v n xs :=
  (((h.kept (grown_set _ g 0 a) (.inr hne)).kept (grown_set _ g 1 b) (.inr hne)).kept (grown_set _ g 2 c) (.inr hne)).kept (grown_set _ g 3 d) (.inr hne)
theorem below_set4 {w0 w : World} {g B : Nat} (h : Below B w0 w) (a b c d : Value) (hg : B ≤ g) : Below B w0 ((((w.setCell ⟨g, 0, none⟩ a).setCell ⟨g, 1, none⟩ b).setCell ⟨g, 2, none⟩ c).setCell ⟨g, 3, none⟩ d) :=
  (((h.setCell hg a).setCell hg b).setCell hg c).setCell hg d
theorem conv_nil (w : World) : (convert 46 9 (.slice none 0 0)).run Tryz.prog w = .ok (.string (strOfNums [])) w := by kernel_rfl
theorem conv_src (ao : Option Addr) (n c : Nat) (l : List Int) (w : World) (hl : l.length = n) (hc0 : ao = none → c = 0) (hs : SrcAt w ao l) : (convert 46 9 (.slice ao n c)).run Tryz.prog w = .ok (.string (strOfNums l)) w := by
  rcases hs with ⟨rfl, rfl⟩ | ⟨b, o, rfl, _, h⟩
  · obtain rfl := hc0 rfl
    obtain rfl : n = 0 := hl.symm
    exact conv_nil w
  · exact conv_str b o n c l w hl (fun j hj => h j (by omega))
end Go.Proofs.YtandblanpafjoaaGreatDoor

namespace Go.Proofs.YtandblanpafjoaaGreatDoor
open Go.RowKit
def InB (l : List Int) : Prop := ∀ x ∈ l, 0 ≤ x ∧ x ≤ 255
theorem InB.get {l : List Int} (h : InB l) (j : Nat) : 0 ≤ l.getD j 0 ∧ l.getD j 0 ≤ 255 := by
  rw [List.getD_eq_getElem?_getD]
  by_cases hj : j < l.length
  · rw [List.getElem?_eq_getElem hj]; exact h _ (List.getElem_mem hj)
  · rw [List.getElem?_eq_none (by omega)]; exact ⟨by decide, by decide⟩
theorem InB.bytes (s : ByteArray) : InB (bytesOf s) := by
  intro x hx
  simp only [bytesOf, List.mem_map] at hx
  obtain ⟨b, _, rfl⟩ := hx
  have := UInt8.toNat_lt b
  omega
theorem InB.app {a b : List Int} (ha : InB a) (hb : InB b) : InB (a ++ b) := by
  intro x hx
  rcases List.mem_append.1 hx with h | h
  · exact ha x h
  · exact hb x h
theorem InB.take {a : List Int} (ha : InB a) (n : Nat) : InB (a.take n) := fun x hx => ha x (List.mem_of_mem_take hx)
theorem InB.set {a : List Int} (ha : InB a) (n : Nat) (v : Int) (hv : 0 ≤ v ∧ v ≤ 255) : InB (a.set n v) := by
  intro x hx
  rcases List.mem_or_eq_of_mem_set hx with h | h
  · exact ha x h
  · rw [h]; exact hv
theorem InB.pack {f st ak : Int} {l : List Int} (h : GoodP f st ak l.length) (hl : InB l) : InB (packL f st ak l) := by
  obtain ⟨⟨h1, h2⟩, ⟨h3, h4⟩, ⟨h5, h6⟩, h7⟩ := h
  refine InB.app (InB.app ?_ hl) ?_
  · intro x hx
    simp only [List.mem_cons, List.not_mem_nil, or_false] at hx
    rcases hx with rfl | rfl | rfl | rfl | rfl | rfl | rfl <;> omega
  · intro x hx
    simp only [List.mem_cons, List.not_mem_nil, or_false] at hx
    rw [hx]
    exact xorL_range _
theorem pack_len7 (f st ak : Int) (l : List Int) : (packL f st ak l).take (7 + l.length) = headL f st ak l := by
  unfold packL
  rw [← headL_len f st ak l, List.take_left']
  rfl
theorem pack_last (f st ak : Int) (l : List Int) : (packL f st ak l).getD (7 + l.length) 0 = xorL (headL f st ak l) := by
  unfold packL
  rw [← headL_len f st ak l]
  simp
theorem pack_six (f st ak : Int) (l : List Int) : (packL f st ak l).getD 6 0 = (l.length : Int) := by simp [packL, headL]
theorem pack_ok {f st ak : Int} {l : List Int} (h : GoodP f st ak l.length) : OkP (packL f st ak l) ∧ fromL (packL f st ak l) = f ∧ startL (packL f st ak l) = st ∧ ackL (packL f st ak l) = ak ∧ inputsL (packL f st ak l) = l := by
  have e1 : fromL (packL f st ak l) = f := by simp [fromL, packL, headL]
  have e2 : startL (packL f st ak l) = st := by simp [startL, numL, packL, headL]; omega
  have e3 : ackL (packL f st ak l) = ak := by simp [ackL, numL, packL, headL]; omega
  have e4 : inputsL (packL f st ak l) = l := by
    unfold inputsL
    rw [packL_len]
    simp [packL, headL]
  refine ⟨⟨⟨?_, ?_, ?_, ?_⟩, ?_⟩, e1, e2, e3, e4⟩
  · rw [packL_len]; omega
  · rw [packL_len, pack_six]; omega
  · simp [packL, headL]
  · rw [packL_len, show 8 + l.length - 1 = 7 + l.length by omega, pack_last, pack_len7]
  · rw [e1, e2, e3, packL_len, show 8 + l.length - 8 = l.length by omega]; exact h
end Go.Proofs.YtandblanpafjoaaGreatDoor

namespace Go.Proofs.YtandblanpafjoaaGreatDoor
open Go.RowKit
structure PeerM where
  known : Nat → List Int
  frame : Nat
  acked : Nat → Nat
  dropped : Nat
structure FlyM where
  to : Nat
  due : Nat
  num : Nat
  bytes : List Int
structure NetM where
  players : Nat
  window : Nat
  delay : Nat
  lags : List Int
  peers : Nat → PeerM
  flights : List FlyM
  now : Nat
  sent : Nat
def newM (players window delay : Nat) (lags : List Int) : NetM :=
  { players := players, window := window, delay := delay, lags := lags, peers := fun _ => { known := fun _ => List.replicate delay 0, frame := 0, acked := fun _ => delay, dropped := 0 }, flights := [], now := 0, sent := 0 }
def confTo (x : PeerM) : Nat → Nat
  | 0 => x.frame
  | q + 1 => min (confTo x q) (x.known q).length
def inputM (x : PeerM) (q f : Nat) : Int :=
  if f < (x.known q).length then (x.known q).getD f 0 else (x.known q).getD ((x.known q).length - 1) 0
def insM (x : PeerM) (players f : Nat) : List Int := (List.range players).map fun q => inputM x q f
def framesM (x : PeerM) (players f : Nat) : List (List Int) := (List.range f).map fun k => insM x players k
def NetM.conf (n : NetM) (p : Nat) : Nat := confTo (n.peers p) n.players
def NetM.lag (n : NetM) : Int := if n.lags = [] then 1 else n.lags.getD (n.sent % n.lags.length) 0
def packM (x : PeerM) (p q : Nat) : List Int := packL (p : Int) (x.acked q : Int) ((x.known q).length : Int) (((x.known p).drop (x.acked q)).take 64)
def NetM.send (n : NetM) (p q : Nat) : NetM :=
  { n with flights := if 0 ≤ n.lag then n.flights ++ [{ to := q, due := n.now + n.lag.toNat, num := n.sent, bytes := packM (n.peers p) p q }] else n.flights, sent := n.sent + 1 }
def sendTo (n : NetM) (p : Nat) : Nat → NetM
  | 0 => n
  | q + 1 => if q = p then sendTo n p q else (sendTo n p q).send p q
def NetM.put (n : NetM) (p : Nat) (x : PeerM) : NetM := { n with peers := fun i => if i = p then x else n.peers i }
def PeerM.learn (x : PeerM) (q : Nat) (l : List Int) : PeerM := { x with known := fun i => if i = q then l else x.known i }
def NetM.stepped (n : NetM) (p : Nat) (v : Int) : NetM := n.put p { (n.peers p).learn p ((n.peers p).known p ++ [v]) with frame := (n.peers p).frame + 1 }
/-- The kind (0: none) and the net. -/
def NetM.advance (n : NetM) (p : Nat) (v : Int) : Nat × NetM :=
  if (n.peers p).frame = 200 then (3, n)
  else if n.window ≤ (n.peers p).frame - n.conf p then (4, n)
  else (0, sendTo (n.stepped p v) p n.players)
/-- What is known behind a packet's inputs: those that follow on what was known. -/
def learnt (l : List Int) (start : Nat) (ins : List Int) : List Int := l ++ ins.drop (l.length - start)
def NetM.takes (n : NetM) (p : Nat) (b : List Int) : Prop :=
  OkP b ∧ fromL b ≠ (p : Int) ∧ fromL b < (n.players : Int) ∧ startL b ≤ (((n.peers p).known (fromL b).toNat).length : Int) ∧ startL b + ((inputsL b).length : Int) ≤ 200 + (n.delay : Int) ∧ ackL b ≤ (((n.peers p).known p).length : Int)
instance (n : NetM) (p : Nat) (b : List Int) : Decidable (n.takes p b) := by unfold NetM.takes; infer_instance
def taken (x : PeerM) (q start ack : Nat) (ins : List Int) : PeerM :=
  { x.learn q (learnt (x.known q) start ins) with acked := fun i => if i = q then max (x.acked q) ack else x.acked i }
def NetM.take (n : NetM) (p : Nat) (b : List Int) : Bool × NetM :=
  if n.takes p b then (true, n.put p (taken (n.peers p) (fromL b).toNat (startL b).toNat (ackL b).toNat (inputsL b)))
  else (false, n.put p { n.peers p with dropped := (n.peers p).dropped + 1 })
def before (a b : FlyM) : Prop := a.due < b.due ∨ (a.due = b.due ∧ a.num < b.num)
instance (a b : FlyM) : Decidable (before a b) := by unfold before; infer_instance
/-- The place of the packet that comes first. -/
def firstTo (l : List FlyM) (d : FlyM) : Nat → Nat
  | 0 => 0
  | i + 1 => if before (l.getD i d) (l.getD (firstTo l d i) d) then i else firstTo l d i
def fly0 : FlyM := { to := 0, due := 0, num := 0, bytes := [] }
def firstM (l : List FlyM) : Nat := firstTo l fly0 l.length
/-- Packets that are due come. -/
def comeM : Nat → NetM → NetM
  | 0, n => n
  | k + 1, n =>
    if n.flights = [] then n
    else if n.now < (n.flights.getD (firstM n.flights) fly0).due then n
    else comeM k (({ n with flights := n.flights.eraseIdx (firstM n.flights) }).take (n.flights.getD (firstM n.flights) fly0).to (n.flights.getD (firstM n.flights) fly0).bytes).2
def againTo (n : NetM) (p : Nat) : Nat → NetM
  | 0 => n
  | q + 1 => if q ≠ p ∧ ((againTo n p q).peers p).acked q < (((againTo n p q).peers p).known p).length then (againTo n p q).send p q else againTo n p q
def againAll (n : NetM) : Nat → NetM
  | 0 => n
  | p + 1 => againTo (againAll n p) p n.players
def NetM.tick (n : NetM) : NetM :=
  let m := comeM n.flights.length { n with now := n.now + 1 }
  againAll m m.players
end Go.Proofs.YtandblanpafjoaaGreatDoor

