import Derived.Test.YtandblanpafjoaaDoorRPk
namespace Go.Proofs.YtandblanpafjoaaDoor
open Go.RowKit Go.Extern.Stop Go.Stop Go.Extern

set_option maxRecDepth 100000 in
set_option maxHeartbeats 2000000 in
theorem rpack_yes (f st ak : Int) (ao : Option Addr) (n c : Nat) (l : List Int) (w : World) (h : GoodP f st ak n) (hl : l.length = n) (hc0 : ao = none → c = 0) (hsrc : SrcAt w ao l) :
    Calls Tryd.prog 24 #[.agg #[.int .i64 f, .int .i64 st, .int .i64 ak, .slice ao n c]] w fun e w' => ∃ v, e = .returned (.tuple #[v, .bool true]) ∧ w'.ownsRow w.heap.size 5 1 v (8 + n) ((packL f st ak l).map (Value.int .u8)) ∧ Below w.heap.size w w' := by
  obtain ⟨⟨h1, h2⟩, ⟨h3, h4⟩, ⟨h5, h6⟩, h7⟩ := h
  obtain ⟨i8, hi8, hz8, hs8, hy8⟩ := info_parts Tryd.infoU8
  have d1 : decide (f < 0) = false := by simp; omega
  have d1' : decide (3 < f) = false := by simp; omega
  have d2 : decide (st < 0) = false := by simp; omega
  have d2' : decide (65535 < st) = false := by simp; omega
  have d3 : decide (ak < 0) = false := by simp; omega
  have d3' : decide (65535 < ak) = false := by simp; omega
  have h8 : ¬ (64 : Int) < (n : Int) := by omega
  have HT := hide (And.intro hi8 (And.intro hz8 (And.intro hs8 hy8)))
  have HS := hide hsrc
  have HC := hide hc0
  have HL := hide hl
  have hcf : f % 256 = f := by omega
  have hcn : (n : Int) % 256 = (n : Int) := by omega
  have hs1 : st / 256 % 256 = st / 256 := by omega
  have ha1 : ak / 256 % 256 = ak / 256 := by omega
  clear hi8 hz8 hs8 hy8 hsrc hc0 hl
  go_enter Tryd.func24, Tryd.ntmps24
  go_wp2_with (at_builtin; refine wpList_append_src rfl _ _ 27 rfl w.heap.size 5 i8 (.int .u8 0) Tryd.underlying27 (unhide HT).1 (unhide HT).2.1 (unhide HT).2.2.1 (unhide HT).2.2.2 rfl _ 7 _ rfl (own_lit (w.alloc (.cells #[.int .i64 f, .int .i64 st, .int .i64 ak, .slice ao n c] 46)) _ 7 _ (by simp) (by omega) (by unfold maxLen; omega) rfl) ao n c l rfl (unhide HC) (unhide HL) (((unhide HS).alloc _).alloc _) (by omega) (by simp only [World.size_alloc]; omega) ?_; intro v4 w4 hown4 hgr4 hnil4)
  have HO4 : Hid (w4.ownsRow w.heap.size 5 1 v4 (7 + n) ((headL f st ak l).map (Value.int .u8))) := by
    have e : (headL f st ak l).map (Value.int .u8) = [Value.int .u8 82, .int .u8 f, .int .u8 (st / 256), .int .u8 (st % 256), .int .u8 (ak / 256), .int .u8 (ak % 256), .int .u8 (n : Int)] ++ l.map (Value.int .u8) := by
      simp [headL, unhide HL]
    rw [e]
    exact hide hown4
  obtain ⟨g, cap, rfl, hbg, hgl, hcap⟩ := own_some (unhide HO4) (by omega)
  have HB4 : Hid (Below w.heap.size w w4) := by
    refine hide ((((Below.refl w.heap.size w).alloc (Nat.le_refl _) _).alloc (by simp) _).trans (below_grown hgr4 (by simp; omega) (by simp)))
  clear hown4 hgr4 hnil4
  have hlen := headL_len f st ak l
  go_wp2_with fail
  go_loop [5, 6] (fun v i => ∃ k : Nat, k ≤ 7 + n ∧ i = .int .i64 k ∧ v = .int .u8 (xorL ((headL f st ak l).take k))) (fun _ i => 7 + n - (intOf i).toNat)
  case atStart => exact ⟨0, Nat.zero_le _, rfl, rfl⟩
  case round =>
    obtain ⟨k, hk, rfl, rfl⟩ := hrel
    by_cases hlt : k < 7 + n
    · have hlt2 : (k : Int) < 7 + (n : Int) := by omega
      have hkl : k < (headL f st ak l).length := by rw [hlen, unhide HL]; exact hlt
      have hcell : w4.cell? ⟨g, k, none⟩ = some (.int .u8 (headL f st ak l)[k]) := by
        have := own_num (unhide HO4) (by rw [hlen, unhide HL]) k hlt
        rw [Nat.zero_add, List.getD_eq_getElem?_getD, List.getElem?_eq_getElem hkl] at this
        exact this
      have hs := hide (xorL_snoc (headL f st ak l) k hkl)
      go_wp2_with fail
      go_round
      case rel => exact ⟨k + 1, by omega, by go_num, int_eq (unhide hs).symm⟩
      case measure => simp [intOf]; omega
    · have hlt2 : ¬ (k : Int) < 7 + (n : Int) := by omega
      go_wp2_with (at_builtin; refine wpList_append_src rfl _ _ 27 rfl w.heap.size 5 i8 (.int .u8 0) Tryd.underlying27 (unhide HT).1 (unhide HT).2.1 (unhide HT).2.2.1 (unhide HT).2.2.2 rfl _ (7 + n) _ rfl ((unhide HO4).alloc _) _ 1 1 _ rfl (fun h => by cases h) rfl (src_new1 _ _ _ _ rfl) (by omega) (by have := (unhide HB4).size; first | omega | (simp only [World.size_alloc]; omega)) ?_; intro v6 w6 hown6 hgr6 hnil6)
      go_ret2
      refine ⟨v6, rfl, ?_, ?_⟩
      · rw [show 7 + n + 1 = 8 + n by omega] at hown6
        have e : (headL f st ak l).take k = headL f st ak l := List.take_of_length_le (by rw [hlen, unhide HL]; omega)
        rw [e] at hown6
        simpa [packL] using hown6
      · have hz := (unhide HB4).size
        exact ((unhide HB4).alloc hz _).trans (below_grown hgr6 (by simp; omega) hbg)
end Go.Proofs.YtandblanpafjoaaDoor
