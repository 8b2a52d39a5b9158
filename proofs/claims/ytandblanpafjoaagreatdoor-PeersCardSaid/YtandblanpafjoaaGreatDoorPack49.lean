import Derived.Test.YtandblanpafjoaaGreatDoorPack48
import Derived.Test.YtandblanpafjoaaGreatDoorPack17
import Derived.Deep.Slices
import Derived.WideKeyArgs
import Derived.SizedLaws
import Derived.ProofKit
import Derived.OpenShut
import Derived.Carry
namespace Go.Proofs.YtandblanpafjoaaGreatDoor
open Go.RowKit Go.Extern.Stop Go.Stop Go.Extern
theorem LSt.more {w : World} {lo : Nat → LR} {wb i : Nat} (h : LSt w lo wb i) : LSt w lo wb (i + 1) := by
  obtain ⟨nsv, outv, n, ps, outs, hA, hn, ho, hb⟩ := h
  exact ⟨nsv, outv, n, ps, outs, hA, Nat.le_succ_of_le hn, Nat.le_trans ho (Nat.mul_le_mul_right _ (Nat.le_succ _)), fun j hj => by obtain ⟨pl, hpl, hB⟩ := hb j hj; exact ⟨pl, hpl, hB.mono (by omega) (by omega) (by omega)⟩⟩
theorem LSt.below {w w' : World} {lo : Nat → LR} {wb i : Nat} (h : LSt w lo wb i) (hb : Below w.heap.size w w') : LSt w' lo wb i := by
  obtain ⟨nsv, outv, n, ps, outs, hA, hn, ho, hbd⟩ := h
  exact ⟨nsv, outv, n, ps, outs, hA.below hb, hn, ho, hbd⟩
theorem lst_new (w : World) (h1 : 1 ≤ w.heap.size) : LSt (w.alloc (.cells #[.slice none 0 0, .slice none 0 0] 30)) (fun k => if k = w.heap.size then .law else .none) w.heap.size 0 := by
  refine ⟨.slice none 0 0, .slice none 0 0, 0, fun _ => ⟨0, 0, fun _ => False, newM 2 1 0 []⟩, [], { lt := fun k hk => ?_, pos := fun k hk => ?_, blk := Blk.new _ _ _, rb := if_pos rfl, ns := by simpa [pairsC] using World.ownsRow_nil _ _ _ _, rn := fun k hk => by simp [Value.ownBlock] at hk, out := World.ownsRow_nil _ _ _ _, ro := fun k hk => by simp [Value.ownBlock] at hk, byt := fun v hv => by simp at hv, pairs := fun i hi => by omega, rp := fun i k hi => by omega }, Nat.le_refl _, by simp, fun j hj => by omega⟩
  · by_cases e : k = w.heap.size
    · simp; omega
    · rw [if_neg e] at hk; exact absurd rfl hk
  · by_cases e : k = w.heap.size
    · omega
    · rw [if_neg e] at hk; exact absurd rfl hk
theorem Tryz.zeroLaw (w : World) : (zeroValue 30).run Tryz.prog w = .ok (.agg #[.slice none 0 0, .slice none 0 0]) w := by kernel_rfl
theorem LagSrc.chg {F : Nat → Prop} {w w' : World} {lv : Value} {lags : List Int} (h : LagSrc w lv lags) (hc : Chg F w w') (hF : ∀ k, k < w.heap.size → ¬ F k ∨ lv.ownBlock ≠ some k) : LagSrc w' lv lags := by
  rcases h with h | ⟨b, c, e, h0, hl, hr⟩
  · exact .inl h
  · refine .inr ⟨b, c, e, h0, Nat.lt_of_lt_of_le hl hc.size, fun j hj => ?_⟩
    rw [← hr j hj]
    exact World.cell?_of_block (a := ⟨b, j, none⟩) (hc.block b hl (fun hFb => (hF b hl).elim (fun k => k hFb) (fun k => k (by rw [e]; rfl))))
set_option maxRecDepth 10000 in
set_option maxHeartbeats 8000000 in
theorem lplays_any (ao : Option Addr) (N cap : Nat) (os : Nat → OpL) (lv : Value) (wl : List Int) (w : World) (hgL : Laid w) (h : Scr w ao N os) (hw : LagSrc w lv wl) (hwl : wl.length ≤ 1000) (hN : N ≤ 1000000000000000000) (hs : ∀ i, i < N → (os i).s.size ≤ 1000000000000000000) (hr : ∀ i, i < N → i64r (os i).a ∧ i64r (os i).c ∧ i64r (os i).d) :
    Calls Tryz.prog 8 #[.slice ao N cap, lv] w fun e w' => e = .returned (.bool true) ∧ Below w.heap.size w w' := by
  obtain ⟨la, lc, hlv⟩ := lag_len hw
  subst hlv
  have hsm := lsmall_any ao N cap os w h hN hs
  have hpos := hgL.lt
  have HC := hide (And.intro h (And.intro hw hr))
  have hzl := Tryz.zeroLaw
  clear h hw hr hs
  go_enter Tryz.func8, Tryz.ntmps8
  go_wp2_with fail
  refine hsm.mono ?_
  clear hsm
  rintro e w1 ⟨rfl, b, rfl, hb⟩
  obtain ⟨w0, hw0⟩ : ∃ x, x = w1 := ⟨_, rfl⟩
  subst hw0
  rcases Bool.eq_false_or_eq_true b with hbt | hbt
  · subst hbt
    obtain ⟨hN6, hsz⟩ := hb rfl
    have HSZ := hide hsz
    have hlw : IntKind.i64.wrap (N : Int) = (N : Int) := i64_id _ (by omega) (by omega)
    have hlw2 : IntKind.i64.wrap (wl.length : Int) = (wl.length : Int) := i64_id _ (by omega) (by omega)
    have hst := lst_new w0 hpos
    have bW : Below w0.heap.size w0 (w0.alloc (.cells #[.slice none 0 0, .slice none 0 0] 30)) := (Below.refl _ w0).alloc (Nat.le_refl _) _
    have HW := hide (And.intro hst bW)
    clear hb hsz hst bW
    go_wp2_with fail
    generalize w0.alloc (.cells #[.slice none 0 0, .slice none 0 0] 30) = W at *
    go_loopw [7] (fun s7 wr => ∃ (i : Nat) (lo : Nat → LR), i ≤ N ∧ s7 = .int .i64 (i : Int) ∧ LSt wr lo w0.heap.size i ∧ LTo W (fun k => if k = w0.heap.size then .law else .none) wr lo) (fun s7 _ => N - (intOf s7).toNat)
    case atStart => exact ⟨0, _, by omega, rfl, (unhide HW).1, LTo.refl _ _⟩
    case round =>
      obtain ⟨V, hV⟩ : ∃ x, x = wr := ⟨_, rfl⟩
      subst hV
      obtain ⟨i, lo, hi, rfl, hS, hT⟩ := hrel
      have bW := (unhide HW).2
      have bV : Below w0.heap.size w0 V := bW.trans (hT.chg.toBelow bW.size (fun k hk => by
        by_cases e : k = w0.heap.size
        · omega
        · rw [if_neg e] at hk; exact absurd rfl hk))
      have hscr := (unhide HC).1.below bV
      have hlag := (unhide HC).2.1.below bV
      have hgV := hgL.below hgL.lt bV
      by_cases hlt : i < N
      · have hdl : decide ((i : Int) < (N : Int)) = true := decide_eq_true (by omega)
        have hdl' : decide (i < N) = true := decide_eq_true hlt
        have hadd := i64_id ((i : Int) + 1) (by omega) (by omega)
        have i0 : (0 : Int) ≤ (i : Int) := by omega
        have i1 : (i : Int) < (N : Int) := by omega
        obtain ⟨sb, o, e, hsb, hrg⟩ := hscr (by omega)
        subst e
        have c0 : V.cell? ⟨sb, o + i * 6, none⟩ = some (.int .i64 (os i).k) := hrg i hlt 0 _ rfl
        obtain ⟨x, hx⟩ : ∃ x, os i = x := ⟨_, rfl⟩
        rw [hx] at c0
        have hxs := unhide HSZ i hlt
        have hxr := (unhide HC).2.2 i hlt
        rw [hx] at hxs hxr
        have hrx := hrg i hlt
        rw [hx] at hrx
        have HV := hide (And.intro hS (And.intro hT (And.intro hlag (And.intro hgV (And.intro hrx hxr)))))
        clear hS hT bW bV hscr hlag hgV hrg hrx hxr hx
        go_wp2_with fail
        go_loopw [8, 9] (fun s8 s9 wi => ∃ (j : Nat) (b : Bool), j ≤ wl.length ∧ s8 = .bool b ∧ s9 = .int .i64 (j : Int) ∧ Below V.heap.size V wi) (fun _ s9 _ => wl.length - (intOf s9).toNat)
        case atStart => exact ⟨0, true, by omega, rfl, rfl, Below.refl _ _⟩
        case round =>
          obtain ⟨U, hU⟩ : ∃ x, x = wr := ⟨_, rfl⟩
          subst hU
          obtain ⟨j, b, hj, rfl, rfl, hbU⟩ := hrel
          by_cases hjl : j < wl.length
          · have hdj : decide ((j : Int) < (wl.length : Int)) = true := decide_eq_true (by omega)
            have hdj' : decide (j < wl.length) = true := decide_eq_true hjl
            have haj := i64_id ((j : Int) + 1) (by omega) (by omega)
            have j0 : (0 : Int) ≤ (j : Int) := by omega
            have j1 : (j : Int) < (wl.length : Int) := by omega
            obtain ⟨lb, hla, cj⟩ : ∃ lb, la = some ⟨lb, 0, none⟩ ∧ U.cell? ⟨lb, j, none⟩ = some (.int .i64 (wl.getD j 0)) := by
              rcases unhide HV |>.2.2.1.below hbU with ⟨_, e2⟩ | ⟨lb, c', e, _, _, hc⟩
              · rw [e2] at hjl; simp at hjl
              · injection e with e1 _ _
                exact ⟨lb, e1, hc j hjl⟩
            subst hla
            have cU : U.cell? ⟨sb, o + i * 6, none⟩ = some (.int .i64 x.k) := (hbU.cell (p := ⟨sb, o + i * 6, none⟩) hsb).trans c0
            have HBU := hide hbU
            clear hbU
            obtain ⟨y, hy⟩ : ∃ y, wl.getD j 0 = y := ⟨_, rfl⟩
            rw [hy] at cj
            clear hy
            rcases Bool.eq_false_or_eq_true b with hbb | hbb
            · subst hbb
              by_cases hky : x.k = y
              · have hne : (x.k != y) = false := by simp [hky]
                have hne' : (x.k = y) = True := by simp [hky]
                clear hky
                go_upto_region 12 with fail
                go_quiet (fail)
                go_wp2_with fail
                go_roundw
                case rel => exact ⟨j + 1, _, by omega, rfl, by go_num, (unhide HBU).trans ⟨rfl, rfl, rfl, Nat.le_refl _, fun _ _ => rfl⟩⟩
                case measure => simp [intOf]; omega
              · have hne : (x.k != y) = true := by simp [hky]
                have hne' : (x.k = y) = False := by simp [hky]
                clear hky
                go_upto_region 12 with fail
                go_quiet (fail)
                go_wp2_with fail
                go_roundw
                case rel => exact ⟨j + 1, _, by omega, rfl, by go_num, (unhide HBU).trans ⟨rfl, rfl, rfl, Nat.le_refl _, fun _ _ => rfl⟩⟩
                case measure => simp [intOf]; omega
            · subst hbb
              go_upto_region 12 with fail
              go_quiet (fail)
              go_wp2_with fail
              go_roundw
              case rel => exact ⟨j + 1, _, by omega, rfl, by go_num, (unhide HBU).trans ⟨rfl, rfl, rfl, Nat.le_refl _, fun _ _ => rfl⟩⟩
              case measure => simp [intOf]; omega
          · have hdj : decide ((j : Int) < (wl.length : Int)) = false := decide_eq_false (by omega)
            have hdj' : decide (j < wl.length) = false := decide_eq_false hjl
            rcases Bool.eq_false_or_eq_true b with hbb | hbb
            · subst hbb
              have hSU := (unhide HV).1.below hbU
              have hgU := (unhide HV).2.2.2.1.below (unhide HV).2.2.2.1.lt hbU
              have hrU : U.rangeAt sb (o + i * 6) (opC x) := fun q v hv => (hbU.cell (p := ⟨sb, o + i * 6 + q, none⟩) hsb).trans ((unhide HV).2.2.2.2.1 q v hv)
              have hcall := lstep_any w0.heap.size i lo x.k x.a x.b x.c x.d x.s U hgU hSU (by omega) hxs (unhide HV).2.2.2.2.2.1 (unhide HV).2.2.2.2.2.2.1 (unhide HV).2.2.2.2.2.2.2
              have HBU := hide hbU
              unfold opC at hrU
              clear hbU hSU hgU
              go_wp2_with (refine wpList_load_mid rfl 32 _ rfl sb (o + i * 6) rfl _ _ hrU Tryz.underlying32 rfl Tryz.sizeOp ?_)
              refine hcall.mono ?_
              clear hcall
              rintro e w5 ⟨rfl, lo5, hS5, hT5⟩
              have hlk : Calls Tryz.prog 11 #[.pointer (some ⟨w0.heap.size, 0, none⟩)] w5 fun e w' => e = .returned (.bool true) ∧ w' = w5 := by
                obtain ⟨nsv, outv, n, ps, outs, hA, hn, ho, hbd⟩ := hS5
                exact llooks_any w0.heap.size n nsv outv lo5 ps outs w5 hA (Nat.le_trans ho (Nat.le_trans (Nat.mul_le_mul_right _ (show i + 1 ≤ 65537 by omega)) (by decide)))
              have H5 := hide (And.intro hS5 hT5)
              clear hS5 hT5 hrU
              go_wp2_with fail
              refine hlk.mono ?_
              clear hlk
              rintro e w6 ⟨rfl, rfl⟩
              go_wp2_with fail
              go_roundw
              case rel =>
                obtain ⟨hS5, hT5⟩ := unhide H5
                exact ⟨i + 1, lo5, by omega, by go_num, hS5, ((unhide HV).2.1.trans (LTo.ofBelow (unhide HBU))).trans hT5⟩
              case measure => simp [intOf]; omega
            · subst hbb
              have HBU := hide hbU
              clear hbU
              go_wp2_with fail
              go_roundw
              case rel => exact ⟨i + 1, lo, by omega, by go_num, ((unhide HV).1.below (unhide HBU)).more, (unhide HV).2.1.trans (LTo.ofBelow (unhide HBU))⟩
              case measure => simp [intOf]; omega
      · have hdl : decide ((i : Int) < (N : Int)) = false := decide_eq_false (by omega)
        have hdl' : decide (i < N) = false := decide_eq_false hlt
        have HBV := hide bV
        clear hS hT bW bV hscr hlag hgV
        go_wp2
        go_ret
        exact ⟨rfl, unhide HBV⟩
  · subst hbt
    go_wp2
    go_ret
    exact ⟨rfl, Below.refl _ _⟩
end Go.Proofs.YtandblanpafjoaaGreatDoor

namespace Go.Proofs.YtandblanpafjoaaGreatDoor
open Go.RowKit Go.Extern.Stop Go.Stop Go.Extern
theorem src_new (w : World) (l : List Int) (h : l ≠ []) : LagSrc (w.alloc (.cells (nums .i64 l) 3)) (.slice (some ⟨w.heap.size, 0, none⟩) l.length l.length) l :=
  .inr ⟨w.heap.size, l.length, rfl, List.length_pos_iff.2 h, by simp, fun j hj => (Blk.new w (nums .i64 l) 3).num j hj⟩
theorem below_new (w : World) (l : List Int) : Below w.heap.size w (w.alloc (.cells (nums .i64 l) 3)) := (Below.refl _ w).alloc (Nat.le_refl _) _
structure ScrIn (w : World) (ao : Option Addr) (N : Nat) (os : Nat → OpL) : Prop where
  scr : Scr w ao N os
  len : N ≤ 1000000000000000000
  str : ∀ i, i < N → (os i).s.size ≤ 1000000000000000000
  rng : ∀ i, i < N → i64r (os i).a ∧ i64r (os i).c ∧ i64r (os i).d
theorem lplays_new (ao : Option Addr) (N cap : Nat) (os : Nat → OpL) (l : List Int) (w : World) (hgL : Laid w) (h : ScrIn w ao N os) (hl : l ≠ []) (hl2 : l.length ≤ 1000) :
    Calls Tryz.prog 8 #[.slice ao N cap, .slice (some ⟨w.heap.size, 0, none⟩) l.length l.length] (w.alloc (.cells (nums .i64 l) 3)) fun e w' => e = .returned (.bool true) ∧ Below w.heap.size w w' :=
  (lplays_any ao N cap os _ l _ (hgL.below hgL.lt (below_new w l)) (h.scr.below (below_new w l)) (src_new w l hl) hl2 h.len h.str h.rng).mono fun _ _ ⟨e, hb⟩ => ⟨e, (below_new w l).trans (hb.mono (below_new w l).size)⟩
set_option maxHeartbeats 400000 in
theorem peers_any (ao : Option Addr) (N cap : Nat) (os : Nat → OpL) (w : World) (hgL : Laid w) (h : ScrIn w ao N os) :
    Calls Tryz.prog 3 #[.slice ao N cap] w fun e w' => e = .returned (.bool true) ∧ Below w.heap.size w w' := by
  have hcall := lplays_new ao N cap os [4, 5, 6, 8, 9] w hgL h (by simp) (by simp)
  clear h hgL
  go_enter Tryz.func3, Tryz.ntmps3
  go_wp2_with fail
  refine hcall.mono ?_
  rintro e w2 ⟨rfl, hb2⟩
  go_wp2
  go_ret
  exact ⟨rfl, hb2⟩
set_option maxHeartbeats 400000 in
theorem flying_any (ao : Option Addr) (N cap : Nat) (os : Nat → OpL) (w : World) (hgL : Laid w) (h : ScrIn w ao N os) :
    Calls Tryz.prog 4 #[.slice ao N cap] w fun e w' => e = .returned (.bool true) ∧ Below w.heap.size w w' := by
  have hcall := lplays_new ao N cap os [4, 5, 6, 8, 7] w hgL h (by simp) (by simp)
  clear h hgL
  go_enter Tryz.func4, Tryz.ntmps4
  go_wp2_with fail
  refine hcall.mono ?_
  rintro e w2 ⟨rfl, hb2⟩
  go_wp2
  go_ret
  exact ⟨rfl, hb2⟩
set_option maxHeartbeats 400000 in
theorem states_any (ao : Option Addr) (N cap : Nat) (os : Nat → OpL) (w : World) (hgL : Laid w) (h : ScrIn w ao N os) :
    Calls Tryz.prog 5 #[.slice ao N cap] w fun e w' => e = .returned (.bool true) ∧ Below w.heap.size w w' := by
  have hcall := lplays_new ao N cap os [4, 5, 7, 9] w hgL h (by simp) (by simp)
  clear h hgL
  go_enter Tryz.func5, Tryz.ntmps5
  go_wp2_with fail
  refine hcall.mono ?_
  rintro e w2 ⟨rfl, hb2⟩
  go_wp2
  go_ret
  exact ⟨rfl, hb2⟩
set_option maxHeartbeats 400000 in
theorem handed_any (ao : Option Addr) (N cap : Nat) (os : Nat → OpL) (w : World) (hgL : Laid w) (h : ScrIn w ao N os) :
    Calls Tryz.prog 6 #[.slice ao N cap] w fun e w' => e = .returned (.bool true) ∧ Below w.heap.size w w' := by
  have hcall := lplays_new ao N cap os [9, 8] w hgL h (by simp) (by simp)
  clear h hgL
  go_enter Tryz.func6, Tryz.ntmps6
  go_wp2_with fail
  refine hcall.mono ?_
  rintro e w2 ⟨rfl, hb2⟩
  go_wp2
  go_ret
  exact ⟨rfl, hb2⟩
set_option maxHeartbeats 400000 in
theorem all_any (ao : Option Addr) (N cap : Nat) (os : Nat → OpL) (w : World) (hgL : Laid w) (h : ScrIn w ao N os) :
    Calls Tryz.prog 7 #[.slice ao N cap] w fun e w' => e = .returned (.bool true) ∧ Below w.heap.size w w' := by
  have hcall := lplays_any ao N cap os (.slice none 0 0) [] w hgL h.scr (.inl ⟨rfl, rfl⟩) (by simp) h.len h.str h.rng
  clear h hgL
  go_enter Tryz.func7, Tryz.ntmps7
  go_wp2_with fail
  refine hcall.mono ?_
  rintro e w2 ⟨rfl, hb2⟩
  go_wp2
  go_ret
  exact ⟨rfl, hb2⟩
end Go.Proofs.YtandblanpafjoaaGreatDoor

namespace Go.Proofs.YtandblanpafjoaaGreatDoor
open Go.ChangeShapes Go.WideShapes Go.RowKit Go.Deep
theorem Tryz.laidOutS : laidOutB Tryz.prog = true := by kernel_rfl
theorem Tryz.cellsOp : Tryz.prog.cellsOf 32 = 6 := by kernel_rfl
theorem Tryz.cellsI : Tryz.prog.cellsOf 3 = 1 := by kernel_rfl
theorem Tryz.cellsS : Tryz.prog.cellsOf 9 = 1 := by kernel_rfl
theorem Tryz.bytesOp : Tryz.prog.bytesOf 32 = 56 := by kernel_rfl
section
variable {H : Type} {enc : TypeId × Value → H} {w : World} {base : Nat} {sp : Nat → Bool} {held : Bool}
theorem mem_weightsAll {P : Program} {e : TypeId} : ∀ {l : List (DataW H)} {d : DataW H}, d ∈ l → ∀ n ∈ d.weights P e, n ∈ DataW.weightsAll P e l
  | d0 :: l, d, hd, n, hn => by
    simp only [DataW.weightsAll, List.mem_append]
    rcases List.mem_cons.1 hd with e | e
    · subst e; exact Or.inl hn
    · exact Or.inr (mem_weightsAll e n hn)
theorem list6 {α : Type} {l : List α} (h : l.length = 6) : ∃ a b c d e f, l = [a, b, c, d, e, f] := by
  match l, h with
  | [a, b, c, d, e, f], _ => exact ⟨a, b, c, d, e, f, rfl⟩
set_option maxRecDepth 100000 in
theorem open_op {fuel : Nat} {cs : List Value} {x : DataW H × List MemPlace} (h : DataW.trod enc Tryz.prog w base sp held fuel 32 cs = some x) : ∃ y : OpL, cs = opC y ∧ i64r y.a ∧ i64r y.c ∧ i64r y.d ∧ y.s.data.toList.length ∈ x.1.weights Tryz.prog 32 := by
  obtain ⟨xs, n, _, hx, hlen, hxl, hf⟩ := DataW.trod_struct Tryz.underlying32 h
  rw [Tryz.cellsOp] at hlen
  obtain ⟨c0, c1, c2, c3, c4, c5, rfl⟩ := list6 hlen
  obtain ⟨x0, x1, x2, x3, x4, x5, rfl⟩ := list6 (show xs.length = 6 from hxl)
  have g0 : DataW.trod enc Tryz.prog w base sp held n 3 (([c0, c1, c2, c3, c4, c5].drop 0).take (Tryz.prog.cellsOf 3)) = some x0 := hf 0 _ rfl
  rw [Tryz.cellsI] at g0
  have g1 : DataW.trod enc Tryz.prog w base sp held n 3 (([c0, c1, c2, c3, c4, c5].drop 1).take (Tryz.prog.cellsOf 3)) = some x1 := hf 1 _ rfl
  rw [Tryz.cellsI] at g1
  have g2 : DataW.trod enc Tryz.prog w base sp held n 3 (([c0, c1, c2, c3, c4, c5].drop 2).take (Tryz.prog.cellsOf 3)) = some x2 := hf 2 _ rfl
  rw [Tryz.cellsI] at g2
  have g3 : DataW.trod enc Tryz.prog w base sp held n 3 (([c0, c1, c2, c3, c4, c5].drop 3).take (Tryz.prog.cellsOf 3)) = some x3 := hf 3 _ rfl
  rw [Tryz.cellsI] at g3
  have g4 : DataW.trod enc Tryz.prog w base sp held n 3 (([c0, c1, c2, c3, c4, c5].drop 4).take (Tryz.prog.cellsOf 3)) = some x4 := hf 4 _ rfl
  rw [Tryz.cellsI] at g4
  have g5 : DataW.trod enc Tryz.prog w base sp held n 9 (([c0, c1, c2, c3, c4, c5].drop 5).take (Tryz.prog.cellsOf 9)) = some x5 := hf 5 _ rfl
  rw [Tryz.cellsS] at g5
  clear hf h
  obtain ⟨n0, h0, _, _⟩ := DataW.trod_int Tryz.underlying3 g0
  obtain rfl : c0 = .int .i64 n0 := by simpa using h0
  obtain ⟨n1, h1, _, w1⟩ := DataW.trod_int Tryz.underlying3 g1
  obtain rfl : c1 = .int .i64 n1 := by simpa using h1
  obtain ⟨n2, h2, _, _⟩ := DataW.trod_int Tryz.underlying3 g2
  obtain rfl : c2 = .int .i64 n2 := by simpa using h2
  obtain ⟨n3, h3, _, w3⟩ := DataW.trod_int Tryz.underlying3 g3
  obtain rfl : c3 = .int .i64 n3 := by simpa using h3
  obtain ⟨n4, h4, _, w4⟩ := DataW.trod_int Tryz.underlying3 g4
  obtain rfl : c4 = .int .i64 n4 := by simpa using h4
  obtain ⟨s, h5, e5, _⟩ := DataW.trod_string Tryz.underlying9 g5
  obtain rfl : c5 = .string s := by simpa using h5
  refine ⟨⟨n0, n1, n2, n3, n4, s⟩, rfl, bounds_i64 w1, bounds_i64 w3, bounds_i64 w4, ?_⟩
  rw [hx]
  have hu := Tryz.underlying32
  simp only [DataW.weights, hu]
  refine DataW.weights_mem_each (j := 5) (t := 9) (d := x5.1) rfl rfl _ ?_
  rw [e5]
  simp [DataW.weights]
end
end Go.Proofs.YtandblanpafjoaaGreatDoor

namespace Go.Proofs.YtandblanpafjoaaGreatDoor
open Go.ChangeShapes Go.WideShapes Go.RowKit Go.Deep
section
variable {H : Type} {enc : TypeId × Value → H} {w : World} {held : Bool}
set_option maxRecDepth 100000 in
theorem open_script {fuel N cap : Nat} {ao : Option Addr} {d : DataW H} {ps : List MemPlace} (h : DataW.trod enc Tryz.prog w 0 (fun _ => true) held fuel 22 [.slice ao N cap] = some (d, ps)) (hw : ∀ n ∈ d.weights Tryz.prog 22, n ≤ reachBytes) : ∃ os, ScrIn w ao N os := by
  rcases open_slice Tryz.underlying22 h with ⟨e, _⟩ | ⟨a, len, cap', m, n, D, Pl, e, _, hl, _, hm, hx, hel⟩
  · simp only [List.cons.injEq, Value.slice.injEq, and_true] at e
    obtain ⟨rfl, rfl, rfl⟩ := e
    exact ⟨fun _ => ⟨0, 0, 0, 0, 0, ByteArray.empty⟩, fun h => absurd rfl h, by omega, fun i hi => by omega, fun i hi => by omega⟩
  · simp only [List.cons.injEq, Value.slice.injEq, and_true] at e
    obtain ⟨rfl, rfl, rfl⟩ := e
    simp only [if_true] at hm
    subst hm
    rw [Tryz.cellsOp] at hel
    have hin : Inhabited OpL := ⟨⟨0, 0, 0, 0, 0, ByteArray.empty⟩⟩
    obtain ⟨os, hos⟩ := choose_lt (α := OpL) (p := fun i y => (∀ j v, (opC y)[j]? = some v → w.cell? ((a.add (i * 6)).add j) = some v) ∧ i64r y.a ∧ i64r y.c ∧ i64r y.d ∧ y.s.data.toList.length ∈ (D i).weights Tryz.prog 32) (fun i hi => by
      obtain ⟨cs', h1, h2⟩ := hel i hi
      obtain ⟨y, rfl, r1, r2, r3, r4⟩ := open_op h2
      obtain ⟨_, _, hc⟩ := World.cells?_some h1
      exact ⟨y, fun j v hv => (hc j (by have := (List.getElem?_eq_some_iff.1 hv).1; simpa [opC] using this)).trans hv, r1, r2, r3, r4⟩)
    simp only [Prod.mk.injEq] at hx
    obtain ⟨rfl, _⟩ := hx
    have hu := Tryz.underlying22
    have hlen := hw ((((List.range N).map D).length + ((List.range (m - N)).map fun j => D (N + j)).length) * Tryz.prog.bytesOf 32) (by simp only [DataW.weights, hu]; exact List.mem_cons_self ..)
    rw [Tryz.bytesOp] at hlen
    simp only [List.length_map, List.length_range] at hlen
    have hr : reachBytes = 140737488351232 := by decide
    rw [hr] at hlen
    refine ⟨os, fun hN => ?_, by omega, fun i hi => ?_, fun i hi => ?_⟩
    · obtain ⟨sb, o, spot⟩ := a
      have h0 := (hos 0 (by omega)).1 0 _ rfl
      have hspot : spot = none := by simpa [Addr.add] using World.cell?_spot h0
      subst hspot
      refine ⟨sb, o, rfl, World.block_lt_of_cell? w _ h0, fun i hi j v hv => ?_⟩
      have := (hos i (by omega)).1 j v hv
      rw [Addr.add_mid, Addr.add_mid] at this
      exact this
    · have h1 := (hos i (by omega)).2.2.2.2
      have h2 := hw _ (by
        simp only [DataW.weights, hu]
        exact List.mem_cons_of_mem _ (List.mem_append_left _ (mem_weightsAll (List.mem_map.2 ⟨i, List.mem_range.2 hi, rfl⟩) _ h1)))
      rw [hr] at h2
      have h3 : (os i).s.data.toList.length = (os i).s.size := by rw [Array.length_toList]; rfl
      omega
    · obtain ⟨_, r1, r2, r3, _⟩ := hos i (by omega)
      exact ⟨r1, r2, r3⟩
end
end Go.Proofs.YtandblanpafjoaaGreatDoor

