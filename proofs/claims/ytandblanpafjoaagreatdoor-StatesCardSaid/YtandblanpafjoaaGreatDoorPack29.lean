import Derived.Test.YtandblanpafjoaaGreatDoorPack28
import Derived.Test.YtandblanpafjoaaGreatDoorPack24
import Derived.Deep.CutBlock
namespace Go.Proofs.YtandblanpafjoaaGreatDoor
open Go.RowKit Go.Extern.Stop Go.Stop Go.Extern
def LagsOk (lags : List Int) : Prop := lags.length ≤ 8 ∧ ∀ x ∈ lags, -1 ≤ x ∧ x ≤ 20
def CfgOk (n win delay kind : Int) (lags : List Int) : Prop := (2 ≤ n ∧ n ≤ 4) ∧ 1 ≤ win ∧ win ≤ 8 ∧ 0 ≤ delay ∧ delay ≤ 3 ∧ (kind = 0 ∨ kind = 1) ∧ LagsOk lags
set_option maxHeartbeats 400000 in
theorem canPlay_any (n : Int) (w : World) : Calls Tryz.prog 103 #[.int .i64 n] w fun e w' => e = .returned (.bool (decide (2 ≤ n ∧ n ≤ 4))) ∧ w' = w := by
  go_enter Tryz.func103, Tryz.ntmps103
  by_cases h1 : 2 ≤ n
  · have d1 : decide ((2 : Int) ≤ n) = true := by simp; omega
    by_cases h2 : n ≤ 4
    · have d2 : decide (n ≤ 4) = true := by simp; omega
      have e : decide (2 ≤ n ∧ n ≤ 4) = true := by simp; omega
      rw [e]
      clear e
      go_wp2
      go_ret
      exact ⟨rfl, rfl⟩
    · have d2 : decide (n ≤ 4) = false := by simp; omega
      have e : decide (2 ≤ n ∧ n ≤ 4) = false := by simp; omega
      rw [e]
      clear e
      go_wp2
      go_ret
      exact ⟨rfl, rfl⟩
  · have d1 : decide ((2 : Int) ≤ n) = false := by simp; omega
    have e : decide (2 ≤ n ∧ n ≤ 4) = false := by simp; omega
    rw [e]
    clear e
    go_wp2
    go_ret
    exact ⟨rfl, rfl⟩
set_option maxHeartbeats 800000 in
theorem lags_no (lv : Value) (lags : List Int) (w : World) (h : LagSrc w lv lags) (hl : lags.length ≤ 100000) (hr : ¬ LagsOk lags) : Calls Tryz.prog 104 #[lv] w fun e w' => e = .returned (.bool false) ∧ w' = w := by
  rcases h with ⟨rfl, rfl⟩ | ⟨b, c, rfl, h0, _, hc⟩
  · exact absurd ⟨by simp, by simp⟩ hr
  · go_enter Tryz.func104, Tryz.ntmps104
    by_cases h8 : lags.length ≤ 8
    · have hbad : ∃ k, k < lags.length ∧ ¬ (-1 ≤ lags.getD k 0 ∧ lags.getD k 0 ≤ 20) := by
        refine Classical.byContradiction fun hn => hr ⟨h8, fun x hx => ?_⟩
        obtain ⟨k, hk, e⟩ := List.getElem_of_mem hx
        refine Classical.byContradiction fun hx2 => hn ⟨k, hk, ?_⟩
        rw [List.getD_eq_getElem?_getD, List.getElem?_eq_getElem hk]
        simp only [Option.getD_some]
        rw [e]; exact hx2
      have d1 : decide ((8 : Int) < (lags.length : Int)) = false := by simp; omega
      have HB := hide hbad
      have HC := hide hc
      clear hr hc hbad
      go_wp2_with fail
      go_loop [10] (fun i => ∃ k : Nat, k ≤ lags.length ∧ i = .int .i64 (k : Int) ∧ ∀ j, j < k → -1 ≤ lags.getD j 0 ∧ lags.getD j 0 ≤ 20) (fun i => lags.length - (intOf i).toNat)
      case atStart => exact ⟨0, by omega, rfl, fun j hj => by omega⟩
      case round =>
        obtain ⟨k, hk, rfl, hg⟩ := hrel
        have HG := hide hg
        clear hg
        by_cases hlt : k < lags.length
        · have hd : decide (k < lags.length) = true := by simp; omega
          have ck := unhide HC k hlt
          have k0 : (0 : Int) ≤ (k : Int) := by omega
          have k1 : (k : Int) < (lags.length : Int) := by omega
          have hadd := i64_id ((k : Int) + 1) (by omega) (by omega)
          obtain ⟨x, hx⟩ : ∃ x, lags.getD k 0 = x := ⟨_, rfl⟩
          rw [hx] at ck
          by_cases h1 : x < -1
          · have e1 : decide (x < -1) = true := by simp; omega
            clear hx
            go_wp2
            go_ret
            exact ⟨rfl, rfl⟩
          · have e1 : decide (x < -1) = false := by simp; omega
            by_cases h2 : 20 < x
            · have e2 : decide (20 < x) = true := by simp; omega
              clear hx
              go_wp2
              go_ret
              exact ⟨rfl, rfl⟩
            · have e2 : decide (20 < x) = false := by simp; omega
              have HX := hide hx
              clear hx
              go_wp2
              refine ⟨⟨k + 1, by omega, by go_num, fun j hj => ?_⟩, by simp [intOf]; omega⟩
              by_cases e : j = k
              · rw [e, unhide HX]; omega
              · exact unhide HG j (by omega)
        · obtain ⟨j, hj, hb⟩ := unhide HB
          exact absurd (unhide HG j (by omega)) hb
    · have d1 : decide ((8 : Int) < (lags.length : Int)) = true := by simp; omega
      clear hr hc
      go_wp2
      go_ret
      exact ⟨rfl, rfl⟩
set_option maxRecDepth 10000 in
set_option maxHeartbeats 1600000 in
theorem possible_no (n win delay kind : Int) (lv : Value) (lags : List Int) (w : World) (h : LagSrc w lv lags) (hl : lags.length ≤ 100000) (hno : ¬ CfgOk n win delay kind lags) :
    Calls Tryz.prog 78 #[.agg #[.int .i64 n, .int .i64 win, .int .i64 delay, .int .i64 kind, lv]] w fun e w' => e = .returned (.bool false) ∧ Below w.heap.size w w' := by
  have bB : Below w.heap.size w (w.alloc (.cells #[.int .i64 n, .int .i64 win, .int .i64 delay, .int .i64 kind, lv] 50)) := (Below.refl _ w).alloc (Nat.le_refl _) _
  have xB : Blk (w.alloc (.cells #[.int .i64 n, .int .i64 win, .int .i64 delay, .int .i64 kind, lv] 50)) w.heap.size #[.int .i64 n, .int .i64 win, .int .i64 delay, .int .i64 kind, lv] 50 := Blk.new _ _ _
  have HNO := hide hno
  clear hno
  go_enter Tryz.func78, Tryz.ntmps78
  go_wp2_with fail
  refine (canPlay_any n _).mono ?_
  rintro e w1 ⟨rfl, rfl⟩
  generalize w.alloc (.cells #[.int .i64 n, .int .i64 win, .int .i64 delay, .int .i64 kind, lv] 50) = W1 at *
  have m1 : W1.cell? ⟨w.heap.size, 1, none⟩ = some (.int .i64 win) := xB.cell 1
  have m2 : W1.cell? ⟨w.heap.size, 2, none⟩ = some (.int .i64 delay) := xB.cell 2
  have m3 : W1.cell? ⟨w.heap.size, 3, none⟩ = some (.int .i64 kind) := xB.cell 3
  have m4 : W1.cell? ⟨w.heap.size, 4, none⟩ = some lv := xB.cell 4
  have HX := hide (And.intro bB (h.below bB))
  clear bB xB h
  by_cases h0 : 2 ≤ n ∧ n ≤ 4
  · rw [decide_eq_true h0]
    by_cases h1 : 1 ≤ win
    · have d1 : decide ((1 : Int) ≤ win) = true := by simp; omega
      by_cases h2 : win ≤ 8
      · have d2 : decide (win ≤ 8) = true := by simp; omega
        by_cases h3 : 0 ≤ delay
        · have d3 : decide ((0 : Int) ≤ delay) = true := by simp; omega
          by_cases h4 : delay ≤ 3
          · have d4 : decide (delay ≤ 3) = true := by simp; omega
            by_cases h5 : kind = 0
            · have e1 : (kind == 0) = true := by rw [beq_iff_eq]; omega
              have hno : ¬ LagsOk lags := fun hh => unhide HNO ⟨h0, h1, h2, h3, h4, .inl h5, hh⟩
              clear h5 h0 h1 h2 h3 h4
              go_wp2_with fail
              refine (lags_no lv lags W1 (unhide HX).2 hl hno).mono ?_
              rintro e w2 ⟨rfl, rfl⟩
              go_wp2
              go_ret
              exact ⟨rfl, (unhide HX).1⟩
            · have e1 : (kind == 0) = false := by rw [beq_eq_false_iff_ne]; omega
              by_cases h6 : kind = 1
              · have e2 : (kind == 1) = true := by rw [beq_iff_eq]; omega
                have hno : ¬ LagsOk lags := fun hh => unhide HNO ⟨h0, h1, h2, h3, h4, .inr h6, hh⟩
                clear h5 h6 h0 h1 h2 h3 h4
                go_wp2_with fail
                refine (lags_no lv lags W1 (unhide HX).2 hl hno).mono ?_
                rintro e w2 ⟨rfl, rfl⟩
                go_wp2
                go_ret
                exact ⟨rfl, (unhide HX).1⟩
              · have e2 : (kind == 1) = false := by rw [beq_eq_false_iff_ne]; omega
                clear h5 h6 h0 h1 h2 h3 h4
                go_wp2
                go_ret
                exact ⟨rfl, (unhide HX).1⟩
          · have d4 : decide (delay ≤ 3) = false := by simp; omega
            clear h0 h1 h2 h3 h4
            go_wp2
            go_ret
            exact ⟨rfl, (unhide HX).1⟩
        · have d3 : decide ((0 : Int) ≤ delay) = false := by simp; omega
          clear h0 h1 h2 h3
          go_wp2
          go_ret
          exact ⟨rfl, (unhide HX).1⟩
      · have d2 : decide (win ≤ 8) = false := by simp; omega
        clear h0 h1 h2
        go_wp2
        go_ret
        exact ⟨rfl, (unhide HX).1⟩
    · have d1 : decide ((1 : Int) ≤ win) = false := by simp; omega
      clear h0 h1
      go_wp2
      go_ret
      exact ⟨rfl, (unhide HX).1⟩
  · rw [decide_eq_false h0]
    clear h0
    go_wp2
    go_ret
    exact ⟨rfl, (unhide HX).1⟩
set_option maxRecDepth 10000 in
set_option maxHeartbeats 800000 in
theorem ppnew_no (n win delay kind : Int) (lv : Value) (lags : List Int) (w : World) (hgL : Laid w) (h : LagSrc w lv lags) (hl : lags.length ≤ 100000) (hno : ¬ CfgOk n win delay kind lags) (hlc : ∃ ao m c, lv = .slice ao m c) :
    Calls Tryz.prog 25 #[.agg #[.int .i64 n, .int .i64 win, .int .i64 delay, .int .i64 kind, lv]] w fun e w' => e = .returned (.tuple #[.pointer none, .int .i64 1]) ∧ Below w.heap.size w w' := by
  obtain ⟨ao0, m0', c0', rfl⟩ := hlc
  have hin : ∀ W : World, LagSrc W (.slice ao0 m0' c0') lags → Calls Tryz.prog 55 #[.agg #[.int .i64 n, .int .i64 win, .int .i64 delay, .int .i64 kind, .slice ao0 m0' c0']] W fun e w' => e = .returned (.tuple #[.pointer none, .iface 51 (.int .i64 1)]) ∧ Below W.heap.size W w' := fun W hW => by
    have bB : Below W.heap.size W (W.alloc (.cells #[.int .i64 n, .int .i64 win, .int .i64 delay, .int .i64 kind, .slice ao0 m0' c0'] 50)) := (Below.refl _ W).alloc (Nat.le_refl _) _
    have HL := hide (And.intro bB (hW.below bB))
    clear hW bB
    have HNO := hide hno
    clear hno h
    go_enter Tryz.func55, Tryz.ntmps55
    go_wp2_with fail
    refine (possible_no n win delay kind _ lags _ (unhide HL).2 hl (unhide HNO)).mono ?_
    rintro e w2 ⟨rfl, hb2⟩
    have H2 := hide hb2
    clear hb2
    go_wp2
    go_ret2
    exact ⟨rfl, (unhide HL).1.trans ((unhide H2).mono (unhide HL).1.size)⟩
  have bB : Below w.heap.size w (w.alloc (.cells #[.int .i64 n, .int .i64 win, .int .i64 delay, .int .i64 kind, .slice ao0 m0' c0'] 50)) := (Below.refl _ w).alloc (Nat.le_refl _) _
  have HL := hide (And.intro bB (And.intro (h.below bB) (hgL.below hgL.lt bB)))
  have HI := hide hin
  clear h bB hno hin
  go_enter Tryz.func25, Tryz.ntmps25
  go_wp2_with fail
  refine (unhide HI _ (unhide HL).2.1).mono ?_
  rintro e w2 ⟨rfl, hb2⟩
  have hL2 : Laid w2 := (unhide HL).2.2.below (unhide HL).2.2.lt hb2
  have H2 := hide hb2
  clear hb2
  go_wp2_with fail
  refine (told_kind 1 w2 hL2).mono ?_
  rintro e w3 ⟨rfl, hb3⟩
  go_wp2
  go_ret2
  have z1 := (unhide HL).1
  have z2 := z1.trans ((unhide H2).mono z1.size)
  exact ⟨rfl, z2.trans (hb3.mono z2.size)⟩
end Go.Proofs.YtandblanpafjoaaGreatDoor

namespace Go.Proofs.YtandblanpafjoaaGreatDoor
open Go.RowKit Go.Extern.Stop Go.Stop Go.Extern
def zPs : Array Value := #[.int .i64 0, .int .i64 0, .int .i64 0, .int .i64 0, .int .i64 0, .int .i64 0, .int .i64 0]
theorem Tryz.sizePs : (Tryz.prog.info? 98).map (·.size) = some 7 := by kernel_rfl
theorem Tryz.zeroPs (w : World) : (zeroValue 98).run Tryz.prog w = .ok (.agg zPs) w := by kernel_rfl
def knTo (x : PeerM) (k q : Nat) : Nat := if q < k then (x.known q).length else 0
def stands (x : PeerM) (n k : Nat) : Array Value := #[.int .i64 (x.frame : Int), .int .i64 (confTo x n : Int), .int .i64 (x.dropped : Int), .int .i64 (knTo x k 0 : Int), .int .i64 (knTo x k 1 : Int), .int .i64 (knTo x k 2 : Int), .int .i64 (knTo x k 3 : Int)]
theorem stands_zero (x : PeerM) (n : Nat) : stands x n 0 = #[.int .i64 (x.frame : Int), .int .i64 (confTo x n : Int), .int .i64 (x.dropped : Int), .int .i64 0, .int .i64 0, .int .i64 0, .int .i64 0] := by simp [stands, knTo]
theorem stands_succ (x : PeerM) (n k : Nat) (hk : k < 4) : (stands x n k).setIfInBounds (3 + k) (.int .i64 ((x.known k).length : Int)) = stands x n (k + 1) := by
  rcases k with _ | _ | _ | _ | k
  · simp [stands, knTo]
  · simp [stands, knTo]
  · simp [stands, knTo]
  · simp [stands, knTo]
  · omega
theorem stands_one (x : PeerM) (n k : Nat) : (stands x n k).all (·.oneCell') = true := by simp [stands, Value.oneCell']
theorem StoreAt.frame_call2 {w : World} {st : Value} {F : Nat → Prop} {n win lo frame : Nat} {fs : Nat → List Int} (h : StoreAt w st F n win lo frame fs) : ∃ t sb, st = .iface t (.pointer (some ⟨sb, 0, none⟩)) ∧ (∀ W : World, (Go.method 429 t (.pointer (some ⟨sb, 0, none⟩)) "Frame").run Tryz.prog W = .ok (194, .pointer (some ⟨sb, 0, none⟩)) W) ∧ w.cell? ⟨sb, 1, none⟩ = some (.int .i64 (frame : Int)) ∧ F sb := by
  rcases h with ⟨sb, pb, rb, e, h⟩ | ⟨sb, pb, rb, mb, e, h⟩
  · exact ⟨_, sb, e, fun W => mFrameF _ W, h.blk.c1, h.f1⟩
  · exact ⟨_, sb, e, fun W => mFrameD _ W, h.blk.c1, h.f1⟩
set_option maxRecDepth 10000 in
set_option maxHeartbeats 4000000 in
theorem stands_any (b num n win delay : Nat) (F FS : Nat → Prop) (x : PeerM) (v : Nat → Value) (st : Value) (w : World) (h : PeerAt w b F FS num n win delay x v st) (hF : ∀ k, F k → k < w.heap.size) :
    Calls Tryz.prog 97 #[.pointer (some ⟨b, 0, none⟩)] w fun e w' => e = .returned (.agg (stands x n n)) ∧ Below w.heap.size w w' := by
  obtain ⟨t, sb, rfl, hm, hc, hsb⟩ := h.store.frame_call2
  have hz := Tryz.zeroPs
  have hn4 := h.hn4
  have hbl := h.blk.lt
  have hsl := hF sb (h.fs sb hsb).1
  have HB := hide h
  have bR : Below w.heap.size w (w.alloc (.cells zPs 98)) := (Below.refl _ w).alloc (Nat.le_refl _) _
  have xR : Blk (w.alloc (.cells zPs 98)) w.heap.size zPs 98 := Blk.new _ _ _
  have c13 : (w.alloc (.cells zPs 98)).cell? ⟨b, 13, none⟩ = some (.iface t (.pointer (some ⟨sb, 0, none⟩))) := (bR.cell (p := ⟨b, 13, none⟩) hbl).trans (h.cell 13)
  have c4 : (w.alloc (.cells zPs 98)).cell? ⟨b, 4, none⟩ = some (.int .i64 (x.dropped : Int)) := (bR.cell (p := ⟨b, 4, none⟩) hbl).trans (h.cell 4)
  have cf : (w.alloc (.cells zPs 98)).cell? ⟨sb, 1, none⟩ = some (.int .i64 (x.frame : Int)) := (bR.cell (p := ⟨sb, 1, none⟩) hsl).trans hc
  have c1 : (w.alloc (.cells zPs 98)).cell? ⟨b, 1, none⟩ = some (.int .i64 (n : Int)) := (bR.cell (p := ⟨b, 1, none⟩) hbl).trans (h.cell 1)
  have hz1 : (w.alloc (.cells zPs 98)).heap.size = w.heap.size + 1 := by simp
  clear h hc
  go_enter Tryz.func97, Tryz.ntmps97
  go_upto_region 1 with fail
  generalize w.alloc (.cells zPs 98) = w1 at *
  have HZ := hide hz1
  clear hz1 hz
  go_cut [3] from 5 (fun s3 wx => s3 = .pointer (some ⟨w1.heap.size, 0, none⟩) ∧ Blk wx w1.heap.size (stands x n 0) 98 ∧ Below w1.heap.size w1 wx)
  case first =>
    have hS0 : w1.drew.cell? ⟨b, 13, none⟩ = some (.iface t (.pointer (some ⟨sb, 0, none⟩))) ∧ w1.drew.cell? ⟨b, 4, none⟩ = some (.int .i64 (x.dropped : Int)) ∧ w1.drew.cell? ⟨sb, 1, none⟩ = some (.int .i64 (x.frame : Int)) ∧ Below w.heap.size w w1.drew := ⟨c13, c4, cf, bR.drew⟩
    have hbA : Below w1.heap.size w1 (w1.drew.alloc (.cells zPs 98)) := (Below.refl _ w1).drew.alloc (Nat.le_refl _) _
    have xA : Blk (w1.drew.alloc (.cells zPs 98)) w1.heap.size zPs 98 := Blk.new _ _ _
    have hzz := unhide HZ
    have hSA : (w1.drew.alloc (.cells zPs 98)).cell? ⟨b, 13, none⟩ = some (.iface t (.pointer (some ⟨sb, 0, none⟩))) ∧ (w1.drew.alloc (.cells zPs 98)).cell? ⟨b, 4, none⟩ = some (.int .i64 (x.dropped : Int)) ∧ (w1.drew.alloc (.cells zPs 98)).cell? ⟨sb, 1, none⟩ = some (.int .i64 (x.frame : Int)) ∧ Below w.heap.size w (w1.drew.alloc (.cells zPs 98)) :=
      ⟨(hbA.cell (p := ⟨b, 13, none⟩) (by show b < w1.heap.size; omega)).trans c13, (hbA.cell (p := ⟨b, 4, none⟩) (by show b < w1.heap.size; omega)).trans c4, (hbA.cell (p := ⟨sb, 1, none⟩) (by show sb < w1.heap.size; omega)).trans cf, bR.trans (hbA.mono (by omega))⟩
    have xZ : Blk ((w1.drew.alloc (.cells zPs 98)).setRow w1.heap.size #[.int .i64 (x.frame : Int), .int .i64 (confTo x n : Int), .int .i64 (x.dropped : Int), .int .i64 0, .int .i64 0, .int .i64 0, .int .i64 0]) w1.heap.size (stands x n 0) 98 := by rw [stands_zero]; exact xA.setRow _
    have bZ : Below w1.heap.size w1 ((w1.drew.alloc (.cells zPs 98)).setRow w1.heap.size #[.int .i64 (x.frame : Int), .int .i64 (confTo x n : Int), .int .i64 (x.dropped : Int), .int .i64 0, .int .i64 0, .int .i64 0, .int .i64 0]) := below_setRow hbA (Nat.le_refl _) _
    have hSZ : ((w1.drew.alloc (.cells zPs 98)).setRow w1.heap.size #[.int .i64 (x.frame : Int), .int .i64 (confTo x n : Int), .int .i64 (x.dropped : Int), .int .i64 0, .int .i64 0, .int .i64 0, .int .i64 0]).cell? ⟨b, 13, none⟩ = some (.iface t (.pointer (some ⟨sb, 0, none⟩))) ∧ ((w1.drew.alloc (.cells zPs 98)).setRow w1.heap.size #[.int .i64 (x.frame : Int), .int .i64 (confTo x n : Int), .int .i64 (x.dropped : Int), .int .i64 0, .int .i64 0, .int .i64 0, .int .i64 0]).cell? ⟨b, 4, none⟩ = some (.int .i64 (x.dropped : Int)) ∧ ((w1.drew.alloc (.cells zPs 98)).setRow w1.heap.size #[.int .i64 (x.frame : Int), .int .i64 (confTo x n : Int), .int .i64 (x.dropped : Int), .int .i64 0, .int .i64 0, .int .i64 0, .int .i64 0]).cell? ⟨sb, 1, none⟩ = some (.int .i64 (x.frame : Int)) ∧ Below w.heap.size w ((w1.drew.alloc (.cells zPs 98)).setRow w1.heap.size #[.int .i64 (x.frame : Int), .int .i64 (confTo x n : Int), .int .i64 (x.dropped : Int), .int .i64 0, .int .i64 0, .int .i64 0, .int .i64 0]) :=
      ⟨(bZ.cell (p := ⟨b, 13, none⟩) (by show b < w1.heap.size; omega)).trans c13, (bZ.cell (p := ⟨b, 4, none⟩) (by show b < w1.heap.size; omega)).trans c4, (bZ.cell (p := ⟨sb, 1, none⟩) (by show sb < w1.heap.size; omega)).trans cf, bR.trans (bZ.mono (by omega))⟩
    clear hzz
    refine wp_region_noPanic ?_
    refine wp_held_reads 4 (fun W' => W'.cell? ⟨b, 13, none⟩ = some (.iface t (.pointer (some ⟨sb, 0, none⟩))) ∧ W'.cell? ⟨b, 4, none⟩ = some (.int .i64 (x.dropped : Int)) ∧ W'.cell? ⟨sb, 1, none⟩ = some (.int .i64 (x.frame : Int)) ∧ Below w.heap.size w W') (by kernel_rfl) (by simp) (by kernel_rfl) (by kernel_rfl) (fun _ _ _ _ _ h => h) hS0 ?_
    simp only [List.take_succ_cons, List.take_zero]
    refine wpHeld_op ?y0 rfl ?z0 ?_
    case z0 => intro w' hS; obtain ⟨hS1, hS2, hS3, hS4⟩ := hS; go_simp; rfl
    refine wpHeld_op ?y1 rfl ?z1 ?_
    case z1 => intro w' hS; obtain ⟨hS1, hS2, hS3, hS4⟩ := hS; go_simp; rfl
    refine wpHeld_op ?y2 rfl ?z2 ?_
    case z2 => intro w' hS; obtain ⟨hS1, hS2, hS3, hS4⟩ := hS; go_simp; rfl
    refine wpHeld_op ?y3 rfl ?z3 ?_
    case z3 => intro w' hS; obtain ⟨hS1, hS2, hS3, hS4⟩ := hS; go_simp; rfl
    unfold wpHeld
    refine wpAnyH_take (i := 5) (v := .pointer (some ⟨b, 0, none⟩)) rfl (by kernel_rfl) (by kernel_rfl) (by kernel_rfl) (fun _ _ _ h => h) (Or.inl ⟨by rfl, ?t5⟩) hS0 ?_
    case t5 => intro w' hS; obtain ⟨hS1, hS2, hS3, hS4⟩ := hS; go_simp
    refine wpAnyH_take (i := 7) (v := .pointer (some ⟨b, 0, none⟩)) rfl (by kernel_rfl) (by kernel_rfl) (by kernel_rfl) (fun _ _ _ h => h) (Or.inl ⟨by rfl, ?t7⟩) hS0 ?_
    case t7 => intro w' hS; obtain ⟨hS1, hS2, hS3, hS4⟩ := hS; go_simp
    refine wpAnyH_take (i := 8) (v := .pointer (some ⟨b, 0, none⟩)) rfl (by kernel_rfl) (by kernel_rfl) (by kernel_rfl) (fun _ _ _ h => h) (Or.inl ⟨by rfl, ?t8⟩) hS0 ?_
    case t8 => intro w' hS; obtain ⟨hS1, hS2, hS3, hS4⟩ := hS; go_simp
    refine wpAnyH_take (i := 9) (v := .pointer (some ⟨b, 4, none⟩)) rfl (by kernel_rfl) (by kernel_rfl) (by kernel_rfl) (fun _ _ _ h => h) (Or.inl ⟨by rfl, ?t9⟩) hS0 ?_
    case t9 => intro w' hS; obtain ⟨hS1, hS2, hS3, hS4⟩ := hS; go_simp
    refine wpAnyH_take (i := 10) (v := .int .i64 (x.dropped : Int)) rfl (by kernel_rfl) (by kernel_rfl) (by kernel_rfl) (fun _ _ _ h => h) (Or.inl ⟨by rfl, ?t10⟩) hS0 ?_
    case t10 => intro w' hS; obtain ⟨hS1, hS2, hS3, hS4⟩ := hS; go_simp
    refine wpAnyH_all (rs := [4, 12]) (by kernel_rfl) (by simp) ?_
    intro k hk
    have hk2 : k = 4 ∨ k = 12 := by simpa using hk
    clear hk
    rcases hk2 with rfl | rfl
    · skip
      refine wpOp_of_list _ rfl rfl ?_
      go_wp2_with fail
      refine (frame_cell sb x.frame _ hS0.2.2.1).mono ?_
      rintro e w' ⟨rfl, rfl⟩
      go_wp2_with fail
      refine ⟨hS0, ?_⟩
      refine wpAnyH_all (rs := [6, 12]) (by kernel_rfl) (by simp) ?_
      intro k hk
      have hk2 : k = 6 ∨ k = 12 := by simpa using hk
      clear hk
      rcases hk2 with rfl | rfl
      · skip
        refine wpOp_of_list _ rfl rfl ?_
        go_wp2_with fail
        refine (conf_any b num n win delay F FS x v _ _ ((unhide HB).same (fun k hk => hS0.2.2.2.block k (by have := hF k hk; omega)))).mono ?_
        rintro e w' ⟨rfl, rfl⟩
        go_wp2_with fail
        refine ⟨hS0, ?_⟩
        refine wpAnyH_take (i := 11) (v := .agg #[.int .i64 (x.frame : Int), .int .i64 (confTo x n : Int), .int .i64 (x.dropped : Int), .int .i64 0, .int .i64 0, .int .i64 0, .int .i64 0]) rfl (by kernel_rfl) (by kernel_rfl) (by kernel_rfl) (fun _ _ _ h => h) (Or.inl ⟨by rfl, ?gb3⟩) hS0 ?_
        case gb3 => intro w' _; go_simp
        refine wpAnyH_all (rs := [12]) (by kernel_rfl) (by simp) ?_
        intro k hk
        obtain rfl : k = 12 := by simpa using hk
        refine wpOp_of_list _ rfl rfl ?_
        go_wp2_with fail
        refine ⟨hSA, ?_⟩
        refine wpAnyH_all (rs := [13]) (by kernel_rfl) (by simp) ?_
        intro k hk
        obtain rfl : k = 13 := by simpa using hk
        refine wpOp_of_list _ rfl rfl ?_
        go_simp
        refine wpList_store_blk rfl 98 _ _ rfl w1.heap.size 98 zPs #[.int .i64 (x.frame : Int), .int .i64 (confTo x n : Int), .int .i64 (x.dropped : Int), .int .i64 0, .int .i64 0, .int .i64 0, .int .i64 0] rfl rfl xA Tryz.sizePs rfl (by simp [Value.oneCell']) ?_
        go_wp2_with fail
        refine ⟨hSZ, ⟨by kernel_rfl, ?_⟩⟩
        refine NoPanic.normal ?_
        go_wp2_with fail
        go_meet
        case rel => exact ⟨rfl, xZ, bZ⟩
      · skip
        refine wpOp_of_list _ rfl rfl ?_
        go_wp2_with fail
        refine ⟨hSA, ?_⟩
        refine wpAnyH_all (rs := [6]) (by kernel_rfl) (by simp) ?_
        intro k hk
        obtain rfl : k = 6 := by simpa using hk
        refine wpOp_of_list _ rfl rfl ?_
        go_wp2_with fail
        refine (conf_any b num n win delay F FS x v _ _ ((unhide HB).same (fun k hk => hSA.2.2.2.block k (by have := hF k hk; omega)))).mono ?_
        rintro e w' ⟨rfl, rfl⟩
        go_wp2_with fail
        refine ⟨hSA, ?_⟩
        refine wpAnyH_take (i := 11) (v := .agg #[.int .i64 (x.frame : Int), .int .i64 (confTo x n : Int), .int .i64 (x.dropped : Int), .int .i64 0, .int .i64 0, .int .i64 0, .int .i64 0]) rfl (by kernel_rfl) (by kernel_rfl) (by kernel_rfl) (fun _ _ _ h => h) (Or.inl ⟨by rfl, ?gb7⟩) hSA ?_
        case gb7 => intro w' _; go_simp
        refine wpAnyH_all (rs := [13]) (by kernel_rfl) (by simp) ?_
        intro k hk
        obtain rfl : k = 13 := by simpa using hk
        refine wpOp_of_list _ rfl rfl ?_
        go_simp
        refine wpList_store_blk rfl 98 _ _ rfl w1.heap.size 98 zPs #[.int .i64 (x.frame : Int), .int .i64 (confTo x n : Int), .int .i64 (x.dropped : Int), .int .i64 0, .int .i64 0, .int .i64 0, .int .i64 0] rfl rfl xA Tryz.sizePs rfl (by simp [Value.oneCell']) ?_
        go_wp2_with fail
        refine ⟨hSZ, ⟨by kernel_rfl, ?_⟩⟩
        refine NoPanic.normal ?_
        go_wp2_with fail
        go_meet
        case rel => exact ⟨rfl, xZ, bZ⟩
    · skip
      refine wpOp_of_list _ rfl rfl ?_
      go_wp2_with fail
      refine ⟨hSA, ?_⟩
      refine wpAnyH_all (rs := [4]) (by kernel_rfl) (by simp) ?_
      intro k hk
      obtain rfl : k = 4 := by simpa using hk
      refine wpOp_of_list _ rfl rfl ?_
      go_wp2_with fail
      refine (frame_cell sb x.frame _ hSA.2.2.1).mono ?_
      rintro e w' ⟨rfl, rfl⟩
      go_wp2_with fail
      refine ⟨hSA, ?_⟩
      refine wpAnyH_all (rs := [6]) (by kernel_rfl) (by simp) ?_
      intro k hk
      obtain rfl : k = 6 := by simpa using hk
      refine wpOp_of_list _ rfl rfl ?_
      go_wp2_with fail
      refine (conf_any b num n win delay F FS x v _ _ ((unhide HB).same (fun k hk => hSA.2.2.2.block k (by have := hF k hk; omega)))).mono ?_
      rintro e w' ⟨rfl, rfl⟩
      go_wp2_with fail
      refine ⟨hSA, ?_⟩
      refine wpAnyH_take (i := 11) (v := .agg #[.int .i64 (x.frame : Int), .int .i64 (confTo x n : Int), .int .i64 (x.dropped : Int), .int .i64 0, .int .i64 0, .int .i64 0, .int .i64 0]) rfl (by kernel_rfl) (by kernel_rfl) (by kernel_rfl) (fun _ _ _ h => h) (Or.inl ⟨by rfl, ?gb11⟩) hSA ?_
      case gb11 => intro w' _; go_simp
      refine wpAnyH_all (rs := [13]) (by kernel_rfl) (by simp) ?_
      intro k hk
      obtain rfl : k = 13 := by simpa using hk
      refine wpOp_of_list _ rfl rfl ?_
      go_simp
      refine wpList_store_blk rfl 98 _ _ rfl w1.heap.size 98 zPs #[.int .i64 (x.frame : Int), .int .i64 (confTo x n : Int), .int .i64 (x.dropped : Int), .int .i64 0, .int .i64 0, .int .i64 0, .int .i64 0] rfl rfl xA Tryz.sizePs rfl (by simp [Value.oneCell']) ?_
      go_wp2_with fail
      refine ⟨hSZ, ⟨by kernel_rfl, ?_⟩⟩
      refine NoPanic.normal ?_
      go_wp2_with fail
      go_meet
      case rel => exact ⟨rfl, xZ, bZ⟩
  case rest =>
    obtain ⟨rfl, hx0, hb0⟩ := hcut
    have hz1 : w.heap.size + 1 ≤ w1.heap.size := by have := unhide HZ; omega
    have c1' : wc.cell? ⟨b, 1, none⟩ = some (.int .i64 (n : Int)) := (hb0.cell (p := ⟨b, 1, none⟩) (by show b < w1.heap.size; omega)).trans c1
    have H0 := hide (And.intro hx0 hb0)
    clear hx0 hb0 c13 c4 cf c1 hm
    go_wp2_with fail
    go_loopw [21] (fun s wr => ∃ k : Nat, k ≤ n ∧ s = .int .i64 (k : Int) ∧ Below w1.heap.size w1 wr ∧ Blk wr w1.heap.size (stands x n k) 98) (fun s _ => n - (intOf s).toNat)
    case atStart => exact ⟨0, by omega, rfl, (unhide H0).2, (unhide H0).1⟩
    case round =>
      obtain ⟨k, hk, rfl, hbr, hxr⟩ := hrel
      clear c1'
      by_cases hlt : k < n
      · obtain ⟨ao, cp, hv, hx1, hx2⟩ := (unhide HB).shape k hlt
        clear hx1 hx2
        have hdk : decide (k < n) = true := by simp; omega
        have hadd := i64_id ((k : Int) + 1) (by omega) (by omega)
        have k0 : (0 : Int) ≤ (k : Int) := by omega
        have k1 : (k : Int) < 4 := by omega
        have ck : wr.cell? ⟨b, 5 + k, none⟩ = some (.slice ao (x.known k).length cp) := by
          rw [← hv]
          exact (hbr.cell (p := ⟨b, 5 + k, none⟩) (by show b < w1.heap.size; omega)).trans ((bR.cell (p := ⟨b, 5 + k, none⟩) hbl).trans ((unhide HB).cK k (by omega)))
        have cs : ∃ u, wr.cell? ⟨w1.heap.size, 3 + k, none⟩ = some u := by
          rw [hxr.cell]
          rcases k with _ | _ | _ | _ | k
          · exact ⟨_, rfl⟩
          · exact ⟨_, rfl⟩
          · exact ⟨_, rfl⟩
          · exact ⟨_, rfl⟩
          · omega
        obtain ⟨u, cs⟩ := cs
        have fs : wr.frozen? ⟨w1.heap.size, 3 + k, none⟩ = false := hxr.frozen _
        have HX := hide (And.intro hbr hxr)
        clear hbr hxr hv
        go_wp2
        obtain ⟨hbr, hxr⟩ := unhide HX
        have hx2 := hxr.set (3 + k) (.int .i64 ((x.known k).length : Int))
        rw [stands_succ x n k (by omega)] at hx2
        exact ⟨⟨k + 1, by omega, by go_num, hbr.setCell (p := ⟨w1.heap.size, 3 + k, none⟩) (Nat.le_refl _) _, hx2⟩, by simp [intOf]; omega⟩
      · have hdk : decide (k < n) = false := by simp; omega
        have hke : k = n := by omega
        have hxr' : Blk wr w1.heap.size (stands x n n) 98 := by rw [hke] at hxr; exact hxr
        have xr : Blk wr w.heap.size zPs 98 := (hbr.block _ (by omega)).trans xR
        have hsz : (Tryz.prog.info? 98).map (·.size) = some (stands x n n).size := Tryz.sizePs
        clear hxr hke
        go_wp2_with (first | (refine wpList_load_blk rfl 98 _ rfl w1.heap.size rfl 98 (stands x n n) _ hxr' Tryz.underlying98 rfl hsz ?_) | (refine wpList_store_blk rfl 98 _ _ rfl w.heap.size 98 zPs (stands x n n) rfl rfl xr hsz rfl (stands_one _ _ _) ?_))
        refine bodyPost_ret (v := .agg (stands x n n)) ?_ rfl ⟨rfl, ?_⟩
        · exact results_cell_row Tryz.results97 _ _ w.heap.size 98 _ (0, 0) _ rfl (xr.setRow _) Tryz.underlying98 rfl hsz
        · exact below_setRow (bR.trans (hbr.mono (by omega))) (Nat.le_refl _) _
end Go.Proofs.YtandblanpafjoaaGreatDoor

