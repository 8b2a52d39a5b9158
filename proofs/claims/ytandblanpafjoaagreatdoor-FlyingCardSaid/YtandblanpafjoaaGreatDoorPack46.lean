import Derived.Test.YtandblanpafjoaaGreatDoorPack45
import Derived.Test.YtandblanpafjoaaGreatDoorPack17
import Derived.Test.YtandblanpafjoaaGreatDoorPack25
namespace Go.Proofs.YtandblanpafjoaaGreatDoor
open Go.RowKit Go.Extern.Stop Go.Stop Go.Extern
theorem Tryz.zeroCfg (w : World) : (zeroValue 50).run Tryz.prog w = .ok (.agg #[.int .i64 0, .int .i64 0, .int .i64 0, .int .i64 0, .slice none 0 0]) w := by kernel_rfl
theorem Tryz.zeroPair (w : World) : (zeroValue 38).run Tryz.prog w = .ok (.agg #[.pointer none, .pointer none]) w := by kernel_rfl
theorem Tryz.infoPair : (Tryz.prog.info? 38).map (fun i => (i.zero, i.size, i.bytes)) = some (some (.agg #[.pointer none, .pointer none]), 2, 16) := by kernel_rfl
theorem rnew_no (n win delay kind : Int) (lv : Value) (lags : List Int) (w : World) (h : LagSrc w lv lags) (hl : lags.length ≤ 100000) (hno : ¬ CfgOk n win delay kind lags) :
    Calls Tryz.prog 26 #[.agg #[.int .i64 n, .int .i64 win, .int .i64 delay, .int .i64 kind, lv]] w fun e w' => e = .returned (.tuple #[.pointer none, .bool false]) ∧ Below w.heap.size w w' := by
  by_cases hb : (2 ≤ n ∧ n ≤ 4) ∧ 1 ≤ win ∧ win ≤ 8 ∧ 0 ≤ delay ∧ delay ≤ 3 ∧ (kind = 0 ∨ kind = 1) ∧ lags.length ≤ 8
  · obtain ⟨⟨h1, h2⟩, h3, h4, h5, h6, h7, h8⟩ := hb
    obtain ⟨n', rfl⟩ : ∃ x : Nat, n = (x : Int) := ⟨n.toNat, by omega⟩
    obtain ⟨win', rfl⟩ : ∃ x : Nat, win = (x : Int) := ⟨win.toNat, by omega⟩
    obtain ⟨delay', rfl⟩ : ∃ x : Nat, delay = (x : Int) := ⟨delay.toNat, by omega⟩
    obtain ⟨kind', rfl⟩ : ∃ x : Nat, kind = (x : Int) := ⟨kind.toNat, by omega⟩
    refine (rnew_any n' win' delay' kind' lv lags w h h8 (by omega) (by omega) (by omega) (by omega) (by omega) (by omega)).mono ?_
    rintro e w' ⟨hB, hc⟩
    rcases hc with ⟨_, rfl⟩ | ⟨hok, _⟩
    · exact ⟨rfl, hB⟩
    · exact absurd ⟨⟨h1, h2⟩, h3, h4, h5, h6, h7, hok⟩ hno
  · exact rnew_bad n win delay kind lv lags w h hl hb
def LNext (w : World) (lo : Nat → LR) (wb : Nat) (n : Nat) (ps : Nat → LN) (w' : World) : Prop := ∃ lo' nsv' outv' n' ps' outs', LawAt w' lo' wb nsv' outv' n' ps' outs' ∧ LTo w lo w' lo' ∧ n ≤ n' ∧ n' ≤ n + 1 ∧ (∀ j, j < n → Up (ps j).m (ps' j).m) ∧ (∀ j, n ≤ j → j < n' → ∃ pl, pl ≤ 4 ∧ Bd (ps' j).m pl 0 0 0)
set_option maxRecDepth 10000 in
set_option maxHeartbeats 8000000 in
theorem lopen_any (wb n : Nat) (nsv outv : Value) (lo : Nat → LR) (ps : Nat → LN) (outs : List Value) (K A B C D : Int) (s : ByteArray) (w : World) (hgL : Laid w) (h : LawAt w lo wb nsv outv n ps outs) (hs : s.size ≤ 65536) (hn : n ≤ 100000) :
    Calls Tryz.prog 12 #[.pointer (some ⟨wb, 0, none⟩), .agg #[.int .i64 K, .int .i64 A, .int .i64 B, .int .i64 C, .int .i64 D, .string s]] w fun e w' => e = .returned (.bool true) ∧ ∃ lo' nsv' n' ps', LawAt w' lo' wb nsv' outv n' ps' outs ∧ LTo w lo w' lo' ∧ n ≤ n' ∧ n' ≤ n + 1 ∧ (∀ j, j < n → Up (ps j).m (ps' j).m) ∧ (∀ j, n ≤ j → j < n' → ∃ pl, pl ≤ 4 ∧ Bd (ps' j).m pl 0 0 0) := by
  have bB : Below w.heap.size w (w.alloc (.cells #[.int .i64 K, .int .i64 A, .int .i64 B, .int .i64 C, .int .i64 D, .string s] 32)) := (Below.refl _ w).alloc (Nat.le_refl _) _
  have xB : Blk (w.alloc (.cells #[.int .i64 K, .int .i64 A, .int .i64 B, .int .i64 C, .int .i64 D, .string s] 32)) w.heap.size #[.int .i64 K, .int .i64 A, .int .i64 B, .int .i64 C, .int .i64 D, .string s] 32 := Blk.new _ _ _
  have zB : (w.alloc (.cells #[.int .i64 K, .int .i64 A, .int .i64 B, .int .i64 C, .int .i64 D, .string s] 32)).heap.size = w.heap.size + 1 := by simp
  have hzc := Tryz.zeroCfg
  have hsC := Tryz.sizeCfg
  have HL := hide h
  have hwl := h.blk.lt
  clear h
  go_enter Tryz.func12, Tryz.ntmps12
  go_upto_region 1 with fail
  generalize w.alloc (.cells #[.int .i64 K, .int .i64 A, .int .i64 B, .int .i64 C, .int .i64 D, .string s] 32) = W at *
  have hxl := xB.lt
  have m1 : W.cell? ⟨w.heap.size, 1, none⟩ = some (.int .i64 A) := xB.cell 1
  have m2 : W.cell? ⟨w.heap.size, 2, none⟩ = some (.int .i64 B) := xB.cell 2
  have m3 : W.cell? ⟨w.heap.size, 3, none⟩ = some (.int .i64 C) := xB.cell 3
  have m4 : W.cell? ⟨w.heap.size, 4, none⟩ = some (.int .i64 D) := xB.cell 4
  have m5 : W.cell? ⟨w.heap.size, 5, none⟩ = some (.string s) := xB.cell 5
  have HB := hide (And.intro bB (And.intro xB zB))
  clear bB xB zB
  go_cut [5] from 13 (fun s5 wx => ∃ cb lv, s5 = .pointer (some ⟨cb, 0, none⟩) ∧ W.heap.size ≤ cb ∧ Blk wx cb #[.int .i64 A, .int .i64 B, .int .i64 C, .int .i64 D, lv] 50 ∧ wx.ownsRow W.heap.size 3 1 lv s.size ((lagS s).map (Value.int .i64)) ∧ (s.size = 0 → lv = .slice none 0 0) ∧ lv.ownBlock ≠ some cb ∧ Below W.heap.size W wx)
  case first =>
    refine wp_region_noPanic ?_
    refine wp_held_reads 10 (fun W' => W'.cell? ⟨w.heap.size, 1, none⟩ = some (.int .i64 A) ∧ W'.cell? ⟨w.heap.size, 2, none⟩ = some (.int .i64 B) ∧ W'.cell? ⟨w.heap.size, 3, none⟩ = some (.int .i64 C) ∧ W'.cell? ⟨w.heap.size, 4, none⟩ = some (.int .i64 D) ∧ W'.cell? ⟨w.heap.size, 5, none⟩ = some (.string s)) (by kernel_rfl) (by simp) (by kernel_rfl) (by kernel_rfl) (fun _ _ _ _ _ h => h) ⟨m1, m2, m3, m4, m5⟩ ?_
    simp only [List.take_succ_cons, List.take_zero]
    refine wpHeld_op ?y0 rfl ?z0 ?_
    case z0 => intro w' hS; obtain ⟨hS1, hS2, hS3, hS4, hS5⟩ := hS; go_simp; rfl
    refine wpHeld_op ?y1 rfl ?z1 ?_
    case z1 => intro w' hS; obtain ⟨hS1, hS2, hS3, hS4, hS5⟩ := hS; go_simp; rfl
    refine wpHeld_op ?y2 rfl ?z2 ?_
    case z2 => intro w' hS; obtain ⟨hS1, hS2, hS3, hS4, hS5⟩ := hS; go_simp; rfl
    refine wpHeld_op ?y3 rfl ?z3 ?_
    case z3 => intro w' hS; obtain ⟨hS1, hS2, hS3, hS4, hS5⟩ := hS; go_simp; rfl
    refine wpHeld_op ?y4 rfl ?z4 ?_
    case z4 => intro w' hS; obtain ⟨hS1, hS2, hS3, hS4, hS5⟩ := hS; go_simp; rfl
    refine wpHeld_op ?y5 rfl ?z5 ?_
    case z5 => intro w' hS; obtain ⟨hS1, hS2, hS3, hS4, hS5⟩ := hS; go_simp; rfl
    refine wpHeld_op ?y6 rfl ?z6 ?_
    case z6 => intro w' hS; obtain ⟨hS1, hS2, hS3, hS4, hS5⟩ := hS; go_simp; rfl
    refine wpHeld_op ?y7 rfl ?z7 ?_
    case z7 => intro w' hS; obtain ⟨hS1, hS2, hS3, hS4, hS5⟩ := hS; go_simp; rfl
    refine wpHeld_op ?y8 rfl ?z8 ?_
    case z8 => intro w' hS; obtain ⟨hS1, hS2, hS3, hS4, hS5⟩ := hS; go_simp; rfl
    refine wpHeld_op ?y9 rfl ?z9 ?_
    case z9 => intro w' hS; obtain ⟨hS1, hS2, hS3, hS4, hS5⟩ := hS; go_simp; rfl
    unfold wpHeld
    refine wpAnyH_all (rs := [10, 12]) (by kernel_rfl) (by simp) ?_
    intro jj hjj
    have hj2 : jj = 10 ∨ jj = 12 := by simpa using hjj
    clear hjj
    rcases hj2 with rfl | rfl
    · refine wpOp_of_list _ rfl rfl ?_
      go_wp2_with fail
      refine (llags_any s W.drew hs).mono ?_
      rintro e w2 ⟨lv, rfl, hown, hnil, hb2⟩
      have hb2' : Below W.heap.size W w2 := ⟨hb2.os, hb2.tape, hb2.output, hb2.size, fun k hk => hb2.block k hk⟩
      obtain ⟨la, lc, hlv⟩ := own_nil hown
      subst hlv
      have xA : Blk (w2.alloc (.cells #[.int .i64 0, .int .i64 0, .int .i64 0, .int .i64 0, .slice none 0 0] 50)) w2.heap.size #[.int .i64 0, .int .i64 0, .int .i64 0, .int .i64 0, .slice none 0 0] 50 := Blk.new _ _ _
      have bA : Below w2.heap.size w2 (w2.alloc (.cells #[.int .i64 0, .int .i64 0, .int .i64 0, .int .i64 0, .slice none 0 0] 50)) := (Below.refl _ w2).alloc (Nat.le_refl _) _
      have xC : Blk ((w2.alloc (.cells #[.int .i64 0, .int .i64 0, .int .i64 0, .int .i64 0, .slice none 0 0] 50)).setRow w2.heap.size #[.int .i64 A, .int .i64 B, .int .i64 C, .int .i64 D, .slice la s.size lc]) w2.heap.size #[.int .i64 A, .int .i64 B, .int .i64 C, .int .i64 D, .slice la s.size lc] 50 := xA.setRow _
      have bC : Below w2.heap.size w2 ((w2.alloc (.cells #[.int .i64 0, .int .i64 0, .int .i64 0, .int .i64 0, .slice none 0 0] 50)).setRow w2.heap.size #[.int .i64 A, .int .i64 B, .int .i64 C, .int .i64 D, .slice la s.size lc]) := below_setRow bA (Nat.le_refl _) _
      have hS2 : (fun W' => W'.cell? ⟨w.heap.size, 1, none⟩ = some (.int .i64 A) ∧ W'.cell? ⟨w.heap.size, 2, none⟩ = some (.int .i64 B) ∧ W'.cell? ⟨w.heap.size, 3, none⟩ = some (.int .i64 C) ∧ W'.cell? ⟨w.heap.size, 4, none⟩ = some (.int .i64 D) ∧ W'.cell? ⟨w.heap.size, 5, none⟩ = some (.string s)) w2 := ⟨(hb2'.cell (p := ⟨w.heap.size, 1, none⟩) hxl).trans m1, (hb2'.cell (p := ⟨w.heap.size, 2, none⟩) hxl).trans m2, (hb2'.cell (p := ⟨w.heap.size, 3, none⟩) hxl).trans m3, (hb2'.cell (p := ⟨w.heap.size, 4, none⟩) hxl).trans m4, (hb2'.cell (p := ⟨w.heap.size, 5, none⟩) hxl).trans m5⟩
      have hS3 : (fun W' => W'.cell? ⟨w.heap.size, 1, none⟩ = some (.int .i64 A) ∧ W'.cell? ⟨w.heap.size, 2, none⟩ = some (.int .i64 B) ∧ W'.cell? ⟨w.heap.size, 3, none⟩ = some (.int .i64 C) ∧ W'.cell? ⟨w.heap.size, 4, none⟩ = some (.int .i64 D) ∧ W'.cell? ⟨w.heap.size, 5, none⟩ = some (.string s)) (w2.alloc (.cells #[.int .i64 0, .int .i64 0, .int .i64 0, .int .i64 0, .slice none 0 0] 50)) := ⟨((hb2'.trans (bA.mono hb2'.size)).cell (p := ⟨w.heap.size, 1, none⟩) hxl).trans m1, ((hb2'.trans (bA.mono hb2'.size)).cell (p := ⟨w.heap.size, 2, none⟩) hxl).trans m2, ((hb2'.trans (bA.mono hb2'.size)).cell (p := ⟨w.heap.size, 3, none⟩) hxl).trans m3, ((hb2'.trans (bA.mono hb2'.size)).cell (p := ⟨w.heap.size, 4, none⟩) hxl).trans m4, ((hb2'.trans (bA.mono hb2'.size)).cell (p := ⟨w.heap.size, 5, none⟩) hxl).trans m5⟩
      have hS4 : (fun W' => W'.cell? ⟨w.heap.size, 1, none⟩ = some (.int .i64 A) ∧ W'.cell? ⟨w.heap.size, 2, none⟩ = some (.int .i64 B) ∧ W'.cell? ⟨w.heap.size, 3, none⟩ = some (.int .i64 C) ∧ W'.cell? ⟨w.heap.size, 4, none⟩ = some (.int .i64 D) ∧ W'.cell? ⟨w.heap.size, 5, none⟩ = some (.string s)) ((w2.alloc (.cells #[.int .i64 0, .int .i64 0, .int .i64 0, .int .i64 0, .slice none 0 0] 50)).setRow w2.heap.size #[.int .i64 A, .int .i64 B, .int .i64 C, .int .i64 D, .slice la s.size lc]) := ⟨((hb2'.trans (bC.mono hb2'.size)).cell (p := ⟨w.heap.size, 1, none⟩) hxl).trans m1, ((hb2'.trans (bC.mono hb2'.size)).cell (p := ⟨w.heap.size, 2, none⟩) hxl).trans m2, ((hb2'.trans (bC.mono hb2'.size)).cell (p := ⟨w.heap.size, 3, none⟩) hxl).trans m3, ((hb2'.trans (bC.mono hb2'.size)).cell (p := ⟨w.heap.size, 4, none⟩) hxl).trans m4, ((hb2'.trans (bC.mono hb2'.size)).cell (p := ⟨w.heap.size, 5, none⟩) hxl).trans m5⟩
      have H2 := hide (And.intro hown (And.intro hnil (And.intro hb2' (And.intro xC bC))))
      clear hown hnil hb2 hb2' xC bC bA
      have HS := hide (And.intro hS2 (And.intro hS3 hS4))
      clear hS2 hS3 hS4 m1 m2 m3 m4 m5
      go_wp2_with fail
      refine ⟨(unhide HS).1, ?_⟩
      refine wpAnyH_take (i := 11) (v := .agg #[.int .i64 A, .int .i64 B, .int .i64 C, .int .i64 D, .slice la s.size lc]) rfl (by kernel_rfl) (by kernel_rfl) (by kernel_rfl) (fun _ _ _ h => h) (Or.inl ⟨by rfl, ?t11⟩) (unhide HS).1 ?_
      case t11 => intro w' hS; go_simp
      refine wpAnyH_all (rs := [12]) (by kernel_rfl) (by simp) ?_
      intro jj hjj
      obtain rfl : jj = 12 := by simpa using hjj
      refine wpOp_of_list _ rfl rfl ?_
      go_wp2_with fail
      refine ⟨(unhide HS).2.1, ?_⟩
      refine wpAnyH_all (rs := [13]) (by kernel_rfl) (by simp) ?_
      intro jj hjj
      obtain rfl : jj = 13 := by simpa using hjj
      refine wpOp_of_list _ rfl rfl ?_
      go_simp
      refine wpList_store_blk rfl 50 _ _ rfl w2.heap.size 50 _ #[.int .i64 A, .int .i64 B, .int .i64 C, .int .i64 D, .slice la s.size lc] rfl rfl xA hsC rfl (by simp [Value.oneCell']) ?_
      go_wp2_with fail
      refine ⟨(unhide HS).2.2, ⟨by kernel_rfl, ?_⟩⟩
      refine NoPanic.normal ?_
      go_wp2_with fail
      go_meet
      case rel =>
        obtain ⟨hown, hnil, hb2, xC, bC⟩ := unhide H2
        refine ⟨w2.heap.size, _, rfl, hb2.size, xC, owns_same hown (fun k hk => bC.block k (hown.lt k hk).2), hnil, (fun e => by have := (hown.lt _ e).2; omega), hb2.trans (bC.mono hb2.size)⟩
    · refine wpOp_of_list _ rfl rfl ?_
      have xA0 : Blk (W.drew.alloc (.cells #[.int .i64 0, .int .i64 0, .int .i64 0, .int .i64 0, .slice none 0 0] 50)) W.heap.size #[.int .i64 0, .int .i64 0, .int .i64 0, .int .i64 0, .slice none 0 0] 50 := Blk.new W.drew _ _
      have bA0 : Below W.heap.size W (W.drew.alloc (.cells #[.int .i64 0, .int .i64 0, .int .i64 0, .int .i64 0, .slice none 0 0] 50)) := (Below.refl _ W).drew.alloc (Nat.le_refl _) _
      have zA0 : (W.drew.alloc (.cells #[.int .i64 0, .int .i64 0, .int .i64 0, .int .i64 0, .slice none 0 0] 50)).heap.size = W.heap.size + 1 := by simp
      have hS1 : (fun W' => W'.cell? ⟨w.heap.size, 1, none⟩ = some (.int .i64 A) ∧ W'.cell? ⟨w.heap.size, 2, none⟩ = some (.int .i64 B) ∧ W'.cell? ⟨w.heap.size, 3, none⟩ = some (.int .i64 C) ∧ W'.cell? ⟨w.heap.size, 4, none⟩ = some (.int .i64 D) ∧ W'.cell? ⟨w.heap.size, 5, none⟩ = some (.string s)) (W.drew.alloc (.cells #[.int .i64 0, .int .i64 0, .int .i64 0, .int .i64 0, .slice none 0 0] 50)) := ⟨(bA0.cell (p := ⟨w.heap.size, 1, none⟩) hxl).trans m1, (bA0.cell (p := ⟨w.heap.size, 2, none⟩) hxl).trans m2, (bA0.cell (p := ⟨w.heap.size, 3, none⟩) hxl).trans m3, (bA0.cell (p := ⟨w.heap.size, 4, none⟩) hxl).trans m4, (bA0.cell (p := ⟨w.heap.size, 5, none⟩) hxl).trans m5⟩
      have HS1 := hide hS1
      have hcl := llags_any s (W.drew.alloc (.cells #[.int .i64 0, .int .i64 0, .int .i64 0, .int .i64 0, .slice none 0 0] 50)) hs
      have HA0 := hide (And.intro xA0 (And.intro bA0 zA0))
      have HM := hide (And.intro m1 (And.intro m2 (And.intro m3 (And.intro m4 m5))))
      clear hS1 xA0 bA0 zA0 m1 m2 m3 m4 m5
      go_wp2_with fail
      refine ⟨unhide HS1, ?_⟩
      refine wpAnyH_all (rs := [10]) (by kernel_rfl) (by simp) ?_
      intro jj hjj
      obtain rfl : jj = 10 := by simpa using hjj
      refine wpOp_of_list _ rfl rfl ?_
      go_wp2_with fail
      refine hcl.mono ?_
      clear hcl
      rintro e w2 ⟨lv, rfl, hown, hnil, hb2⟩
      obtain ⟨xA0, bA0, zA0⟩ := unhide HA0
      obtain ⟨m1, m2, m3, m4, m5⟩ := unhide HM
      have hb2' : Below W.heap.size W w2 := bA0.trans (hb2.mono bA0.size)
      obtain ⟨la, lc, hlv⟩ := own_nil hown
      subst hlv
      have xA : Blk w2 W.heap.size #[.int .i64 0, .int .i64 0, .int .i64 0, .int .i64 0, .slice none 0 0] 50 := (hb2.block _ (by omega)).trans xA0
      have xC : Blk (w2.setRow W.heap.size #[.int .i64 A, .int .i64 B, .int .i64 C, .int .i64 D, .slice la s.size lc]) W.heap.size #[.int .i64 A, .int .i64 B, .int .i64 C, .int .i64 D, .slice la s.size lc] 50 := xA.setRow _
      have bC : Below W.heap.size W (w2.setRow W.heap.size #[.int .i64 A, .int .i64 B, .int .i64 C, .int .i64 D, .slice la s.size lc]) := below_setRow hb2' (Nat.le_refl _) _
      have hS2 : (fun W' => W'.cell? ⟨w.heap.size, 1, none⟩ = some (.int .i64 A) ∧ W'.cell? ⟨w.heap.size, 2, none⟩ = some (.int .i64 B) ∧ W'.cell? ⟨w.heap.size, 3, none⟩ = some (.int .i64 C) ∧ W'.cell? ⟨w.heap.size, 4, none⟩ = some (.int .i64 D) ∧ W'.cell? ⟨w.heap.size, 5, none⟩ = some (.string s)) w2 := ⟨(hb2'.cell (p := ⟨w.heap.size, 1, none⟩) hxl).trans m1, (hb2'.cell (p := ⟨w.heap.size, 2, none⟩) hxl).trans m2, (hb2'.cell (p := ⟨w.heap.size, 3, none⟩) hxl).trans m3, (hb2'.cell (p := ⟨w.heap.size, 4, none⟩) hxl).trans m4, (hb2'.cell (p := ⟨w.heap.size, 5, none⟩) hxl).trans m5⟩
      have hS4 : (fun W' => W'.cell? ⟨w.heap.size, 1, none⟩ = some (.int .i64 A) ∧ W'.cell? ⟨w.heap.size, 2, none⟩ = some (.int .i64 B) ∧ W'.cell? ⟨w.heap.size, 3, none⟩ = some (.int .i64 C) ∧ W'.cell? ⟨w.heap.size, 4, none⟩ = some (.int .i64 D) ∧ W'.cell? ⟨w.heap.size, 5, none⟩ = some (.string s)) (w2.setRow W.heap.size #[.int .i64 A, .int .i64 B, .int .i64 C, .int .i64 D, .slice la s.size lc]) := ⟨(bC.cell (p := ⟨w.heap.size, 1, none⟩) hxl).trans m1, (bC.cell (p := ⟨w.heap.size, 2, none⟩) hxl).trans m2, (bC.cell (p := ⟨w.heap.size, 3, none⟩) hxl).trans m3, (bC.cell (p := ⟨w.heap.size, 4, none⟩) hxl).trans m4, (bC.cell (p := ⟨w.heap.size, 5, none⟩) hxl).trans m5⟩
      have hlb : ∀ k, (Value.slice la s.size lc).ownBlock = some k → W.heap.size < k := fun k hk => by have := (hown.lt k hk).1; omega
      have ho4 : (w2.setRow W.heap.size #[.int .i64 A, .int .i64 B, .int .i64 C, .int .i64 D, .slice la s.size lc]).ownsRow W.heap.size 3 1 (.slice la s.size lc) s.size ((lagS s).map (Value.int .i64)) := owns_base (owns_same hown (fun k hk => setRow_other _ _ _ _ (by have := hlb k hk; omega))) (by omega)
      have H2 := hide (And.intro ho4 (And.intro hnil (And.intro xC (And.intro bC hlb))))
      have HS := hide (And.intro hS2 hS4)
      clear hown hnil hb2 hb2' xC bC hlb ho4 hS2 hS4 xA0 bA0 zA0 m1 m2 m3 m4 m5
      go_wp2_with fail
      refine ⟨(unhide HS).1, ?_⟩
      refine wpAnyH_take (i := 11) (v := .agg #[.int .i64 A, .int .i64 B, .int .i64 C, .int .i64 D, .slice la s.size lc]) rfl (by kernel_rfl) (by kernel_rfl) (by kernel_rfl) (fun _ _ _ h => h) (Or.inl ⟨by rfl, ?t11⟩) (unhide HS).1 ?_
      case t11 => intro w' hS; go_simp
      refine wpAnyH_all (rs := [13]) (by kernel_rfl) (by simp) ?_
      intro jj hjj
      obtain rfl : jj = 13 := by simpa using hjj
      refine wpOp_of_list _ rfl rfl ?_
      go_simp
      refine wpList_store_blk rfl 50 _ _ rfl W.heap.size 50 _ #[.int .i64 A, .int .i64 B, .int .i64 C, .int .i64 D, .slice la s.size lc] rfl rfl xA hsC rfl (by simp [Value.oneCell']) ?_
      go_wp2_with fail
      refine ⟨(unhide HS).2, ⟨by kernel_rfl, ?_⟩⟩
      refine NoPanic.normal ?_
      go_wp2_with fail
      go_meet
      case rel =>
        obtain ⟨ho4, hnil, xC, bC, hlb⟩ := unhide H2
        exact ⟨W.heap.size, _, rfl, Nat.le_refl _, xC, ho4, hnil, (fun e => by have := hlb _ e; omega), bC⟩
  case rest =>
    obtain ⟨cb, lv, rfl, hcb, xC, hown, hnil, hlc, hbx⟩ := hcut
    obtain ⟨X, hX⟩ : ∃ x, x = wc := ⟨_, rfl⟩
    subst hX
    obtain ⟨la, lc, hlv⟩ := own_nil hown
    subst hlv
    have hll := lagS_len s
    have hsrc : LagSrc X (.slice la s.size lc) (lagS s) := src_of_owns (by rw [hll]; exact hown) (fun e => hnil (by rw [← hll]; exact e))
    obtain ⟨bB, xB, zB⟩ := unhide HB
    have hbX : Below w.heap.size w X := bB.trans (hbx.mono bB.size)
    have hLX : Laid X := hgL.below hgL.lt hbX
    have hA := (unhide HL).below hbX
    have xO : Blk X w.heap.size #[.int .i64 K, .int .i64 A, .int .i64 B, .int .i64 C, .int .i64 D, .string s] 32 := (hbx.block _ hxl).trans xB
    have hcX := xC.lt
    have hWX := hbx.size
    by_cases hok : CfgOk A B C D (lagS s)
    · obtain ⟨⟨h1, h2⟩, h3, h4, h5, h6, h7, hlg⟩ := hok
      obtain ⟨pl, rfl⟩ : ∃ x : Nat, A = (x : Int) := ⟨A.toNat, by omega⟩
      obtain ⟨win, rfl⟩ : ∃ x : Nat, B = (x : Int) := ⟨B.toNat, by omega⟩
      obtain ⟨dl, rfl⟩ : ∃ x : Nat, C = (x : Int) := ⟨C.toNat, by omega⟩
      obtain ⟨kd, rfl⟩ : ∃ x : Nat, D = (x : Int) := ⟨D.toNat, by omega⟩
      have hc1 := ppnew_any pl win dl kd (.slice la s.size lc) (lagS s) X hsrc hlg.1 hlg.2 (by omega) (by omega) (by omega) (by omega) (by omega) (by omega) ⟨_, _, _, rfl⟩
      have HLG := hide hlg
      have HH := hide (And.intro hA (And.intro hbX (And.intro hsrc (And.intro hown (And.intro hbx (And.intro xO (And.intro hlc zB)))))))
      have hnat : 2 ≤ pl ∧ pl ≤ 4 ∧ 1 ≤ win ∧ win ≤ 8 ∧ dl ≤ 3 ∧ kd ≤ 1 := by omega
      have HNT := hide hnat
      clear hlg hA hbX hsrc hown hnil hbx bB xB zB hLX xO m1 m2 m3 m4 m5 hlc h1 h2 h3 h4 h5 h6 h7 hnat hll
      go_wp2_with (refine wpList_load_blk rfl 50 _ rfl cb rfl 50 #[.int .i64 (pl : Int), .int .i64 (win : Int), .int .i64 (dl : Int), .int .i64 (kd : Int), .slice la s.size lc] _ xC Tryz.underlying50 rfl hsC ?_)
      refine hc1.mono ?_
      clear hc1
      rintro e w3 ⟨g, pv, pb, F, rfl, hQ3, hF3, hb3⟩
      have x3 : Blk w3 cb #[.int .i64 (pl : Int), .int .i64 (win : Int), .int .i64 (dl : Int), .int .i64 (kd : Int), .slice la s.size lc] 50 := (hb3.block _ hcX).trans xC
      have hc2 := rnew_any pl win dl kd (.slice la s.size lc) (lagS s) w3 ((unhide HH).2.2.1.below hb3) (unhide HLG).1 (unhide HNT).1 (unhide HNT).2.1 (unhide HNT).2.2.1 (unhide HNT).2.2.2.1 (unhide HNT).2.2.2.2.1 (unhide HNT).2.2.2.2.2
      have hz3 := hb3.size
      have H3 := hide (And.intro hQ3 (And.intro hF3 hb3))
      clear hQ3 hF3 hb3 xC
      go_wp2_with (refine wpList_load_blk rfl 50 _ rfl cb rfl 50 #[.int .i64 (pl : Int), .int .i64 (win : Int), .int .i64 (dl : Int), .int .i64 (kd : Int), .slice la s.size lc] _ x3 Tryz.underlying50 rfl hsC ?_)
      refine hc2.mono ?_
      clear hc2
      rintro e w4 ⟨hb4, hcase⟩
      rcases hcase with ⟨hno, _⟩ | ⟨_, nb, ro, rfl, hR4, hro4⟩
      · exact absurd (unhide HLG) hno
      obtain ⟨hQ3, hF3, hb3⟩ := unhide H3
      obtain ⟨hA, hbX, hsrc, hown, hbx, xO, hlc, zB⟩ := unhide HH
      have hB4 : Both w4 g nb (fun k => F k ∨ ro k ≠ .none) (newM pl win dl (lagS s)) := ⟨pv, pb, F, ro, hQ3.below hb4, hR4, fun k hk => Classical.byContradiction fun e => by have := hQ3.lt k hk; have := hro4 k e; omega, fun k => Iff.rfl⟩
      have hf4 : ∀ k, (F k ∨ ro k ≠ .none) → X.heap.size ≤ k := fun k hk => hk.elim (fun e => hF3 k e) (fun e => by have := hro4 k e; omega)
      have b34 : Below X.heap.size X w4 := hb3.trans (hb4.mono hb3.size)
      have x4 : Blk w4 cb #[.int .i64 (pl : Int), .int .i64 (win : Int), .int .i64 (dl : Int), .int .i64 (kd : Int), .slice la s.size lc] 50 := (hb4.block _ (by omega)).trans x3
      have xO4 : Blk w4 w.heap.size #[.int .i64 K, .int .i64 (pl : Int), .int .i64 (win : Int), .int .i64 (dl : Int), .int .i64 (kd : Int), .string s] 32 := (b34.block _ xO.lt).trans xO
      have ho4 : w4.ownsRow W.heap.size 3 1 (.slice la s.size lc) s.size ((lagS s).map (Value.int .i64)) := owns_same hown (fun k hk => b34.block k (hown.lt k hk).2)
      have hlvX : ∀ k, (Value.slice la s.size lc).ownBlock = some k → W.heap.size ≤ k ∧ k < X.heap.size := fun k hk => hown.lt k hk
      have bw4 : Below w.heap.size w w4 := hbX.trans (b34.mono hbX.size)
      have H4 := hide (And.intro hB4 (And.intro hf4 (And.intro x4 (And.intro xO4 (And.intro ho4 (And.intro hlvX (And.intro bw4 hlc)))))))
      have c4 : w4.cell? ⟨cb, 4, none⟩ = some (.slice la s.size lc) := x4.cell 4
      have hwW : w.heap.size < W.heap.size := hxl
      clear hQ3 hF3 hb3 hb4 hR4 hro4 hA hbX hsrc hown hbx xO hlc zB hB4 hf4 b34 x4 xO4 ho4 hlvX bw4 x3
      go_wp2_with fail
      clear c4
      go_loopw [10, 11] (fun s10 s11 wr => ∃ (i : Nat) (xs : List Value), i ≤ s.size ∧ s10 = .bool true ∧ s11 = .int .i64 (i : Int) ∧ Chg (fun k => (Value.slice la s.size lc).ownBlock = some k) w4 wr ∧ wr.ownsRow 0 3 1 (.slice la s.size lc) s.size xs ∧ ∀ j, i ≤ j → j < s.size → xs[j]? = some (.int .i64 ((lagS s).getD j 0))) (fun _ s11 _ => s.size - (intOf s11).toNat)
      case atStart =>
        obtain ⟨hB4, hf4, x4, xO4, ho4, hlvX, bw4, hlc⟩ := unhide H4
        refine ⟨0, _, by omega, rfl, rfl, Chg.refl _ _, owns_base ho4 (Nat.zero_le _), fun j _ hj => ?_⟩
        have hj2 : j < (lagS s).length := by rw [lagS_len]; exact hj
        rw [List.getElem?_map, List.getElem?_eq_getElem hj2, List.getD_eq_getElem?_getD, List.getElem?_eq_getElem hj2]; rfl
      case round =>
        obtain ⟨i, xs, hi, rfl, rfl, hch, hor, hxs⟩ := hrel
        obtain ⟨hB4, hf4, x4, xO4, ho4, hlvX, bw4, hlc⟩ := unhide H4
        have xr : Blk wr cb #[.int .i64 (pl : Int), .int .i64 (win : Int), .int .i64 (dl : Int), .int .i64 (kd : Int), .slice la s.size lc] 50 := x4.chg hch hlc
        have xOr : Blk wr w.heap.size #[.int .i64 K, .int .i64 (pl : Int), .int .i64 (win : Int), .int .i64 (dl : Int), .int .i64 (kd : Int), .string s] 32 := xO4.chg hch (fun e => by have := (hlvX _ e).1; omega)
        have c4 : wr.cell? ⟨cb, 4, none⟩ = some (.slice la s.size lc) := xr.cell 4
        have c5 : wr.cell? ⟨w.heap.size, 5, none⟩ = some (.string s) := xOr.cell 5
        by_cases hlt : i < s.size
        · have hd : decide ((i : Int) < (s.size : Int)) = true := by simp; omega
          have hd2 : decide (i < s.size) = true := by simp; omega
          have hadd := i64_id ((i : Int) + 1) (by omega) (by omega)
          have i0 : (0 : Int) ≤ (i : Int) := by omega
          have i1 : (i : Int) < (s.size : Int) := by omega
          obtain ⟨lb, cap, hv, _, _, _⟩ := own_some hor (by omega)
          injection hv with e1 _ e3
          subst e1
          subst e3
          obtain ⟨x, hx⟩ : ∃ x : Nat, s[i].toNat = x := ⟨_, rfl⟩
          have hx2 : x < 256 := by rw [← hx]; exact s[i].toNat_lt
          have hw1 : IntKind.i64.wrap (x : Int) = (x : Int) := i64_id _ (by omega) (by omega)
          have hw2 : IntKind.i64.wrap ((x : Int) - 1) = (x : Int) - 1 := i64_id _ (by omega) (by omega)
          have ci : wr.cell? ⟨lb, i, none⟩ = some (.int .i64 ((x : Int) - 1)) := by
            rw [hor.cellAt i (by omega), hxs i (Nat.le_refl _) hlt, lagS_get s i hlt, hx]
          have fi : wr.frozen? ⟨lb, i, none⟩ = false := hor.frozenAt i
          have HR := hide (And.intro hch (And.intro hor hxs))
          clear hch hor hxs hB4 hf4 x4 xO4 ho4 hlvX bw4 hlc xr xOr
          go_upto_region 12 with fail
          go_quiet (fail)
          go_wp2_with fail
          go_roundw
          case rel =>
            obtain ⟨hch, hor, hxs⟩ := unhide HR
            have h7 := hor.stored i (.int .i64 7)
            refine ⟨i + 1, _, by omega, rfl, by go_num, ?_, h7.1, fun j hj1 hj2 => ?_⟩
            · exact (hch.trans (Chg.drewN (fun k => (Value.slice (some ⟨lb, 0, none⟩) s.size lc).ownBlock = some k) wr nq) (fun _ _ h => h)).trans (Chg.setCell (F := fun k => (Value.slice (some ⟨lb, 0, none⟩) s.size lc).ownBlock = some k) _ lb i _ rfl) (fun _ _ h => h)
            · rw [List.getElem?_set_ne (by omega)]
              exact hxs j (by omega) hj2
          case measure => simp [intOf]; omega
        · have hd : decide ((i : Int) < (s.size : Int)) = false := by simp; omega
          have hd2 : decide (i < s.size) = false := by simp; omega
          have bwr : Below w.heap.size w wr := bw4.trans (hch.toBelow bw4.size (fun k hk => by have := (hlvX k hk).1; omega))
          have hAr := (unhide HL).below bwr
          have hBr : Both wr g nb (fun k => F k ∨ ro k ≠ .none) (newM pl win dl (lagS s)) := hB4.same (fun k hk => hch.block k (hB4.lt k hk) (fun e => by have := (hlvX k e).2; have := hf4 k hk; omega)) hch.size
          obtain ⟨na, nc, hnv⟩ := own_nil hAr.ns
          subst hnv
          have n0 : wr.cell? ⟨wb, 0, none⟩ = some (.slice na n nc) := hAr.blk.cell 0
          have nf : wr.frozen? ⟨wb, 0, none⟩ = false := hAr.blk.frozen 0
          have hwr := hAr.blk.lt
          obtain ⟨iP, hiP, hzP0, hzP1, hzP2⟩ := info_parts Tryz.infoPair
          have hzp := Tryz.zeroPair
          have bA : Below wr.heap.size wr (wr.alloc (.cells #[.pointer (some ⟨g, 0, none⟩), .pointer (some ⟨nb, 0, none⟩)] 38)) := (Below.refl _ wr).alloc (Nat.le_refl _) _
          have hownA : (wr.alloc (.cells #[.pointer (some ⟨g, 0, none⟩), .pointer (some ⟨nb, 0, none⟩)] 38)).ownsRow 0 38 2 (.slice na n nc) n (pairsC ps n) := hAr.ns.alloc _
          have hnews : ∀ j u, ([.pointer (some ⟨g, 0, none⟩), .pointer (some ⟨nb, 0, none⟩)] : List Value)[j]? = some u → (wr.alloc (.cells #[.pointer (some ⟨g, 0, none⟩), .pointer (some ⟨nb, 0, none⟩)] 38)).cell? ((⟨wr.heap.size, 0, none⟩ : Addr).add j) = some u := fun j u hj => by
            have hb := Blk.new wr #[.pointer (some ⟨g, 0, none⟩), .pointer (some ⟨nb, 0, none⟩)] 38
            rw [Addr.add_mid, Nat.zero_add, hb.cell]
            simpa using hj
          have n0e : (wr.alloc (.cells #[.pointer (some ⟨g, 0, none⟩), .pointer (some ⟨nb, 0, none⟩)] 38)).cell? ⟨wb, 0, none⟩ = some (.slice na n nc) := (bA.cell (p := ⟨wb, 0, none⟩) hwr).trans n0
          have HR := hide (And.intro hAr (And.intro hBr (And.intro bwr (And.intro hf4 bA))))
          have HA := hide (And.intro hownA hnews)
          clear hch hor hxs hB4 hf4 x4 xO4 ho4 hlvX bw4 hlc xr xOr c5 bwr hAr hBr bA hownA hnews
          go_wp2_with (at_builtin; refine wpList_append_own_at (wr.alloc (.cells #[.pointer (some ⟨g, 0, none⟩), .pointer (some ⟨nb, 0, none⟩)] 38)) rfl (.tmp 78) (.tmp 82) 27 rfl 0 38 iP _ 2 16 Tryz.underlying27 hiP hzP0 hzP1 hzP2 rfl (by decide) (.slice na n nc) _ _ rfl (unhide HA).1 ⟨wr.heap.size, 0, none⟩ 1 1 [.pointer (some ⟨g, 0, none⟩), .pointer (some ⟨nb, 0, none⟩)] rfl rfl (unhide HA).2 (by simp [Value.oneCell']) (by unfold maxLen; omega) (by omega) (Nat.zero_le _) ?_)
          intro v' w5 hown5 hg5 hnil5 hloc5
          obtain ⟨hAr, hBr, bwr, hf4, bA⟩ := unhide HR
          obtain ⟨gn, cn, hv5, _, _, _⟩ := own4_some hown5 (by omega)
          subst hv5
          have hold5 : ∀ j, j < wr.heap.size → (Value.slice na n nc).ownBlock ≠ some j → w5.heap[j]? = wr.heap[j]? := fun j hj hne => (hg5.block j (by have := bA.size; omega) (fun e => hne e.symm)).trans (bA.block j hj)
          have hz5 : wr.heap.size ≤ w5.heap.size := Nat.le_trans bA.size hg5.size
          have hwz := bwr.size
          have hno : (Value.slice na n nc).ownBlock ≠ some wb := fun e => by have := hAr.rn wb e; rw [hAr.rb] at this; cases this
          have n5 : w5.cell? ⟨wb, 0, none⟩ = some (.slice na n nc) := (World.cell?_of_block (a := ⟨wb, 0, none⟩) (hold5 _ hwr hno)).trans n0
          have nf5 : w5.frozen? ⟨wb, 0, none⟩ = false := (World.frozen?_of_block (a := ⟨wb, 0, none⟩) (hold5 _ hwr hno)).trans nf
          have hfin := hAr.opened (P := ⟨g, nb, fun k => F k ∨ ro k ≠ .none, newM pl win dl (lagS s)⟩) (B := w.heap.size) hBr (fun k hk => by
            have h8 := hf4 k hk
            refine ⟨by omega, Classical.byContradiction fun e => ?_⟩
            have := (unhide HL).lt k e; omega) (by omega) hwz hown5 hold5 hz5 (hloc5.imp id (fun e => ⟨_, by simp, e⟩))
          have hch5 : Chg (fun k => lo k ≠ .none) w (w5.setCell ⟨wb, 0, none⟩ (.slice (some ⟨gn, 0, none⟩) (n + 1) cn)) := ⟨hg5.os.trans (bA.os.trans bwr.os), hg5.tape.trans (bA.tape.trans bwr.tape), hg5.output.trans (bA.output.trans bwr.output), Nat.le_trans hwz hfin.2.2.2, fun k hk hF => (hfin.2.2.1 k (by omega) (Classical.byContradiction fun e => hF e)).trans (bwr.block k hk)⟩
          have HF := hide (And.intro hfin hch5)
          clear hown5 hg5 hnil5 hloc5 hAr hBr bwr hf4 bA hold5 hz5 hno hfin hch5 n0 nf
          go_wp2
          go_ret
          obtain ⟨hfin, hch5⟩ := unhide HF
          refine ⟨rfl, _, _, n + 1, _, hfin.1, ⟨hch5, fun k hk hne => hfin.2.1 k hk hne⟩, by omega, by omega, fun j hj => ?_, fun j h1 h2 => ?_⟩
          · rw [if_neg (by omega)]; exact Up.refl _
          · rw [if_pos (by omega)]
            exact ⟨pl, (unhide HNT).2.1, Bd.new pl win dl (lagS s)⟩
    · have hc1 := ppnew_no A B C D (.slice la s.size lc) (lagS s) X hLX hsrc (by omega) hok ⟨_, _, _, rfl⟩
      have HH := hide (And.intro hA (And.intro hbX hsrc))
      have HNO := hide hok
      clear hok hA hbX hsrc hown hnil hbx bB xB zB hLX xO m1 m2 m3 m4 m5
      go_wp2_with (refine wpList_load_blk rfl 50 _ rfl cb rfl 50 #[.int .i64 A, .int .i64 B, .int .i64 C, .int .i64 D, .slice la s.size lc] _ xC Tryz.underlying50 rfl hsC ?_)
      refine hc1.mono ?_
      clear hc1
      rintro e w3 ⟨rfl, hb3⟩
      have x3 : Blk w3 cb #[.int .i64 A, .int .i64 B, .int .i64 C, .int .i64 D, .slice la s.size lc] 50 := (hb3.block _ hcX).trans xC
      have hc2 := rnew_no A B C D (.slice la s.size lc) (lagS s) w3 ((unhide HH).2.2.below hb3) (by omega) (unhide HNO)
      have H3 := hide hb3
      clear hb3 xC
      go_wp2_with (refine wpList_load_blk rfl 50 _ rfl cb rfl 50 #[.int .i64 A, .int .i64 B, .int .i64 C, .int .i64 D, .slice la s.size lc] _ x3 Tryz.underlying50 rfl hsC ?_)
      refine hc2.mono ?_
      clear hc2
      rintro e w4 ⟨rfl, hb4⟩
      have H4 := hide hb4
      clear hb4 x3
      go_wp2
      go_ret
      obtain ⟨hA, hbX, hsrc⟩ := unhide HH
      have z1 := hbX.trans ((unhide H3).mono hbX.size)
      have z2 := z1.trans ((unhide H4).mono z1.size)
      exact ⟨rfl, lo, nsv, n, ps, (unhide HL).below z2, LTo.ofBelow z2, Nat.le_refl _, by omega, fun j _ => Up.refl _, fun j h1 h2 => by omega⟩
end Go.Proofs.YtandblanpafjoaaGreatDoor

namespace Go.Proofs.YtandblanpafjoaaGreatDoor
open Go.RowKit Go.Shelf Go.Sort Go.Extern.Stop Go.Stop Go.Extern
theorem sorted_out {m : NetM} (h : Nums m) {ys : List FlyM} (hp : ys.Perm m.flights) (hs : ys.Pairwise fun a b => ¬ before b a) : ys = outM m.flights := by
  refine sorted_unique ys (outM m.flights) ?_ (outM_sorted h) (hp.trans (outM_perm m.flights).symm)
  have hnd : ys.Pairwise fun a b => a ≠ b := by
    have h1 : m.flights.Pairwise fun a b => a ≠ b := h.row.imp (fun {a b} h e => by subst e; omega)
    exact (List.Perm.pairwise_iff (fun {a b} h e => h e.symm) hp).2 h1
  have hmem : ∀ a ∈ ys, a ∈ m.flights := fun a ha => hp.mem_iff.1 ha
  have := hs.and hnd
  refine List.Pairwise.imp_of_mem ?_ this
  intro a b ha hb ⟨h1, h2⟩
  rcases before_total h.row (hmem a ha) (hmem b hb) with e | e | e
  · exact absurd e h2
  · exact e
  · exact absurd e h1
set_option maxHeartbeats 800000 in
theorem nflights_any (g : Nat) (pv : Value) (pb : Nat → Nat) (F : Nat → Prop) (m : NetM) (w : World) (h : NetQ w g pv pb F m) (hs : m.sent ≤ 900000) :
    Calls Tryz.prog 53 #[.pointer (some ⟨g, 0, none⟩)] w fun e w' => ∃ fb cl cc, e = .returned (.slice (some ⟨fb, 0, none⟩) (outM m.flights).length (outM m.flights).length) ∧ w.heap.size ≤ fb ∧ FlAt w' w.heap.size fb cl cc (outM m.flights) (outM m.flights).length ∧ Below w.heap.size w w' := by
  obtain ⟨lv, wv, bl, l, Fp, hN, hF⟩ := h
  have hl : l.length ≤ 1000000 := by
    have := hN.numb.few
    have := hN.perm.length_eq
    omega
  have hcon := wflights_any g pv m.lags m.now m.sent lv wv bl l w hN.wire hl (fun f hf => ⟨(hN.bytes f (hN.perm.mem_iff.1 hf)).1, by have := (hN.fly f (hN.perm.mem_iff.1 hf)).2.1; omega⟩)
  have HN := hide (And.intro hN.numb hN.perm)
  clear hN hF
  go_enter Tryz.func53, Tryz.ntmps53
  go_wp2_with fail
  refine hcon.mono ?_
  clear hcon
  rintro e w2 ⟨fb, cl, cc, ys, rfl, hp, hs2, hfb, hFl, hb⟩
  have hys := sorted_out (unhide HN).1 (hp.trans (unhide HN).2) hs2
  subst hys
  have H := hide (And.intro hfb (And.intro hFl hb))
  clear hp hs2 hfb hFl hb
  go_wp2
  go_ret
  obtain ⟨hfb, hFl, hb⟩ := unhide H
  exact ⟨fb, cl, cc, rfl, hfb, hFl, hb⟩
end Go.Proofs.YtandblanpafjoaaGreatDoor

