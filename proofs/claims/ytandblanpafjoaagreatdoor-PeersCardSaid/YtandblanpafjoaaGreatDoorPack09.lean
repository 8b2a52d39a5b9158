import Derived.Test.YtandblanpafjoaaGreatDoorPack08
import Derived.Test.YtandblanpafjoaaGreatDoorPack04
import Derived.Deep.QuietTactic
import Derived.BigQuiet
import Derived.Test.YtandblanpafjoaaGreatDoorChecked
import Derived.Test.YtandblanpafjoaaGreatDoorPack01
import Derived.Lib.EndianBits
import Derived.Laws.BitsAllLaws
import Derived.Deep.RegionWith
import Derived.RegionTactic
import Derived.Laws.ResultCell
namespace Go.Proofs.YtandblanpafjoaaGreatDoor
open Go.RowKit Go.Extern.Stop Go.Stop Go.Extern
def Z3f : Array Value := #[.int .i64 0, .int .i64 0, .slice none 0 0]
theorem Tryz.sizeFl : (Tryz.prog.info? 91).map (·.size) = some 3 := by kernel_rfl
theorem Tryz.zeroFl (w : World) : (zeroValue 91).run Tryz.prog w = .ok (.agg #[.int .i64 0, .int .i64 0, .slice none 0 0]) w := by kernel_rfl
theorem Tryz.fieldP (a b c d : Value) (w : World) : (Instr.field 126 (.agg #[a, b, c, d]) 0).run Tryz.prog w = .ok (.agg #[a, b, c]) w := by kernel_rfl
def flV (bl : Nat → Nat) (f : FlyM) : Array Value := #[.int .i64 (f.to : Int), .int .i64 (f.due : Int), .slice (some ⟨bl f.num, 0, none⟩) f.bytes.length f.bytes.length]
theorem flV_one (bl : Nat → Nat) (f : FlyM) : (flV bl f).all (·.oneCell') = true := by simp [flV, Value.oneCell']
set_option maxRecDepth 10000 in
set_option maxHeartbeats 1600000 in
theorem come_nil (nb : Nat) (pv : Value) (lags : List Int) (now sent : Nat) (lv wv : Value) (bl : Nat → Nat) (w : World) (h : WireAt w nb pv lags now sent lv wv bl []) :
    Calls Tryz.prog 59 #[.pointer (some ⟨nb, 1, none⟩)] w fun e w' => e = .returned (.tuple #[.agg Z3f, .bool false]) ∧ Below w.heap.size w w' := by
  have hz := Tryz.zeroFl
  have hnl := h.blk.lt
  obtain ⟨ao, c, rfl⟩ := own_nil h.own
  have bB : Below w.heap.size w (w.alloc (.cells Z3f 91)) := (Below.refl _ w).alloc (Nat.le_refl _) _
  have xB : Blk (w.alloc (.cells Z3f 91)) w.heap.size Z3f 91 := Blk.new _ _ _
  have c4 : (w.alloc (.cells Z3f 91)).cell? ⟨nb, 4, none⟩ = some (.slice ao 0 c) := (bB.cell (p := ⟨nb, 4, none⟩) hnl).trans (h.blk.cell 4)
  clear h
  go_enter Tryz.func59, Tryz.ntmps59
  go_wp2_with fail
  rw [show #[Value.int .i64 0, Value.int .i64 0, Value.slice none 0 0] = Z3f from rfl]
  generalize w.alloc (.cells Z3f 91) = W1 at *
  have HX := hide (And.intro bB xB)
  clear bB xB hz
  go_quiet (fail)
  go_wp2_with (refine wpList_store_blk rfl 91 _ _ rfl w.heap.size 91 Z3f Z3f rfl rfl ((unhide HX).2.drewN _) Tryz.sizeFl rfl (by kernel_rfl) ?_)
  refine bodyPost_ret (v := .tuple #[.agg Z3f, .bool false]) ?_ rfl ⟨rfl, ?_⟩
  · rw [results_cell_tmp Tryz.results59]
    exact ret_cell_tmp (((unhide HX).2.drewN _).setRow _) Tryz.underlying91 rfl Tryz.sizeFl
  · exact below_setRow (Go.below_drewN (unhide HX).1 _) (Nat.le_refl _) _
theorem WireAt.qp {w : World} {nb : Nat} {pv : Value} {lags : List Int} {now sent : Nat} {lv wv : Value} {bl : Nat → Nat} {l : List FlyM} (h : WireAt w nb pv lags now sent lv wv bl l) (hl : 0 < l.length) : ∃ g cap, wv = .slice (some ⟨g, 0, none⟩) l.length cap ∧ QP w nb 4 g cap bl l := by
  obtain ⟨g, cap, e, hq⟩ := QAt.ofOwn h.own rfl hl
  refine ⟨g, cap, e, ⟨by rw [h.blk.cell, ← e]; rfl, hq, fun e2 => h.ne (by rw [e, e2]; rfl), h.blk.frozen 4⟩⟩
set_option maxRecDepth 10000 in
set_option maxHeartbeats 1600000 in
theorem come_later (nb n : Nat) (pv : Value) (lags : List Int) (now sent : Nat) (lv wv : Value) (bl : Nat → Nat) (l : List FlyM) (w : World) (h : WireAt w nb pv lags now sent lv wv bl l) (hn : l.length = n + 1) (hd : now < (fl l 0).due) :
    Calls Tryz.prog 59 #[.pointer (some ⟨nb, 1, none⟩)] w fun e w' => e = .returned (.tuple #[.agg Z3f, .bool false]) ∧ Below w.heap.size w w' := by
  have hz := Tryz.zeroFl
  have hnl := h.blk.lt
  obtain ⟨g, cap, rfl, hq⟩ := h.qp (by omega)
  have bB : Below w.heap.size w (w.alloc (.cells Z3f 91)) := (Below.refl _ w).alloc (Nat.le_refl _) _
  have xB : Blk (w.alloc (.cells Z3f 91)) w.heap.size Z3f 91 := Blk.new _ _ _
  have c4 : (w.alloc (.cells Z3f 91)).cell? ⟨nb, 4, none⟩ = some (.slice (some ⟨g, 0, none⟩) (n + 1) cap) := by rw [← hn]; exact (bB.cell (p := ⟨nb, 4, none⟩) hnl).trans (h.blk.cell 4)
  have c2 : (w.alloc (.cells Z3f 91)).cell? ⟨nb, 2, none⟩ = some (.int .i64 (now : Int)) := (bB.cell (p := ⟨nb, 2, none⟩) hnl).trans (h.blk.cell 2)
  have a1 : (w.alloc (.cells Z3f 91)).cell? ⟨g, 1, none⟩ = some (.int .i64 ((fl l 0).due : Int)) := (bB.cell (p := ⟨g, 1, none⟩) hq.q.lt).trans (by have := hq.q.cell 0 1 (by omega) (by omega); simp only [Nat.zero_mul, Nat.zero_add] at this; exact this)
  have d0 : ((n : Int) + 1 == 0) = false := by rw [beq_eq_false_iff_ne]; omega
  have i0 : (0 : Int) < (n : Int) + 1 := by omega
  have d1 : decide (now < (fl l 0).due) = true := by simp [hd]
  generalize (fl l 0).due = due at *
  clear h hq hd
  go_enter Tryz.func59, Tryz.ntmps59
  go_wp2_with fail
  rw [show #[Value.int .i64 0, Value.int .i64 0, Value.slice none 0 0] = Z3f from rfl]
  generalize w.alloc (.cells Z3f 91) = W1 at *
  have HX := hide (And.intro bB xB)
  clear bB xB hz
  go_quiet (fail)
  go_wp2_with (refine wpList_store_blk rfl 91 _ _ rfl w.heap.size 91 Z3f Z3f rfl rfl ((unhide HX).2.drewN _) Tryz.sizeFl rfl (by kernel_rfl) ?_)
  refine bodyPost_ret (v := .tuple #[.agg Z3f, .bool false]) ?_ rfl ⟨rfl, ?_⟩
  · rw [results_cell_tmp Tryz.results59]
    exact ret_cell_tmp (((unhide HX).2.drewN _).setRow _) Tryz.underlying91 rfl Tryz.sizeFl
  · exact below_setRow (Go.below_drewN (unhide HX).1 _) (Nat.le_refl _) _
set_option maxRecDepth 10000 in
set_option maxHeartbeats 1600000 in
theorem come_some (nb n : Nat) (pv : Value) (lags : List Int) (now sent : Nat) (lv wv : Value) (bl : Nat → Nat) (l : List FlyM) (w : World) (h : WireAt w nb pv lags now sent lv wv bl l) (hn : l.length = n + 1) (hlen : n + 1 ≤ 1000000) (hd : (fl l 0).due ≤ now) :
    Calls Tryz.prog 59 #[.pointer (some ⟨nb, 1, none⟩)] w fun e w' => e = .returned (.tuple #[.agg (flV bl (fl l 0)), .bool true]) ∧ ∃ wv', WireAt w' nb pv lags now sent lv wv' bl (popL l) ∧ Chg (fun k => k = nb ∨ wv.ownBlock = some k) w w' ∧ wv'.ownBlock = wv.ownBlock := by
  have hz := Tryz.zeroFl
  have hnl := h.blk.lt
  have HW := hide h
  obtain ⟨g, cap, rfl, hq⟩ := h.qp (by omega)
  have bB : Below w.heap.size w (w.alloc (.cells Z3f 91)) := (Below.refl _ w).alloc (Nat.le_refl _) _
  have xB : Blk (w.alloc (.cells Z3f 91)) w.heap.size Z3f 91 := Blk.new _ _ _
  have c4 : (w.alloc (.cells Z3f 91)).cell? ⟨nb, 4, none⟩ = some (.slice (some ⟨g, 0, none⟩) (n + 1) cap) := by rw [← hn]; exact (bB.cell (p := ⟨nb, 4, none⟩) hnl).trans (h.blk.cell 4)
  have c2 : (w.alloc (.cells Z3f 91)).cell? ⟨nb, 2, none⟩ = some (.int .i64 (now : Int)) := (bB.cell (p := ⟨nb, 2, none⟩) hnl).trans (h.blk.cell 2)
  have a1 : (w.alloc (.cells Z3f 91)).cell? ⟨g, 1, none⟩ = some (.int .i64 ((fl l 0).due : Int)) := (bB.cell (p := ⟨g, 1, none⟩) hq.q.lt).trans (by have := hq.q.cell 0 1 (by omega) (by omega); simp only [Nat.zero_mul, Nat.zero_add] at this; exact this)
  have d0 : ((n : Int) + 1 == 0) = false := by rw [beq_eq_false_iff_ne]; omega
  have i0 : (0 : Int) < (n : Int) + 1 := by omega
  have d1 : decide (now < (fl l 0).due) = false := by simp; omega
  have HQ := hide hq
  clear h hq hd
  go_enter Tryz.func59, Tryz.ntmps59
  go_wp2_with fail
  rw [show #[Value.int .i64 0, Value.int .i64 0, Value.slice none 0 0] = Z3f from rfl]
  generalize w.alloc (.cells Z3f 91) = W1 at *
  have HX := hide (And.intro bB xB)
  clear bB xB hz
  go_quiet (fail)
  clear c4 c2 a1 d1
  go_wp2_with fail
  have Q1 : QP (W1.drewN nq) nb 4 g cap bl l := (unhide HQ).below (Go.below_drewN (unhide HX).1 nq)
  have B1 : Blk (W1.drewN nq) nb #[pv, lv, .int .i64 (now : Int), .int .i64 (sent : Int), .slice (some ⟨g, 0, none⟩) l.length cap] 66 := ((unhide HX).1.block nb hnl).trans (unhide HW).blk
  refine (hpop_any nb 4 g cap n bl l _ _ (W1.drewN nq) B1 Q1 hn hlen).mono ?_
  clear Q1 B1
  rintro e w3 ⟨rfl, hq3, hC3, hB3⟩
  have hta := Tryz.assertP (.agg (pcl bl (fl l 0)).toArray)
  have hgl := (unhide HQ).q.lt
  have x3 : Blk w3 w.heap.size Z3f 91 := ((unhide HX).2.drewN nq).chg hC3 (fun e => by
    rcases e with e | e
    · omega
    · omega)
  have H3 := hide (And.intro hq3 (And.intro hC3 (And.intro hB3 x3)))
  clear hq3 hC3 hB3 x3
  unfold pcl at hta ⊢
  have hfd := Tryz.fieldP (.int .i64 ((fl l 0).to : Int)) (.int .i64 ((fl l 0).due : Int)) (.slice (some ⟨bl (fl l 0).num, 0, none⟩) (fl l 0).bytes.length (fl l 0).bytes.length) (.int .i64 ((fl l 0).num : Int))
  go_wp2_with (refine wpList_store_blk rfl 91 _ _ rfl w.heap.size 91 Z3f (flV bl (fl l 0)) rfl rfl (unhide H3).2.2.2 Tryz.sizeFl rfl (flV_one _ _) ?_)
  obtain ⟨hq3, hC3, hB3, x3⟩ := unhide H3
  have hne := (unhide HQ).ne
  have hW := unhide HW
  have hpl : (popL l).length = n := by
    have := (popL_perm l (by omega)).length_eq
    simp only [List.length_cons] at this
    omega
  have hz3 := (unhide HX).1.size
  have hlv : ∀ k, lv.ownBlock = some k → k ≠ w.heap.size := fun k hk e => by have := (hW.lag.lt k hk).2; omega
  refine bodyPost_ret (v := .tuple #[.agg (flV bl (fl l 0)), .bool true]) ?_ rfl ⟨rfl, .slice (some ⟨g, 0, none⟩) n cap, ⟨?_, ?_, ?_, ?_, hW.lne, ?_⟩, ?_, rfl⟩
  · rw [results_cell_tmp Tryz.results59]
    exact ret_cell_tmp (x3.setRow _) Tryz.underlying91 rfl Tryz.sizeFl
  · exact hB3.setRowOther w.heap.size _ (by omega)
  · have := hq3.own
    rw [hpl] at this ⊢
    refine owns_same this (fun k hk => ?_)
    injection hk with hk
    exact setRow_other _ _ _ _ (by have : g = k := hk; have := (unhide HQ).q.lt; omega)
  · intro e; injection e with e; exact hne e.symm
  · refine owns_same hW.lag (fun k hk => ?_)
    have hkl := (hW.lag.lt k hk).2
    rw [setRow_other _ _ _ _ (by omega)]
    refine (hC3.block k (by show k < W1.heap.size; omega) ?_).trans ((unhide HX).1.block k hkl)
    rintro (e | e)
    · exact hW.lne (by rw [hk, e])
    · exact hW.apart k hk (by rw [e]; rfl)
  · intro k hk e; exact hW.apart k hk e
  · have hC1 : Chg (fun k => k = nb ∨ (Value.slice (some ⟨g, 0, none⟩) l.length cap).ownBlock = some k) w w3 := (Chg.ofBelow (Go.below_drewN (unhide HX).1 nq)).trans hC3 (fun k _ e => e.imp id (fun e => by rw [e]; rfl))
    exact hC1.trans (Chg.ofGrown (F := fun k => k = w.heap.size) (grown_setRow _ _ _) rfl) (fun k hk e => absurd hk (by have : k = w.heap.size := e; omega))
end Go.Proofs.YtandblanpafjoaaGreatDoor

namespace Go.Proofs.YtandblanpafjoaaGreatDoor
open Go.RowKit Go.Extern.Stop Go.Stop Go.Extern
/-- A step of FNV, in the walk's own words. -/
def fstep (v x : Int) : Int := bits .xor .u32 v (x % 4294967296) * 16777619 % 4294967296
def fnvL (l : List Int) : Int := l.foldl fstep 2166136261
theorem fnvL_snoc (l : List Int) (k : Nat) (h : k < l.length) : fnvL (l.take (k + 1)) = fstep (fnvL (l.take k)) l[k] := by
  unfold fnvL
  rw [List.take_succ_eq_append_getElem h, List.foldl_append]; rfl
theorem fnvL_range (l : List Int) : 0 ≤ fnvL l ∧ fnvL l ≤ 4294967295 := by
  unfold fnvL
  rcases List.eq_nil_or_concat l with rfl | ⟨r, x, rfl⟩
  · decide
  · rw [List.concat_eq_append, List.foldl_append]
    simp only [List.foldl_cons, List.foldl_nil, fstep]
    omega
set_option maxHeartbeats 400000 in
theorem gfnv_any (b off n c : Nat) (l : List Int) (w : World) (hl : l.length = n) (hn : n ≤ 1000)
    (hc : ∀ j, j < n → w.cell? ⟨b, off + j, none⟩ = some (.int .u8 (l.getD j 0))) (hr : ∀ j : Nat, 0 ≤ l.getD j 0 ∧ l.getD j 0 ≤ 255) :
    Calls Tryz.prog 131 #[.slice (some ⟨b, off, none⟩) n c] w fun e w' => e = .returned (.int .u32 (fnvL l)) ∧ w' = w := by
  go_enter Tryz.func131, Tryz.ntmps131
  go_wp2
  go_loop [3, 8] (fun v i => ∃ k : Nat, k ≤ n ∧ i = .int .i64 k ∧ v = .int .u32 (fnvL (l.take k))) (fun _ i => n - (intOf i).toNat)
  case atStart => exact ⟨0, Nat.zero_le _, rfl, rfl⟩
  case round =>
    obtain ⟨k, hk, rfl, rfl⟩ := hrel
    by_cases hlt : k < n
    · have hcell := hc k hlt
      have hrk := hr k
      have hs := hide (fnvL_snoc l k (by omega))
      go_wp2
      go_round
      case rel => exact ⟨k + 1, by omega, by go_num, int_eq (unhide hs).symm⟩
      case measure => simp [intOf]; omega
    · go_wp2
      go_ret
      exact ⟨ret_int (by rw [List.take_of_length_le (by omega)]), rfl⟩
end Go.Proofs.YtandblanpafjoaaGreatDoor

namespace Go.Proofs.YtandblanpafjoaaGreatDoor
open Go.RowKit Go.Extern.Stop Go.Stop Go.Extern
theorem or_pair (a b : Int) (ha0 : 0 ≤ a) (ha1 : a ≤ 4294967295) (hb0 : 0 ≤ b) (hb1 : b ≤ 4294967295) : bits .or .u64 (a * 4294967296) b = a * 4294967296 + b := by
  rw [u64_or _ _ (by omega) (by omega) hb0 (by omega), Nat.or_comm, ← u64_or _ _ hb0 (by omega) (by omega) (by omega)]
  rw [u64_or32 _ _ hb0 (by omega) (by omega) (by omega) (by omega)]
  omega
def bytes4 (v : Int) : List Int := [v / 16777216, v / 65536 % 256, v / 256 % 256, v % 256]
def joinI (a b : Int) : Int := fnvL (bytes4 a ++ bytes4 b)
theorem joinI_range (a b : Int) : 0 ≤ joinI a b ∧ joinI a b ≤ 4294967295 := fnvL_range _
def bytes8 (p : Int) : List Int := [p / 72057594037927936 % 256, p / 281474976710656 % 256, p / 1099511627776 % 256, p / 4294967296 % 256, p / 16777216 % 256, p / 65536 % 256, p / 256 % 256, p % 256]
theorem bytes8_pair (a b : Int) (ha0 : 0 ≤ a) (ha1 : a ≤ 4294967295) (hb0 : 0 ≤ b) (hb1 : b ≤ 4294967295) : bytes8 (a * 4294967296 + b) = bytes4 a ++ bytes4 b := by
  simp only [bytes8, bytes4, List.cons_append, List.nil_append, List.cons.injEq, and_true]
  refine ⟨?_, ?_, ?_, ?_, ?_, ?_, ?_, ?_⟩ <;> omega
theorem bytes8_range (p : Int) (j : Nat) : 0 ≤ (bytes8 p).getD j 0 ∧ (bytes8 p).getD j 0 ≤ 255 := by
  unfold bytes8
  match j with
  | 0 | 1 | 2 | 3 | 4 | 5 | 6 | 7 => simp; omega
  | n + 8 => simp
set_option maxHeartbeats 400000 in
theorem joined_any (a b : Int) (w : World) (ha : 0 ≤ a ∧ a ≤ 4294967295) (hb : 0 ≤ b ∧ b ≤ 4294967295) :
    Calls Tryz.prog 132 #[.int .u32 a, .int .u32 b] w fun e w' => e = .returned (.int .u32 (joinI a b)) ∧ Below w.heap.size w w' := by
  obtain ⟨ha0, ha1⟩ := ha
  obtain ⟨hb0, hb1⟩ := hb
  have hp := or_pair a b ha0 ha1 hb0 hb1
  go_enter Tryz.func132, Tryz.ntmps132
  go_wp2
  have hp0 : 0 ≤ a * 4294967296 + b := by omega
  generalize hq : a * 4294967296 + b = p at *
  have HQ := hide hq
  clear hq hp
  refine wp_loop_rounds 9 ?_
  iterate 9 (rw [rounds_succ]; go_wp2_with fail)
  refine (gfnv_any _ 0 8 8 (bytes8 p) _ rfl (by omega) ?_ (bytes8_range p)).mono ?_
  · intro j hj
    match j, hj with
    | 0, _ | 1, _ | 2, _ | 3, _ | 4, _ | 5, _ | 6, _ | 7, _ => simp [bytes8]
    | n + 8, h => omega
  rintro e w' ⟨rfl, rfl⟩
  go_wp2
  go_ret
  exact ⟨ret_int (by rw [← unhide HQ, bytes8_pair a b ha0 ha1 hb0 hb1]; rfl), (Below.refl _ _).alloc (Nat.le_refl _) _⟩
end Go.Proofs.YtandblanpafjoaaGreatDoor

namespace Go.Proofs.YtandblanpafjoaaGreatDoor
open Go.RowKit Go.Extern.Stop Go.Stop Go.Extern
def pageL (l : List Int) (k : Nat) : List Int := (l.drop (16 * k)).take 16
def leaf (l : List Int) (i : Nat) : Int := fnvL (pageL l i)
def lev (l : List Int) : Nat → Nat → Int
  | 0, i => if i < 18 then leaf l i else 0
  | r + 1, i => joinI (lev l r (2 * i)) (lev l r (2 * i + 1))
def digL (l : List Int) : Int := lev l 5 0
theorem lev_range (l : List Int) (r i : Nat) : 0 ≤ lev l r i ∧ lev l r i ≤ 4294967295 := by
  cases r with
  | zero =>
    unfold lev
    split
    · exact fnvL_range _
    · omega
  | succ r => exact joinI_range _ _
def lv0 (l : List Int) (k : Nat) : List Int := (List.range 32).map fun i => if i < k then leaf l i else 0
theorem lv0_len (l : List Int) (k : Nat) : (lv0 l k).length = 32 := by simp [lv0]
theorem lv0_succ (l : List Int) (k : Nat) (_hk : k < 18) : lv0 l (k + 1) = (lv0 l k).set k (leaf l k) := by
  apply List.ext_getElem?
  intro i
  by_cases hi : i < 32
  · by_cases h : k = i
    · subst h; simp [lv0, hi]
    · rw [List.getElem?_set_ne h]
      simp only [lv0, List.getElem?_map, List.getElem?_range hi, Option.map_some]
      by_cases h2 : i < k
      · rw [if_pos (by omega), if_pos h2]
      · rw [if_neg (by omega), if_neg h2]
  · rw [List.getElem?_eq_none (by simp [lv0]; omega), List.getElem?_eq_none (by simp [lv0]; omega)]
theorem lv0_get (l : List Int) (j : Nat) (hj : j < 32) : (lv0 l 18).getD j 0 = lev l 0 j := by
  simp [lv0, lev, hj]
theorem lv0_range (l : List Int) (j : Nat) : 0 ≤ (lv0 l 18).getD j 0 ∧ (lv0 l 18).getD j 0 ≤ 4294967295 := by
  by_cases hj : j < 32
  · rw [lv0_get l j hj]; exact lev_range l 0 j
  · rw [List.getD_eq_getElem?_getD, List.getElem?_eq_none (by rw [lv0_len]; omega)]; simp
theorem lv0_zero (l : List Int) : nums .u32 (lv0 l 0) = #[.int .u32 0, .int .u32 0, .int .u32 0, .int .u32 0, .int .u32 0, .int .u32 0, .int .u32 0, .int .u32 0, .int .u32 0, .int .u32 0, .int .u32 0, .int .u32 0, .int .u32 0, .int .u32 0, .int .u32 0, .int .u32 0, .int .u32 0, .int .u32 0, .int .u32 0, .int .u32 0, .int .u32 0, .int .u32 0, .int .u32 0, .int .u32 0, .int .u32 0, .int .u32 0, .int .u32 0, .int .u32 0, .int .u32 0, .int .u32 0, .int .u32 0, .int .u32 0] := rfl
theorem pageL_len (l : List Int) (k : Nat) (hl : l.length = 288) (hk : k < 18) : (pageL l k).length = 16 := by simp [pageL]; omega
theorem pageL_get (l : List Int) (k j : Nat) (hj : j < 16) : (pageL l k).getD j 0 = l.getD (16 * k + j) 0 := by
  simp [pageL, hj, List.getElem?_drop]
theorem pageL_range (l : List Int) (k : Nat) (hr : ∀ j : Nat, 0 ≤ l.getD j 0 ∧ l.getD j 0 ≤ 255) (j : Nat) : 0 ≤ (pageL l k).getD j 0 ∧ (pageL l k).getD j 0 ≤ 255 := by
  by_cases hj : j < 16
  · have : (pageL l k).getD j 0 = l.getD (16 * k + j) 0 := by
      simp [pageL, hj, List.getElem?_drop]
    rw [this]; exact hr _
  · have : (pageL l k).getD j 0 = 0 := by
      simp [pageL, List.getElem?_take, hj]
    rw [this]; omega
theorem getD_set_ne (lw : List Int) (k j : Nat) (v : Int) (h : k ≠ j) : (lw.set k v).getD j 0 = lw.getD j 0 := by
  simp [List.getElem?_set_ne h]
theorem getD_set_eq (lw : List Int) (k : Nat) (v : Int) (h : k < lw.length) : (lw.set k v).getD k 0 = v := by
  simp [h]
theorem inner_step (l lw : List Int) (r k M : Nat) (hlen : lw.length = 32) (hk : k < M) (hM : M ≤ 16) (hnew : ∀ j, j < k → lw.getD j 0 = lev l (r + 1) j) (hold : ∀ j, k ≤ j → j < 2 * M → lw.getD j 0 = lev l r j)
    (hrg : ∀ j : Nat, 0 ≤ lw.getD j 0 ∧ lw.getD j 0 ≤ 4294967295) :
    (lw.set k (joinI (lw.getD (2 * k) 0) (lw.getD (2 * k + 1) 0))).length = 32 ∧ (∀ j, j < k + 1 → (lw.set k (joinI (lw.getD (2 * k) 0) (lw.getD (2 * k + 1) 0))).getD j 0 = lev l (r + 1) j) ∧
    (∀ j, k + 1 ≤ j → j < 2 * M → (lw.set k (joinI (lw.getD (2 * k) 0) (lw.getD (2 * k + 1) 0))).getD j 0 = lev l r j) ∧
    (∀ j : Nat, 0 ≤ (lw.set k (joinI (lw.getD (2 * k) 0) (lw.getD (2 * k + 1) 0))).getD j 0 ∧ (lw.set k (joinI (lw.getD (2 * k) 0) (lw.getD (2 * k + 1) 0))).getD j 0 ≤ 4294967295) := by
  refine ⟨by rw [List.length_set]; exact hlen, fun j hj => ?_, fun j h1 h2 => ?_, fun j => ?_⟩
  · by_cases h : k = j
    · subst h
      rw [getD_set_eq _ _ _ (by omega), hold (2 * k) (by omega) (by omega), hold (2 * k + 1) (by omega) (by omega)]; rfl
    · rw [getD_set_ne _ _ _ _ h]; exact hnew j (by omega)
  · rw [getD_set_ne _ _ _ _ (by omega)]; exact hold j (by omega) h2
  · by_cases h : k = j
    · subst h
      rw [getD_set_eq _ _ _ (by omega)]; exact joinI_range _ _
    · rw [getD_set_ne _ _ _ _ h]; exact hrg j
set_option maxRecDepth 100000 in
set_option maxHeartbeats 400000 in
theorem gdigest_any (l : List Int) (w : World) (hl : l.length = 288) (hr : ∀ j : Nat, 0 ≤ l.getD j 0 ∧ l.getD j 0 ≤ 255) :
    Calls Tryz.prog 118 #[.agg (nums .u8 l)] w fun e w' => e = .returned (.int .u32 (digL l)) ∧ Below w.heap.size w w' := by
  have HI : Hid ((Tryz.prog.info? 209).map (·.size) = some (nums .u8 l).size) := by rw [nums_size, hl]; exact hide (by kernel_rfl)
  go_enter Tryz.func118, Tryz.ntmps118
  go_wp2_with (refine wpList_load_row rfl 209 _ rfl w.heap.size rfl 209 (nums .u8 l) (0, 0) _ (heap_alloc2_old _ _ _) Tryz.underlying209 rfl (unhide HI) ?_)
  go_loopw [9] (fun i wr => ∃ k : Nat, k ≤ 18 ∧ i = .int .i64 k ∧ Below w.heap.size w wr ∧ w.heap.size + 2 ≤ wr.heap.size ∧ Blk wr (w.heap.size + 1) (nums .u32 (lv0 l k)) 243) (fun i _ => 18 - (intOf i).toNat)
  case atStart => exact ⟨0, by omega, rfl, ((Below.refl _ _).alloc (Nat.le_refl _) _).alloc (by simp) _, by simp, by rw [lv0_zero]; exact heap_alloc2_new _ _ _⟩
  case round =>
    obtain ⟨k, hk, rfl, hb, hz, hblk⟩ := hrel
    by_cases hlt : k < 18
    · have hlen := pageL_len l k hl hlt
      have hix : ∀ w, (Instr.index 209 (.agg (nums .u8 l)) (.int .i64 (k : Int))).run Tryz.prog w = .ok (.agg (nums .u8 (pageL l k))) w := fun w => by
        rw [run_index_part w 209 207 18 16 _ _ k Tryz.underlying209 Tryz.underlying207 rfl (by kernel_rfl) hlt, nums_extract, show k * 16 + 16 - k * 16 = 16 by omega, Nat.mul_comm k 16]; rfl
      have HI2 : Hid ((Tryz.prog.info? 207).map (·.size) = some (nums .u8 (pageL l k)).size) := by rw [nums_size, hlen]; exact hide (by kernel_rfl)
      have HS2 : Hid ((nums .u8 (List.replicate 16 0)).size = (nums .u8 (pageL l k)).size) := by rw [nums_size, nums_size, hlen]; exact hide rfl
      have hce : ∀ o, (wr.alloc o).cell? ⟨w.heap.size + 1, k, none⟩ = some (.int .u32 ((lv0 l k).getD k 0)) := fun o => (hblk.alloc o).num k (by rw [lv0_len]; omega)
      have hfe : ∀ o, (wr.alloc o).frozen? ⟨w.heap.size + 1, k, none⟩ = false := fun o => (hblk.alloc o).frozen k
      have HB := hide hblk
      have HR := hide hr
      clear hblk hr
      go_wp2_with (first | (refine wpList_store_new rfl 207 _ _ rfl (nums .u8 (List.replicate 16 0)) (nums .u8 (pageL l k)) rfl rfl (unhide HI2) (unhide HS2) (nums_one _ _) ?_))
      refine (gfnv_any _ 0 16 16 (pageL l k) _ hlen (by omega) ?_ (pageL_range l k (unhide HR))).mono ?_
      · intro j hj
        rw [Nat.zero_add]
        exact (Blk.new wr _ _).num j (by omega)
      rintro e w' ⟨rfl, rfl⟩
      go_wp2_with fail
      go_roundw
      case rel =>
        refine ⟨k + 1, by omega, by go_num, (hb.alloc (by omega) _).setCell (by simp) _, by simp; omega, ?_⟩
        rw [lv0_succ l k hlt]
        exact ((unhide HB).alloc _).put k _
      case measure => simp [intOf]; omega
    · have HK : Hid (k = 18) := hide (by omega)
      have hdk : decide ((k : Int) < 18) = false := by simp; omega
      go_wp2_with fail
      go_loopw [6] (fun n w2 => ∃ (r : Nat) (lv : List Int), r ≤ 5 ∧ n = .int .i64 ((2 ^ (5 - r) : Nat) : Int) ∧ lv.length = 32 ∧ (∀ j, j < 2 ^ (5 - r) → lv.getD j 0 = lev l r j) ∧ (∀ j : Nat, 0 ≤ lv.getD j 0 ∧ lv.getD j 0 ≤ 4294967295) ∧ Below w.heap.size w w2 ∧ w.heap.size + 2 ≤ w2.heap.size ∧ Blk w2 (w.heap.size + 1) (nums .u32 lv) 243) (fun n _ => (intOf n).toNat)
      case atStart => exact ⟨0, lv0 l 18, by omega, rfl, lv0_len _ _, fun j hj => lv0_get l j hj, lv0_range l, hb, hz, by rw [unhide HK] at hblk; exact hblk⟩
      case round =>
        clear hb hz hblk hr hl HI
        obtain ⟨r, lv, hr5, rfl, hlen, hlv, hrg, hb, hz, hblk⟩ := hrel
        by_cases hr4 : r < 5
        · have hpow : 2 ^ (5 - r) = 2 * 2 ^ (4 - r) := by rw [show 5 - r = (4 - r) + 1 by omega, Nat.pow_succ]; omega
          have hM0 : 1 ≤ 2 ^ (4 - r) := Nat.one_le_two_pow
          have hM1 : 2 ^ (4 - r) ≤ 16 := by
            have : 2 ^ (4 - r) ≤ 2 ^ 4 := Nat.pow_le_pow_right (by omega) (by omega)
            simpa using this
          have hM2 : 2 ^ (5 - (r + 1)) = 2 ^ (4 - r) := by rw [show 5 - (r + 1) = 4 - r by omega]
          rw [hpow] at hlv
          rw [show ((2 ^ (5 - r) : Nat) : Int) = 2 * ((2 ^ (4 - r) : Nat) : Int) by omega]
          have HM := hide hM2
          clear hpow hM2
          generalize 2 ^ (4 - r) = M at *
          have hgt : (1 : Int) < 2 * (M : Int) := by omega
          have HLV := hide hlv
          have HRG := hide hrg
          have HB := hide hblk
          clear hlv hrg hblk
          have hdec : decide ((1 : Int) < 2 * (M : Int)) = true := by simp; omega
          go_wp2_with fail
          go_loopw [24] (fun i w3 => ∃ (k : Nat) (lw : List Int), k ≤ M ∧ i = .int .i64 k ∧ lw.length = 32 ∧ (∀ j, j < k → lw.getD j 0 = lev l (r + 1) j) ∧ (∀ j, k ≤ j → j < 2 * M → lw.getD j 0 = lev l r j) ∧ (∀ j : Nat, 0 ≤ lw.getD j 0 ∧ lw.getD j 0 ≤ 4294967295) ∧ Below w.heap.size w w3 ∧ w.heap.size + 2 ≤ w3.heap.size ∧ Blk w3 (w.heap.size + 1) (nums .u32 lw) 243) (fun i _ => M - (intOf i).toNat)
          case atStart => exact ⟨0, lv, by omega, rfl, hlen, fun j hj => absurd hj (by omega), fun j _ hj => unhide HLV j hj, unhide HRG, hb, hz, unhide HB⟩
          case round =>
            clear HLV HRG HB hb hz hlen
            obtain ⟨k, lw, hkM, rfl, hlen, hnew, hold, hrg, hb, hz, hblk⟩ := hrel
            by_cases hlt : k < M
            · have hi1 : (0 : Int) ≤ 2 * (k : Int) := by omega
              have hi2 : 2 * (k : Int) < 32 := by omega
              have hi3 : 2 * (k : Int) + 1 < 32 := by omega
              have hi4 : (k : Int) < 32 := by omega
              have hw2 := i64_id (2 * (k : Int)) (by omega) (by omega)
              have hw3 := i64_id (2 * (k : Int) + 1) (by omega) (by omega)
              have ht2 : (2 * (k : Int)).toNat = 2 * k := by omega
              have ht3 : (2 * (k : Int) + 1).toNat = 2 * k + 1 := by omega
              have hi5 : (0 : Int) ≤ 2 * (k : Int) + 1 := by omega
              have hc0 : wr.cell? ⟨w.heap.size + 1, 2 * k, none⟩ = some (.int .u32 (lw.getD (2 * k) 0)) := hblk.num _ (by omega)
              have hc1 : wr.cell? ⟨w.heap.size + 1, 2 * k + 1, none⟩ = some (.int .u32 (lw.getD (2 * k + 1) 0)) := hblk.num _ (by omega)
              have HN := hide hnew
              have HO := hide hold
              have HRG := hide hrg
              have HB := hide hblk
              clear hnew hold hrg hblk
              go_wp2_with fail
              go_region_with (go_at_call 132; refine (joined_any _ _ _ (unhide HRG (2 * k)) (unhide HRG (2 * k + 1))).mono ?_; rintro e w1 ⟨rfl, hb1⟩; have hb2 := (unhide HB).drew.below (B := wr.drew.heap.size) (by simp; omega) hb1; have hf2 := hb2.frozen k; have hc2 := hb2.num k (by omega))
              all_goals
                go_wp2_with fail
                go_roundw
                case rel =>
                  obtain ⟨s1, s2, s3, s4⟩ := inner_step l lw r k M hlen hlt hM1 (unhide HN) (unhide HO) (unhide HRG)
                  have hz1 := hb1.size
                  simp only [World.size_drew] at hz1
                  exact ⟨k + 1, _, by omega, by go_num, s1, s2, s3, s4, ((hb.drew).trans (hb1.mono (by simp; omega))).setCell (by simp) _, by simp; omega, hb2.put k _⟩
                case measure => simp [intOf]; omega
            · have HK2 : Hid (k = M) := hide (by omega)
              have hdk2 : decide ((k : Int) < (M : Int)) = false := by simp; omega
              go_wp2_with fail
              go_roundw
              case rel =>
                refine ⟨r + 1, lw, by omega, ?_, hlen, fun j hj => hnew j (by rw [unhide HM] at hj; rw [unhide HK2]; exact hj), hrg, hb, hz, hblk⟩
                rw [unhide HM]
              case measure => simp [intOf]; omega
        · have hr5' : r = 5 := by omega
          subst hr5'
          have hc0 : wr.cell? ⟨w.heap.size + 1, 0, none⟩ = some (.int .u32 (digL l)) := by
            rw [hblk.num 0 (by omega), hlv 0 (by decide)]; rfl
          clear hlv hrg hblk
          go_wp2
          go_ret
          exact ⟨rfl, hb⟩
end Go.Proofs.YtandblanpafjoaaGreatDoor

namespace Go.Proofs.YtandblanpafjoaaGreatDoor
open Go.RowKit Go.Extern.Stop Go.Stop Go.Extern
def Z288 : List Int := List.replicate 288 0
theorem Z288_len : Z288.length = 288 := List.length_replicate
theorem Tryz.infoMem : (Tryz.prog.info? 209).map (fun i => (i.zero, i.size)) = some (some (.agg (nums .u8 Z288)), 288) := by kernel_rfl
theorem Tryz.zeroMem (w : World) : (zeroValue 209).run Tryz.prog w = .ok (.agg (nums .u8 Z288)) w := (zero_of_info Tryz.infoMem).1 w
theorem Tryz.sizeMem (l : List Int) (hl : l.length = 288) : (Tryz.prog.info? 209).map (·.size) = some (nums .u8 l).size := by
  rw [nums_size, hl]; exact (zero_of_info Tryz.infoMem).2
def memTo (l : List Int) (k : Nat) : List Int := l.take (16 * k) ++ List.replicate (288 - 16 * k) 0
theorem memTo_len (l : List Int) (k : Nat) (hl : l.length = 288) (hk : k ≤ 18) : (memTo l k).length = 288 := by simp [memTo, hl]; omega
theorem memTo_zero (l : List Int) : memTo l 0 = Z288 := by rw [memTo, Nat.mul_zero, List.take_zero, List.nil_append]; rfl
theorem memTo_all (l : List Int) (hl : l.length = 288) : memTo l 18 = l := by simp [memTo, List.take_of_length_le (show l.length ≤ 16 * 18 by omega)]
theorem memTo_succ (l : List Int) (k : Nat) (hl : l.length = 288) (hk : k < 18) : (memTo l k).take (16 * k) ++ pageL l k ++ (memTo l k).drop (16 * k + 16) = memTo l (k + 1) := by
  have h1 : (memTo l k).take (16 * k) = l.take (16 * k) := by
    rw [memTo, List.take_append_of_le_length (by simp [hl]; omega), List.take_take, Nat.min_self]
  have h2 : (memTo l k).drop (16 * k + 16) = List.replicate (288 - 16 * (k + 1)) 0 := by
    have hlen : (l.take (16 * k)).length = 16 * k := by simp [hl]; omega
    rw [memTo, List.drop_append, hlen, show 16 * k + 16 - 16 * k = 16 by omega, List.drop_of_length_le (by rw [hlen]; omega), List.nil_append, List.drop_replicate]
    congr 1
  rw [h1, h2, memTo, pageL, show 16 * (k + 1) = 16 * k + 16 by omega, List.take_add (l := l) (i := 16 * k) (j := 16)]
end Go.Proofs.YtandblanpafjoaaGreatDoor

