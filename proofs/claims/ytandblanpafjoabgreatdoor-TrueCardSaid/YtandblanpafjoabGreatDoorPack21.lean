import Derived.Test.YtandblanpafjoabGreatDoorPack20
import Derived.Test.YtandblanpafjoabGreatDoorChecked
import Derived.Test.YtandblanpafjoabGreatDoorPack01
import Derived.Test.YtandblanpafjoabGreatDoorPack12
import Derived.RangeFuncNested
import Derived.RangeFuncBox
import Derived.RangeFuncLeaves
import Derived.Shelf.Abstract
import Derived.OwnWalkIn
import Derived.TacticsInMore
import Derived.LoopNIn
import Derived.LoopIn
import Derived.Maps.AppendAt
namespace Go.Proofs.YtandblanpafjoabGreatDoor
open Go.RowKit Go.Extern.Stop Go.Stop Go.Extern

set_option maxHeartbeats 1000000 in
theorem pplay_player (p : Int) (v : Value) (w : World) (hgL : Laid w) (hp : p < 2 ∨ 4 < p) :
    Calls Tryz.prog 15 #[.int .i64 p, v] w fun e w' => e = .returned (.tuple #[.slice none 0 0, .int .i64 2]) ∧ Below w.heap.size w w' := by
  go_enter Tryz.func15, Tryz.ntmps15
  go_wp2_with fail
  refine (play_player p v w hp).mono ?_
  rintro e w1 ⟨rfl, rfl⟩
  go_wp2_with fail
  refine (told_kind 2 w1 hgL).mono ?_
  rintro e w2 ⟨rfl, hb2⟩
  go_wp2
  go_ret2
  exact ⟨rfl, hb2⟩

set_option maxHeartbeats 1000000 in
theorem pplay_inputs (n : Nat) (v : Value) (fs : List (List Int)) (w : World) (hgL : Laid w) (hn2 : 2 ≤ n) (hn4 : n ≤ 4) (hfr : FrAt w v fs) (hN : fs.length ≤ 100000) (hl : ∀ i : Nat, (fs.getD i []).length ≤ 100000) (hf : fitB (n : Int) fs = false) :
    Calls Tryz.prog 15 #[.int .i64 (n : Int), v] w fun e w' => e = .returned (.tuple #[.slice none 0 0, .int .i64 7]) ∧ Below w.heap.size w w' := by
  have HL := hide hl
  have HFR := hide hfr
  clear hl hfr
  go_enter Tryz.func15, Tryz.ntmps15
  go_wp2_with fail
  refine (play_inputs n v fs w hn2 hn4 (unhide HFR) hN (unhide HL) hf).mono ?_
  rintro e w1 ⟨rfl, rfl⟩
  go_wp2_with fail
  refine (told_kind 7 w1 hgL).mono ?_
  rintro e w2 ⟨rfl, hb2⟩
  go_wp2
  go_ret2
  exact ⟨rfl, hb2⟩

set_option maxHeartbeats 1000000 in
theorem pplay_yes (n : Nat) (v : Value) (fs : List (List Int)) (w : World) (hn2 : 2 ≤ n) (hn4 : n ≤ 4) (hfr : FrAt w v fs) (hN : fs.length ≤ 100000) (hl : ∀ i : Nat, (fs.getD i []).length ≤ 100000) (hf : fitB (n : Int) fs = true)
    (hrg : ∀ i j : Nat, 0 ≤ (fs.getD i []).getD j 0 ∧ (fs.getD i []).getD j 0 ≤ 255) :
    Calls Tryz.prog 15 #[.int .i64 (n : Int), v] w fun e w' => ∃ g, e = .returned (.tuple #[.slice (some ⟨g, 0, none⟩) 288 288, .int .i64 0]) ∧ w.heap.size ≤ g ∧ Blk w' g (nums .u8 (playL n fs)) 5 ∧ Below w.heap.size w w' := by
  have HL := hide hl
  have HFR := hide hfr
  have HRG := hide hrg
  clear hl hfr hrg
  go_enter Tryz.func15, Tryz.ntmps15
  go_wp2_with fail
  refine (play_yes n v fs w hn2 hn4 (unhide HFR) hN (unhide HL) hf (unhide HRG)).mono ?_
  rintro e w1 ⟨g, rfl, hg1, hbg, hb1⟩
  go_wp2_with fail
  refine (told_nil w1).mono ?_
  rintro e w2 ⟨rfl, hb2⟩
  go_wp2
  go_ret2
  exact ⟨g, rfl, hg1, hbg.below hbg.lt hb2, hb1.trans (hb2.mono hb1.size)⟩

/-! The frames that a text is cut into. -/
end Go.Proofs.YtandblanpafjoabGreatDoor

namespace Go.Proofs.YtandblanpafjoabGreatDoor
open Go.RowKit Go.Extern.Stop Go.Stop Go.Extern

/-! pick -/
def pickN (c : Int) (n : Nat) : Nat := ((if c < 0 then -(c + 1) else c) % (n : Int)).toNat
theorem pickN_lt (c : Int) (n : Nat) (hn : 0 < n) : pickN c n < n := by
  unfold pickN
  have h1 := Int.emod_nonneg (if c < 0 then -(c + 1) else c) (show (n : Int) ≠ 0 by omega)
  have h2 := Int.emod_lt_of_pos (if c < 0 then -(c + 1) else c) (show (0 : Int) < n by omega)
  omega
theorem pickN_two (c : Int) : pickN c 2 = pickN c 4 % 2 := by
  unfold pickN
  generalize (if c < 0 then -(c + 1) else c) = d
  omega
set_option maxHeartbeats 400000 in
theorem pick_any (c : Int) (n : Nat) (w : World) (hc : -9223372036854775808 ≤ c ∧ c ≤ 9223372036854775807) (hn : 1 ≤ n) (hn2 : n ≤ 1000000) :
    Calls Tryz.prog 20 #[.int .i64 c, .int .i64 (n : Int)] w fun e w' => e = .returned (.int .i64 (pickN c n : Int)) ∧ w' = w := by
  obtain ⟨hc0, hc1⟩ := hc
  have hn0 : (1 : Int) ≤ (n : Int) := by omega
  have hn3 : (n : Int) ≤ 1000000 := by omega
  have hne : ((n : Int) == 0) = false := by rw [beq_eq_false_iff_ne]; omega
  by_cases h : c < 0
  · have e : ((pickN c n : Nat) : Int) = (-(c + 1)) % (n : Int) := by
      unfold pickN; rw [if_pos h]
      have := Int.emod_nonneg (-(c + 1)) (show (n : Int) ≠ 0 by omega)
      omega
    rw [e]
    have h1 : 0 ≤ -(c + 1) := by omega
    clear e
    go_enter Tryz.func20, Tryz.ntmps20
    go_wp2
    have et : -((c + 1).tmod (n : Int)) = (-(c + 1)) % (n : Int) := by rw [← Int.neg_tmod, Int.tmod_eq_emod_of_nonneg h1]
    rw [← et]
    go_ret
    exact ⟨rfl, rfl⟩
  · have e : ((pickN c n : Nat) : Int) = c % (n : Int) := by
      unfold pickN; rw [if_neg h]
      have := Int.emod_nonneg c (show (n : Int) ≠ 0 by omega)
      omega
    rw [e]
    have h1 : 0 ≤ c := by omega
    clear e
    go_enter Tryz.func20, Tryz.ntmps20
    go_wp2
    go_ret
    exact ⟨rfl, rfl⟩
theorem pick_at (c x : Int) (n : Nat) (hx : x = (n : Int)) (w : World) (hc : -9223372036854775808 ≤ c ∧ c ≤ 9223372036854775807) (hn : 1 ≤ n) (hn2 : n ≤ 1000000) :
    Calls Tryz.prog 20 #[.int .i64 c, .int .i64 x] w fun e w' => e = .returned (.int .i64 (pickN c n : Int)) ∧ w' = w := by
  subst hx; exact pick_any c n w hc hn hn2
end Go.Proofs.YtandblanpafjoabGreatDoor

namespace Go.Proofs.YtandblanpafjoabGreatDoor
open Go.RowKit Go.Extern.Stop Go.Stop Go.Extern

/-- A block of bytes that begins with these numbers, whatever its marks. -/
def Beg (w : World) (b : Nat) (l : List Int) : Prop := ∃ cs fr, w.heap[b]? = some (.cells cs 5 fr) ∧ ∀ q, q < l.length → cs[q]? = some (.int .u8 (l.getD q 0))
theorem Beg.lt {w : World} {b : Nat} {l : List Int} (h : Beg w b l) : b < w.heap.size := by
  obtain ⟨cs, fr, h1, _⟩ := h
  exact (Array.getElem?_eq_some_iff.1 h1).1
theorem Beg.same {w w' : World} {b : Nat} {l : List Int} (h : Beg w b l) (e : w'.heap[b]? = w.heap[b]?) : Beg w' b l := by
  obtain ⟨cs, fr, h1, h2⟩ := h
  exact ⟨cs, fr, by rw [e]; exact h1, h2⟩
theorem Beg.below {B : Nat} {w w' : World} {b : Nat} {l : List Int} (h : Beg w b l) (hb : Below B w w') (hB : b < B) : Beg w' b l := h.same (hb.block b hB)
theorem Beg.cell {w : World} {b : Nat} {l : List Int} (h : Beg w b l) (q : Nat) (hq : q < l.length) : w.cell? ⟨b, q, none⟩ = some (.int .u8 (l.getD q 0)) := by
  obtain ⟨cs, fr, h1, h2⟩ := h
  rw [cell_of_row w b q cs _ fr h1]; exact h2 q hq
theorem Beg.ofBlk {w : World} {b : Nat} {l : List Int} (h : Blk w b (nums .u8 l) 5) : Beg w b l := ⟨_, _, h, fun q hq => nums_get .u8 l q hq⟩
theorem own_ne' {w : World} {base : Nat} {v : Value} {n : Nat} {xs : List Value} (h : w.ownsRow base 35 1 v n xs) {b : Nat} {l : List Int} (hb : Beg w b l) : some b ≠ v.ownBlock := by
  obtain ⟨cs, fr, hb1, _⟩ := hb
  rcases h.2 with ⟨rfl, _⟩ | ⟨g, cap, cur, rfl, _, hg, _⟩
  · intro e; cases e
  · intro e
    have e' : b = g := Option.some.inj e
    subst e'
    have := Option.some.inj (hb1.symm.trans hg)
    injection this with _ h2
    exact absurd h2 (by decide)
def ListsAt (w : World) (base : Nat) (fs : List (List Int)) (j : Nat) (xs : List Value) : Prop :=
  ∀ i, i < j → ∃ b c, xs[i]? = some (.slice (some ⟨b, 0, none⟩) (fs.getD i []).length c) ∧ base ≤ b ∧ Beg w b (fs.getD i [])
theorem lists_push {wr W w2 : World} {base : Nat} {v : Value} {j : Nat} {xs : List Value} {fs : List (List Int)} {b c : Nat} (hown : wr.ownsRow base 35 1 v j xs) (hl : ListsAt wr base fs j xs) (hW : Below wr.heap.size wr W)
    (hb : base ≤ b) (hbeg : Beg W b (fs.getD j [])) (x : Value) (hx : x = .slice (some ⟨b, 0, none⟩) (fs.getD j []).length c) (hg : (W.alloc (.cells #[x] 35)).grownBy w2 v.ownBlock) : ListsAt w2 base fs (j + 1) (xs ++ [x]) := by
  have hlen := hown.1
  have hownW : (W.alloc (.cells #[x] 35)).ownsRow base 35 1 v j xs :=
    (hown.kept (grown_below hW none) (by cases hv : v.ownBlock <;> simp)).alloc _
  have hkeep : ∀ b' l, Beg (W.alloc (.cells #[x] 35)) b' l → Beg w2 b' l := fun b' l hb' => hb'.same (hg.block b' hb'.lt (own_ne' hownW hb'))
  have halloc : ∀ b' l, Beg W b' l → Beg (W.alloc (.cells #[x] 35)) b' l := fun b' l hb' => hb'.same (heap_alloc_old W _ hb'.lt)
  intro i hi
  by_cases hij : i = j
  · subst hij
    refine ⟨b, c, ?_, hb, hkeep _ _ (halloc _ _ hbeg)⟩
    rw [List.getElem?_append_right (by omega)]
    simp [hlen, hx]
  · obtain ⟨b', c', h1, h2, h3⟩ := hl i (by omega)
    refine ⟨b', c', ?_, h2, hkeep _ _ (halloc _ _ (h3.below hW h3.lt))⟩
    rw [List.getElem?_append_left (by omega)]; exact h1
theorem frAt_of_lists {w : World} {base : Nat} {v : Value} {fs : List (List Int)} {xs : List Value} (ho : w.ownsRow base 35 1 v fs.length xs) (hr : ListsAt w base fs fs.length xs) : FrAt w v fs := by
  rcases ho.2 with ⟨rfl, hj⟩ | ⟨g, cap, cur, rfl, hbg, hg, hjc, hcm, hcs, htake⟩
  · exact Or.inl ⟨List.eq_nil_of_length_eq_zero hj, rfl⟩
  · refine Or.inr ⟨g, cap, rfl, Blk.lt hg, fun i hi => ?_⟩
    obtain ⟨b, c, h1, h2, h3⟩ := hr i hi
    have hc := ho.cells (g := g) rfl i _ h1
    rw [Addr.add_mid, Nat.zero_add] at hc
    exact ⟨b, c, hc, h3.lt, fun q hq => h3.cell q hq⟩

end Go.Proofs.YtandblanpafjoabGreatDoor

namespace Go.Proofs.YtandblanpafjoabGreatDoor
open Go.RowKit Go.Shelf Go.Extern.Stop Go.Stop Go.Extern
attribute [local go_sem] Oper.semAt_some

/-! slices.Values, slices.AppendSeq, slices.Collect over parcels. -/
def pcA (bl : Nat → Nat) (x : FlyM) : Array Value := #[.int .i64 (x.to : Int), .int .i64 (x.due : Int), .slice (some ⟨bl x.num, 0, none⟩) x.bytes.length x.bytes.length, .int .i64 (x.num : Int)]
theorem Tryz.zeroPcl2 (w : World) : (zeroValue 127).run Tryz.prog w = .ok (.agg #[.int .i64 0, .int .i64 0, .slice none 0 0, .int .i64 0]) w := by kernel_rfl
theorem take_fl (zs : List FlyM) (k : Nat) (h : k < zs.length) : zs.take (k + 1) = zs.take k ++ [fl zs k] := by
  rw [List.take_add_one, List.getElem?_eq_getElem h]
  simp [fl, List.getD_eq_getElem?_getD, h]
set_option maxRecDepth 100000 in
set_option maxHeartbeats 2000000 in
theorem vals1_in (F : Fence) (n : Nat) (h7 : F.fn 89) (hro : F.round = none) (hn : 1 ≤ n) (l Bs n₀ b cap : Nat) (bl : Nat → Nat) (zs : List FlyM) (hz : zs.length ≤ 1000000) (hb : b < n₀) (J Jx : List FlyM → World → Prop)
    (hY : ∀ pre x W, J pre W → pre.length < zs.length → YieldAt F (n - 1) Tryz.prog l #[.agg (pcA bl x)] W fun e W' =>
      (e = .returned (.bool true) ∧ J (pre ++ [x]) W' ∧ Below n₀ W W') ∨ (e = .returned (.bool false) ∧ Jx (pre ++ [x]) W'))
    (W : World) (hn₀ : n₀ ≤ W.heap.size) (hJ : AbidesFrom W.heap.size J) (hBs : W.cell? ⟨Bs, 0, none⟩ = some (.slice (some ⟨b, 0, none⟩) zs.length cap)) (hc : QAt W b cap bl zs) (h0 : J [] W) :
    CallsIn F n Tryz.prog 89 #[.func (.yield l) #[] #[], .pointer (some ⟨Bs, 0, none⟩)] W fun e W' => (∃ v, e = .returned v) ∧
      ((∃ ys, ys = zs ∧ J ys W') ∨ (∃ pre, pre <+: zs ∧ Jx pre W')) := by
  have hzp := Tryz.zeroPcl2
  have HC := hide hc
  have HY := hide hY
  have HJ := hide hJ
  have H0 := hide h0
  clear hc hY hJ h0
  refine callsIn_of_wp Tryz.func89 rfl h7 ?_ hro
  simp only [Tryz.ntmps89, List.size_toArray, List.length_cons, List.length_nil, Nat.reduceAdd, Nat.reduceSub, Array.replicate_succ, Array.replicate_zero, List.push_toArray, List.append_toArray, List.nil_append, List.cons_append]
  gi_wp2
  gi_loopw [7] (fun i wr => ∃ k : Nat, k ≤ zs.length ∧ i = .int .i64 k ∧ J (zs.take k) wr ∧ Below n₀ W wr ∧ W.heap.size ≤ wr.heap.size)
    (fun i _ => zs.length - (intOf i).toNat)
  case atStart => exact ⟨0, Nat.zero_le _, rfl, unhide H0, Below.refl _ _, Nat.le_refl _⟩
  case round =>
    obtain ⟨k, hk, rfl, hJs, hnx, hsz⟩ := hrel
    by_cases hlt : k < zs.length
    · have hQ : QAt wr b cap bl zs := (unhide HC).same (hnx.block b hb)
      have c0 : wr.cell? ⟨b, k * 4, none⟩ = some (.int .i64 ((fl zs k).to : Int)) := hQ.cell k 0 hlt (by omega)
      have c1 : wr.cell? ⟨b, k * 4 + 1, none⟩ = some (.int .i64 ((fl zs k).due : Int)) := hQ.cell k 1 hlt (by omega)
      have c2 : wr.cell? ⟨b, k * 4 + 2, none⟩ = some (.slice (some ⟨bl (fl zs k).num, 0, none⟩) (fl zs k).bytes.length (fl zs k).bytes.length) := hQ.cell k 2 hlt (by omega)
      have c3 : wr.cell? ⟨b, k * 4 + 3, none⟩ = some (.int .i64 ((fl zs k).num : Int)) := hQ.cell k 3 hlt (by omega)
      have hJA : J (zs.take k) (wr.alloc (.cells (pcA bl (fl zs k)) 127)) := unhide HJ _ wr _ none hJs (World.grownBy_alloc wr _ none) (fun r e => by cases e)
      obtain ⟨fn, tmps, assign, body, hy, hR⟩ := unhide HY _ (fl zs k) _ hJA (by rw [List.length_take]; omega)
      have hbA : Below n₀ wr (wr.alloc (.cells (pcA bl (fl zs k)) 127)) := (Below.refl _ wr).alloc (by omega) _
      have HK := hide (And.intro (take_fl zs k hlt) (And.intro hbA hnx))
      clear hQ hJs hJA hbA hnx
      generalize fl zs k = x at *
      unfold pcA at hy hR
      gi_wp2
      refine hR.mono ?_
      rintro e W3 (⟨rfl, hJ3, hk3⟩ | ⟨rfl, hJx3⟩)
      · have H3 := hide (And.intro hJ3 hk3)
        clear hJ3 hk3
        gi_wp2
        go_roundw
        case rel =>
          obtain ⟨hJ3, hk3⟩ := unhide H3
          obtain ⟨ht, hbA, hnx⟩ := unhide HK
          have := hk3.size
          simp at this
          exact ⟨k + 1, by omega, by go_num, by rw [ht]; exact hJ3, hnx.trans (hbA.trans hk3), by omega⟩
        case measure => simp [intOf]; omega
      · have H3 := hide hJx3
        clear hJx3
        gi_wp2
        refine bodyPost_ret (results_none rfl _ _ _) rfl ?_
        exact ⟨⟨_, rfl⟩, .inr ⟨_, ⟨zs.drop (k + 1), by rw [← (unhide HK).1]; exact List.take_append_drop _ _⟩, unhide H3⟩⟩
    · obtain rfl : k = zs.length := by omega
      rw [List.take_length] at hJs
      gi_wp2
      go_end0
      exact ⟨⟨_, rfl⟩, .inl ⟨_, rfl, hJs⟩⟩
set_option maxRecDepth 100000 in
set_option maxHeartbeats 1000000 in
theorem vals1_nil_in (F : Fence) (n : Nat) (h7 : F.fn 89) (hro : F.round = none) (l Bs : Nat) (J : List FlyM → World → Prop) (W : World) (hBs : W.cell? ⟨Bs, 0, none⟩ = some (.slice none 0 0)) (h0 : J [] W) :
    CallsIn F n Tryz.prog 89 #[.func (.yield l) #[] #[], .pointer (some ⟨Bs, 0, none⟩)] W fun e W' => (∃ v, e = .returned v) ∧ J [] W' := by
  refine callsIn_of_wp Tryz.func89 rfl h7 ?_ hro
  simp only [Tryz.ntmps89, List.size_toArray, List.length_cons, List.length_nil, Nat.reduceAdd, Nat.reduceSub, Array.replicate_succ, Array.replicate_zero, List.push_toArray, List.append_toArray, List.nil_append, List.cons_append]
  gi_wp2
  gi_loopw [7] (fun i wr => i = .int .i64 0 ∧ J [] wr) (fun _ _ => 0)
  case atStart => exact ⟨rfl, h0⟩
  case round =>
    obtain ⟨rfl, hJs⟩ := hrel
    gi_wp2
    go_end0
    exact ⟨⟨_, rfl⟩, hJs⟩
/-- A queue's value: nil, or in a block. -/
def QV (n₀ : Nat) (w : World) (wv : Value) (bl : Nat → Nat) (zs : List FlyM) : Prop := (wv = .slice none 0 0 ∧ zs = []) ∨ ∃ b cap, wv = .slice (some ⟨b, 0, none⟩) zs.length cap ∧ b < n₀ ∧ QAt w b cap bl zs
theorem QV.below {n₀ : Nat} {w w' : World} {wv : Value} {bl : Nat → Nat} {zs : List FlyM} (h : QV n₀ w wv bl zs) (hb : Below n₀ w w') : QV n₀ w' wv bl zs := by
  rcases h with h | ⟨b, cap, e, hl, hq⟩
  · exact .inl h
  · exact .inr ⟨b, cap, e, hl, hq.same (hb.block b hl)⟩
theorem QV.ofOwn {w : World} {wv : Value} {bl : Nat → Nat} {zs : List FlyM} (h : w.ownsRow 0 127 4 wv zs.length (pcls bl zs)) : QV w.heap.size w wv bl zs := by
  rcases h.2 with ⟨h1, h2⟩ | ⟨g, cap, cur, h1, h2, h3, h4, h5, h6, h7⟩
  · exact .inl ⟨h1, List.length_eq_zero_iff.1 h2⟩
  · exact .inr ⟨g, cap, h1, Blk.lt h3, ⟨⟨cur, h3, h6, h7⟩, h5, h4⟩⟩
theorem vals_stops (F : Fence) (n : Nat) (h7 : F.fn 89) (hro : F.round = none) (hn : 1 ≤ n) (Bs n₀ : Nat) (wv : Value) (bl : Nat → Nat) (zs : List FlyM) (hz : zs.length ≤ 1000000) (w : World) (hBs : Bs < w.heap.size) (hn₀ : n₀ ≤ w.heap.size)
    (hc : w.cell? ⟨Bs, 0, none⟩ = some wv) (hI : QV n₀ w wv bl zs) :
    SeqStopsK F n Tryz.prog 89 #[.pointer (some ⟨Bs, 0, none⟩)] (fun x : FlyM => #[Value.agg (pcA bl x)]) (Below n₀) (fun ys => ys = zs) (fun pre => pre <+: zs) zs.length w := fun l J Jx W hW hJ _ hY h0 => by
  have hc' := (hW.cell (p := ⟨Bs, 0, none⟩) hBs).trans hc
  have hsz := hW.size
  rcases hI.below (hW.mono hn₀) with ⟨rfl, rfl⟩ | ⟨b, cap, rfl, hb, hcs⟩
  · exact (vals1_nil_in F n h7 hro l Bs J W hc' h0).mono fun e W' ⟨he, hj⟩ => ⟨he, .inl ⟨_, rfl, hj⟩⟩
  · exact vals1_in F n h7 hro hn l Bs n₀ b cap bl zs hz hb J Jx hY W (by omega) hJ hc' hcs h0
set_option maxHeartbeats 1000000 in
theorem vals_any (a : Option Addr) (len cap : Nat) (w : World) :
    Calls Tryz.prog 57 #[.slice a len cap] w fun e w' => e = .returned (.func (.func 89) #[] #[.pointer (some ⟨w.heap.size, 0, none⟩)]) ∧ w' = w.alloc (.cells #[.slice a len cap] 79) := by
  go_enter Tryz.func57, Tryz.ntmps57
  go_wp2
  go_ret
  exact ⟨rfl, rfl⟩
theorem pcls_snoc (bl : Nat → Nat) (l : List FlyM) (x : FlyM) : pcls bl (l ++ [x]) = pcls bl l ++ (pcA bl x).toList := by rw [pcls_append]; simp [pcls, pcl, pcA]
theorem pcA_new (bl : Nat → Nat) (x : FlyM) (W : World) : ∀ j u, (pcA bl x).toList[j]? = some u → (W.alloc (.cells (pcA bl x) 127)).cell? ((⟨W.heap.size, 0, none⟩ : Addr).add j) = some u := by
  intro j u hu
  rw [Addr.add_mid, Nat.zero_add, World.cell?_alloc_new]
  simpa using hu
set_option maxRecDepth 100000 in
set_option maxHeartbeats 4000000 in
theorem appendSeq_in (F : Fence) (n : Nat) (h3 : F.fn 107) (h5 : F.fn 89) (hro : F.round = none) (hn : 3 ≤ n) (Bs : Nat) (wv : Value) (bl : Nat → Nat) (zs : List FlyM) (hz : zs.length ≤ 1000000) (w : World) (hBs : Bs < w.heap.size)
    (hc : w.cell? ⟨Bs, 0, none⟩ = some wv) (hI : QV w.heap.size w wv bl zs) :
    CallsIn F n Tryz.prog 107 #[.slice none 0 0, .func (.func 89) #[] #[.pointer (some ⟨Bs, 0, none⟩)]] w fun e W' => ∃ v, e = .returned v ∧ W'.ownsRow w.heap.size 127 4 v zs.length (pcls bl zs) ∧ (v = .slice none 0 0 ↔ zs = []) ∧ Below w.heap.size w W' := by
  have h1 : 1 ≤ n := by omega
  have hzp := Tryz.zeroPcl2
  obtain ⟨i0, hi, hz0, hz1, hz2⟩ := info_parts Tryz.infoPcl
  have HI := hide hI
  clear hI
  refine callsIn_of_wp_marks Tryz.func107 rfl h3 ?_ hro
  simp only [Tryz.ntmps107, List.size_toArray, List.length_cons, List.length_nil, Nat.reduceAdd, Nat.reduceSub, Array.replicate_succ, Array.replicate_zero, List.push_toArray, List.append_toArray, List.nil_append, List.cons_append]
  gi_wp2
  have bO := Boxed.new w 78 (.slice none 0 0)
  have hB0 : Below w.heap.size w (w.alloc (.cells #[.slice none 0 0] 78)) := (Below.refl _ w).alloc (Nat.le_refl _) _
  have hsz : (w.alloc (.cells #[.slice none 0 0] 78)).heap.size = w.heap.size + 1 := by simp
  obtain ⟨W0, hW0⟩ : ∃ W0, w.alloc (.cells #[.slice none 0 0] 78) = W0 := ⟨_, rfl⟩
  rw [hW0] at bO hB0 hsz ⊢
  clear hW0
  refine wpIn_rangeFunc_ownH hro h1 (gf := 89) (lb := #[.pointer (some ⟨Bs, 0, none⟩)]) rfl h5 (enters_of Tryz.func89 (by kernel_rfl) rfl)
    (vals_stops F (n - 1) h5 hro (by omega) Bs w.heap.size wv bl zs hz W0 (by omega) (by omega) ((hB0.cell (p := ⟨Bs, 0, none⟩) hBs).trans hc) ((unhide HI).below hB0)) belowK_t (belowK_b (by omega)) (Below.refl _ _) (fun _ => rfl)
    (fun pre W => (∃ v, Boxed W w.heap.size 78 v ∧ W.ownsRow w.heap.size 127 4 v pre.length (pcls bl pre) ∧ (v = .slice none 0 0 ↔ pre = [])) ∧ Below w.heap.size w W)
    (fun _ _ _ => False)
    (OwnFrom.and (Own.from (holdsRow_own w.heap.size w.heap.size 78 127 4 (fun pre => pre.length) (fun pre => pcls bl pre) (fun pre v => v = .slice none 0 0 ↔ pre = [])) _) (ownFrom_below (Nat.le_refl _) (by omega)))
    (fun _ _ _ _ _ hs _ _ => hs)
    ⟨⟨_, bO, World.ownsRow_nil _ _ _ _, by simp⟩, hB0⟩
    (fun x a' W => ∃ Bx, w.heap.size < Bx ∧ Blk W Bx (pcA bl x) 127 ∧ a' = { tmps := #[.slice none 0 0, .func (.func 89) #[] #[.pointer (some ⟨Bs, 0, none⟩)], .pointer (some ⟨w.heap.size, 0, none⟩), undef, .slice none 0 0, .pointer (some ⟨Bx, 0, none⟩), .func (.func 89) #[] #[.pointer (some ⟨Bs, 0, none⟩)], .agg (pcA bl x), undef, undef, undef, undef, undef], defers := [] })
    (fun x a' _ X Y row hs hg hr => by
      obtain ⟨Bx, h1, h2, h3⟩ := hs
      refine ⟨Bx, h1, (hg.block Bx h2.lt (fun e => ?_)).trans h2, h3⟩
      obtain ⟨_, o, ho, hc⟩ := hr Bx e.symm
      rw [show X.heap[Bx]? = _ from h2] at ho; cases ho; cases hc)
    ?assign ?body ?done ?stop
  case assign =>
    rintro l pre x W K ⟨⟨v, hv, hrow, hnil⟩, hB1⟩ hK
    have HB := hide (And.intro hv (And.intro hrow (And.intro hnil hB1)))
    clear hv hrow hnil hB1
    unfold pcA
    gi_wp2
    obtain ⟨hv, hrow, hnil, hB1⟩ := unhide HB
    exact hK _ _ ((KeepsOthers.alloc _ _).from _) ((Below.refl _ W).alloc hB1.size _) ⟨⟨v, hv.alloc _, hrow.alloc _, hnil⟩, hB1.alloc hB1.size _⟩ ⟨W.heap.size, hv.lt, Blk.new W (pcA bl x) 127, rfl⟩
  case body =>
    rintro l pre x a' W hl ⟨r, hr⟩ ⟨⟨v, hv, hrow, hnil⟩, hB1⟩ ⟨Bx, hBx, bX, rfl⟩ hlt
    have cB := hv.cell
    have x0 : W.cell? ⟨Bx, 0, none⟩ = some (.int .i64 (x.to : Int)) := bX.cell 0
    have x1 : W.cell? ⟨Bx, 1, none⟩ = some (.int .i64 (x.due : Int)) := bX.cell 1
    have x2 : W.cell? ⟨Bx, 2, none⟩ = some (.slice (some ⟨bl x.num, 0, none⟩) x.bytes.length x.bytes.length) := bX.cell 2
    have x3 : W.cell? ⟨Bx, 3, none⟩ = some (.int .i64 (x.num : Int)) := bX.cell 3
    have hbs := hB1.size
    have HR := hide (And.intro hrow (And.intro hB1 hv))
    clear hrow hnil hB1 bX
    obtain ⟨vp, vc, rfl⟩ : ∃ vp vc, v = .slice vp pre.length vc := by
      rcases (unhide HR).1.2 with ⟨h1, h2⟩ | ⟨g, cap, cur, h1, _⟩
      · exact ⟨none, 0, by rw [h1, h2]⟩
      · exact ⟨_, _, h1⟩
    gi_wp2_with (gi_at_builtin; refine wpListIn_append_own _ rfl (.tmp 8) (.tmp 10) 78 rfl w.heap.size 127 i0 _ 4 48 Tryz.underlying78 hi hz0 hz1 hz2 rfl (by decide) (.slice vp pre.length vc) pre.length _ rfl ((unhide HR).1.alloc _) ⟨W.heap.size, 0, none⟩ 1 1 (pcA bl x).toList rfl rfl (pcA_new bl x W) (by intro u hu; simp [pcA] at hu; rcases hu with rfl | rfl | rfl | rfl <;> rfl) (by unfold maxLen; omega) (by omega) (by simp; omega) ?_; intro v' w1 hown' hgrow hnil2; obtain ⟨g', cap', rfl⟩ := ownsRow_succ hown'; obtain ⟨hv1, hv2, hr2, hk2, hb2⟩ := (unhide HR).2.2.appended (by decide) (unhide HR).1 hbs (Nat.le_refl _) hown' hgrow; have hc1 := hv1.cell; have hf1 := hv1.frozen; have H1 := hide (And.intro hv2 (And.intro hr2 (And.intro hk2 hb2))); clear hown' hgrow hnil2 hv1 hv2 hr2 hk2 hb2)
    obtain ⟨hv2, hr2, hk2, hb2⟩ := unhide H1
    exact ⟨hk2.from _, hb2, ⟨_, hv2, by rw [pcls_snoc, List.length_append]; exact hr2, by simp⟩, (unhide HR).2.1.trans hb2⟩
  case done =>
    rintro D ys W hD rfl ⟨⟨v, hv, hrow, hnil⟩, hB1⟩ hK
    have cB := hv.cell
    gi_wp2
    refine ⟨by simp, .inl ⟨_, _, rfl, run_takeDeferred hK, ?_⟩⟩
    exact ⟨_, results_tmp rfl _ _ _, v, rfl, ownsRow_putObj hrow _ hK rfl, hnil, hB1.trans (belowK_b (w := w) (Nat.le_refl _) W D _ _ (by omega) hK rfl rfl)⟩
  case stop =>
    rintro D c pre W _ _ h _
    exact h.elim
set_option maxHeartbeats 1000000 in
theorem collect_any (Bs : Nat) (wv : Value) (bl : Nat → Nat) (zs : List FlyM) (hz : zs.length ≤ 1000000) (w : World) (hBs : Bs < w.heap.size) (hc : w.cell? ⟨Bs, 0, none⟩ = some wv) (hI : QV w.heap.size w wv bl zs) :
    Calls Tryz.prog 87 #[.func (.func 89) #[] #[.pointer (some ⟨Bs, 0, none⟩)]] w fun e W' => ∃ v, e = .returned v ∧ W'.ownsRow w.heap.size 127 4 v zs.length (pcls bl zs) ∧ (v = .slice none 0 0 ↔ zs = []) ∧ Below w.heap.size w W' := by
  have hcon := callsIn_wide.1 (appendSeq_in Fence.wide 3 trivial trivial rfl (by omega) Bs wv bl zs hz w hBs hc hI)
  clear hI hc
  go_enter Tryz.func87, Tryz.ntmps87
  go_wp2_with fail
  refine hcon.mono ?_
  rintro e w2 ⟨v, rfl, h1, h2, h3⟩
  go_wp2
  go_ret
  exact ⟨v, rfl, h1, h2, h3⟩
end Go.Proofs.YtandblanpafjoabGreatDoor

