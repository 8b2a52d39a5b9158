import Derived.Test.YtandblanpafjoabGreatDoorPack40
import Derived.Test.YtandblanpafjoabGreatDoorPack21
namespace Go.Proofs.YtandblanpafjoabGreatDoor
open Go.RowKit Go.Extern.Stop Go.Stop Go.Extern

/-! record: what each player has put in. -/
def recV (lb lc : Nat → Nat) (real : Nat → List Int) (p : Nat) : Value := .slice (some ⟨lb p, 0, none⟩) (real p).length (lc p)
structure RecAt (w : World) (base rb n : Nat) (lb lc : Nat → Nat) (real : Nat → List Int) : Prop where
  row : ∃ cs, Blk w rb cs 35 ∧ cs.size = n ∧ ∀ p, p < n → cs[p]? = some (recV lb lc real p)
  own : ∀ p, p < n → w.ownsRow base 5 1 (recV lb lc real p) (real p).length ((real p).map (Value.int .u8))
  apart : ∀ p q, p < n → q < n → lb p = lb q → p = q
  off : ∀ p, p < n → lb p ≠ rb
  bs : base ≤ rb
def RecF (rb n : Nat) (lb : Nat → Nat) (k : Nat) : Prop := k = rb ∨ ∃ p, p < n ∧ k = lb p
theorem RecAt.lt {w : World} {base rb n : Nat} {lb lc : Nat → Nat} {real : Nat → List Int} (h : RecAt w base rb n lb lc real) (k : Nat) (hk : RecF rb n lb k) : base ≤ k ∧ k < w.heap.size := by
  rcases hk with rfl | ⟨p, hp, rfl⟩
  · obtain ⟨cs, hB, _⟩ := h.row
    exact ⟨h.bs, hB.lt⟩
  · exact (h.own p hp).lt (lb p) rfl
theorem RecAt.same {w w' : World} {base rb n : Nat} {lb lc : Nat → Nat} {real : Nat → List Int} (h : RecAt w base rb n lb lc real) (hs : ∀ k, RecF rb n lb k → w'.heap[k]? = w.heap[k]?) : RecAt w' base rb n lb lc real where
  row := by
    obtain ⟨cs, hB, h1, h2⟩ := h.row
    exact ⟨cs, (hs rb (.inl rfl)).trans hB, h1, h2⟩
  own := fun p hp => owns_same (h.own p hp) (fun k hk => hs k (.inr ⟨p, hp, by simpa [recV, Value.ownBlock] using hk.symm⟩))
  apart := h.apart
  off := h.off
  bs := h.bs
theorem RecAt.below {w w' : World} {base rb n : Nat} {lb lc : Nat → Nat} {real : Nat → List Int} (h : RecAt w base rb n lb lc real) (hb : Below w.heap.size w w') : RecAt w' base rb n lb lc real := h.same (fun k hk => hb.block k (h.lt k hk).2)
theorem RecAt.cell {w : World} {base rb n : Nat} {lb lc : Nat → Nat} {real : Nat → List Int} (h : RecAt w base rb n lb lc real) (p : Nat) (hp : p < n) : w.cell? ⟨rb, p, none⟩ = some (recV lb lc real p) ∧ w.frozen? ⟨rb, p, none⟩ = false := by
  obtain ⟨cs, hB, h1, h2⟩ := h.row
  exact ⟨(hB.cell p).trans (h2 p hp), hB.frozen p⟩
theorem RecAt.byte {w : World} {base rb n : Nat} {lb lc : Nat → Nat} {real : Nat → List Int} (h : RecAt w base rb n lb lc real) (p j : Nat) (hp : p < n) (hj : j < (real p).length) : w.cell? ⟨lb p, j, none⟩ = some (.int .u8 ((real p).getD j 0)) := by
  have := (h.own p hp).cells (g := lb p) rfl j (.int .u8 ((real p).getD j 0)) (by rw [List.getElem?_map, List.getElem?_eq_getElem hj, List.getD_eq_getElem?_getD, List.getElem?_eq_getElem hj]; rfl)
  rw [Addr.add_mid, Nat.zero_add] at this
  exact this
/-- One input more at the end of a player's. -/
theorem RecAt.push {w w5 : World} {base rb n p : Nat} {lb lc : Nat → Nat} {real : Nat → List Int} {v : Int} {v' : Value} (h : RecAt w base rb n lb lc real) (hp : p < n)
    (hown : w5.ownsRow base 5 1 v' ((real p).length + 1) ((real p).map (Value.int .u8) ++ [.int .u8 v])) (hg : (w.alloc (.cells #[.int .u8 v] 5)).grownBy w5 (some (lb p))) (hloc : v'.ownBlock = some (lb p) ∨ v'.ownBlock = some (w.heap.size + 1)) :
    ∃ g c, v' = .slice (some ⟨g, 0, none⟩) ((real p).length + 1) c ∧ (g = lb p ∨ g = w.heap.size + 1) ∧ Blk w5 rb (Classical.choose h.row) 35 ∧ RecAt (w5.setCell ⟨rb, p, none⟩ v') base rb n (fun q => if q = p then g else lb q) (fun q => if q = p then c else lc q) (grown real p v) ∧ Chg (RecF rb n lb) w (w5.setCell ⟨rb, p, none⟩ v') := by
  obtain ⟨g, c, rfl, hbg, hgl, hnc⟩ := own_some hown (by omega)
  have hgg : g = lb p ∨ g = w.heap.size + 1 := hloc.imp (fun e => by simpa [Value.ownBlock] using e) (fun e => by simpa [Value.ownBlock] using e)
  have hW : Below w.heap.size w (w.alloc (.cells #[.int .u8 v] 5)) := (Below.refl _ w).alloc (Nat.le_refl _) _
  have hzA : (w.alloc (.cells #[.int .u8 v] 5)).heap.size = w.heap.size + 1 := by simp
  have hold : ∀ k, k < w.heap.size → k ≠ lb p → w5.heap[k]? = w.heap[k]? := fun k hk hne => (hg.block k (by omega) (fun e => hne (by simpa using e))).trans (hW.block k hk)
  have hr := Classical.choose_spec h.row
  obtain ⟨hB, h1, h2⟩ := hr
  have hrb := hB.lt
  have hB5 : Blk w5 rb (Classical.choose h.row) 35 := (hold rb hrb (fun e => h.off p hp e.symm)).trans hB
  have hlt : ∀ q, q < n → lb q < w.heap.size := fun q hq => (h.lt (lb q) (.inr ⟨q, hq, rfl⟩)).2
  have hgrb : g ≠ rb := by
    rcases hgg with e | e
    · rw [e]; exact h.off p hp
    · omega
  have hrV : ∀ q, q ≠ p → recV (fun q => if q = p then g else lb q) (fun q => if q = p then c else lc q) (grown real p v) q = recV lb lc real q := fun q hq => by simp [recV, hq, grown_other _ _ _ _ hq]
  have hrP : recV (fun q => if q = p then g else lb q) (fun q => if q = p then c else lc q) (grown real p v) p = .slice (some ⟨g, 0, none⟩) ((real p).length + 1) c := by simp [recV, grown_same]
  refine ⟨g, c, rfl, hgg, hB5, ⟨⟨_, hB5.set p _, by simp [h1], fun q hq => ?_⟩, fun q hq => ?_, fun q q' hq hq' e => ?_, fun q hq => ?_, h.bs⟩, ?_⟩
  · by_cases e : q = p
    · subst e
      rw [hrP, Array.getElem?_setIfInBounds_self_of_lt (by omega)]
    · rw [hrV q e, Array.getElem?_setIfInBounds_ne (Ne.symm e)]
      exact h2 q hq
  · by_cases e : q = p
    · subst e
      rw [hrP, grown_same, List.length_append, List.map_append]
      refine owns_same hown (fun k hk => heap_setCell_other _ _ _ _ ?_)
      have : g = k := by simpa [Value.ownBlock] using hk
      rw [← this]; exact hgrb
    · rw [hrV q e, grown_other _ _ _ _ e]
      refine owns_same (h.own q hq) (fun k hk => ?_)
      have hk2 : lb q = k := by simpa [recV, Value.ownBlock] using hk
      subst hk2
      rw [heap_setCell_other _ _ _ _ (h.off q hq)]
      exact hold _ (hlt q hq) (fun e2 => e (h.apart q p hq hp e2))
  · by_cases e1 : q = p
    · by_cases e2 : q' = p
      · rw [e1, e2]
      · simp only [if_pos e1, if_neg e2] at e
        rcases hgg with e3 | e3
        · rw [e1]; exact h.apart p q' hp hq' (e3 ▸ e)
        · have := hlt q' hq'; omega
    · by_cases e2 : q' = p
      · simp only [if_neg e1, if_pos e2] at e
        rcases hgg with e3 | e3
        · rw [e2]; exact h.apart q p hq hp (e3 ▸ e)
        · have := hlt q hq; omega
      · simp only [if_neg e1, if_neg e2] at e
        exact h.apart q q' hq hq' e
  · by_cases e : q = p
    · simp only [if_pos e]; exact hgrb
    · simp only [if_neg e]; exact h.off q hq
  · refine ⟨hg.os.trans hW.os, hg.tape.trans hW.tape, hg.output.trans hW.output, by rw [World.size_setCell]; have := hg.size; omega, fun k hk hF => ?_⟩
    rw [heap_setCell_other _ _ _ _ (fun e => hF (.inl e))]
    exact hold k hk (fun e => hF (.inr ⟨p, hp, e⟩))
theorem Tryz.infoBsK : (Tryz.prog.info? 35).map (fun i => (i.zero, i.size, i.bytes)) = some (some (.slice none 0 0), 1, 24) := by kernel_rfl
set_option maxRecDepth 10000 in
theorem Tryz.made_bytes (n : Nat) (hn : n ≤ 1000) (w : World) : (Instr.makeSlice 35 (.int .i64 (n : Int)) (.int .i64 (n : Int))).run Tryz.prog w = .ok (.slice (some ⟨w.heap.size, 0, none⟩) n n) (w.alloc (.cells (nums .u8 (List.replicate n 0)) 5)) := by
  obtain ⟨i8, hi8, hz8, hs8, hy8⟩ := info_parts Tryz.infoU8
  rw [run_make w 35 5 i8 (.int .u8 0) Tryz.underlying35 hi8 hz8 .i64 .i64 _ _ (by omega) (Int.le_refl _) (by rw [hy8]; omega) (by omega)]
  rw [show ((n : Int)).toNat = n by omega, hs8, Nat.mul_one]
  congr 3
  apply Array.ext
  · simp [madeCells, nums]
  · intro i h1 h2
    simp [madeCells, nums, Value.cells, Nat.mod_one]
set_option maxRecDepth 10000 in
set_option maxHeartbeats 1600000 in
theorem record_any (n d : Nat) (w : World) (hn2 : 2 ≤ n) (hn : n ≤ 4) (hd : d ≤ 3) :
    Calls Tryz.prog 12 #[.int .i64 (n : Int), .int .i64 (d : Int)] w fun e w' => e = .returned (.slice (some ⟨w.heap.size, 0, none⟩) n n) ∧ RecAt w' w.heap.size w.heap.size n (fun p => w.heap.size + 1 + p) (fun _ => d) (fun _ => List.replicate d 0) ∧ Below w.heap.size w w' := by
  obtain ⟨C, hC, hmk⟩ := made_row 33 35 _ 1 24 Tryz.underlying33 Tryz.infoBsK (by omega) n (by omega)
  have hmb := Tryz.made_bytes d (by omega)
  obtain ⟨ZD, hZD⟩ : ∃ Z, nums .u8 (List.replicate d 0) = Z := ⟨_, rfl⟩
  rw [hZD] at hmb
  have HZ := hide hZD
  clear hZD
  go_enter Tryz.func12, Tryz.ntmps12
  go_wp2_with fail
  obtain ⟨W, hW⟩ : ∃ W, W = w.alloc (.cells C 35) := ⟨_, rfl⟩
  have hWb : Below w.heap.size w W := by rw [hW]; exact (Below.refl _ w).alloc (Nat.le_refl _) _
  have hWB : Blk W w.heap.size C 35 := by rw [hW]; exact Blk.new _ _ _
  have hWz : W.heap.size = w.heap.size + 1 := by rw [hW]; simp
  rw [← hW]
  have HW := hide (And.intro hWb (And.intro hWB hWz))
  clear hW hWb hWB hWz
  obtain ⟨rb, hrb⟩ : ∃ rb, w.heap.size = rb := ⟨_, rfl⟩
  rw [hrb]
  have HR := hide hrb
  clear hrb
  go_loopw [6] (fun i wr => ∃ (k : Nat) (cs : Array Value), k ≤ n ∧ i = .int .i64 (k : Int) ∧ Blk wr rb cs 35 ∧ cs.size = n ∧ (∀ p, p < k → cs[p]? = some (.slice (some ⟨rb + 1 + p, 0, none⟩) d d) ∧ Blk wr (rb + 1 + p) ZD 5) ∧ wr.heap.size = rb + 1 + k ∧ Below rb w wr) (fun i _ => n - (intOf i).toNat)
  case atStart =>
    obtain ⟨hWb, hWB, hWz⟩ := unhide HW
    rw [unhide HR] at hWb hWB hWz
    exact ⟨0, C, by omega, rfl, hWB, by omega, fun p hp => by omega, by omega, hWb⟩
  case round =>
    obtain ⟨k, cs, hk, rfl, hB, hcs, hall, hz, hb⟩ := hrel
    by_cases hlt : k < n
    · have c0 : wr.frozen? ⟨rb, k, none⟩ = false := hB.frozen k
      have c1 : (wr.cell? ⟨rb, k, none⟩).isSome = true := by rw [hB.cell, Array.getElem?_eq_getElem (by omega)]; rfl
      obtain ⟨cv, hcv⟩ := Option.isSome_iff_exists.1 c1
      have hBA := hB.alloc (.cells ZD 5)
      have c2 := hBA.frozen k
      have c3 : (wr.alloc (.cells ZD 5)).cell? ⟨rb, k, none⟩ = some cv := by rw [hBA.cell, ← hB.cell]; exact hcv
      have H := hide (And.intro hB (And.intro hcs (And.intro hall (And.intro hz hb))))
      clear hB hcs hall hz hb c0 c1 hBA hcv
      go_wp2_with fail
      go_roundw
      case rel =>
        obtain ⟨hB, hcs, hall, hz, hb⟩ := unhide H
        have hrl := hB.lt
        refine ⟨k + 1, cs.setIfInBounds k (.slice (some ⟨rb + 1 + k, 0, none⟩) d d), by omega, by go_num, ?_, by simp [hcs], fun p hp => ?_, by simp [hz]; omega, (hb.alloc (by omega) _).setCell (p := ⟨rb, k, none⟩) (Nat.le_refl _) _⟩
        · have := (hB.alloc (.cells ZD 5)).set k (.slice (some ⟨wr.heap.size, 0, none⟩) d d)
          rw [hz] at this ⊢
          exact this
        · by_cases e : p = k
          · subst e
            refine ⟨by rw [Array.getElem?_setIfInBounds_self_of_lt (by omega)], ?_⟩
            have := Blk.setOther (Blk.new wr ZD 5) ⟨rb, p, none⟩ (.slice (some ⟨wr.heap.size, 0, none⟩) d d) (by show wr.heap.size ≠ rb; omega)
            rw [hz] at this ⊢
            exact this
          · obtain ⟨q1, q2⟩ := hall p (by omega)
            exact ⟨by rw [Array.getElem?_setIfInBounds_ne (Ne.symm e)]; exact q1, (q2.alloc _).setOther _ _ (by show rb + 1 + p ≠ rb; omega)⟩
      case measure => simp [intOf]; omega
    · have hd0 : decide ((k : Int) < (n : Int)) = false := by simp; omega
      have hkn : k = n := by omega
      have H := hide (And.intro hB (And.intro hcs (And.intro hall (And.intro hz hb))))
      clear hB hcs hall hz hb
      go_wp2_with fail
      go_ret
      obtain ⟨hB, hcs, hall, hz, hb⟩ := unhide H
      subst hkn
      refine ⟨by rw [unhide HR]; rfl, ?_, ?_⟩
      · rw [unhide HR]
        refine ⟨⟨cs, hB, hcs, fun p hp => by rw [(hall p hp).1]; simp [recV]⟩, fun p hp => ?_, fun p q _ _ e => by omega, fun p hp => by omega, Nat.le_refl _⟩
        have := (hall p hp).2
        rw [← unhide HZ] at this
        refine ⟨by simp, .inr ⟨rb + 1 + p, d, nums .u8 (List.replicate d 0), by simp [recV], by omega, this, by simp, by unfold maxLen; omega, by simp [nums_size], ?_⟩⟩
        simp [nums]
      · rw [unhide HR]; exact hb
end Go.Proofs.YtandblanpafjoabGreatDoor

namespace Go.Proofs.YtandblanpafjoabGreatDoor
open Go.RowKit Go.Extern.Stop Go.Stop Go.Extern

/-! rows: the first frames of a record. -/
def rowV (real : Nat → List Int) (j p : Nat) : List Int := (List.range p).map fun q => (real q).getD j 0
theorem rowV_succ (real : Nat → List Int) (j p : Nat) : (rowV real j (p + 1)).map (Value.int .u8) = (rowV real j p).map (Value.int .u8) ++ [.int .u8 ((real p).getD j 0)] := by simp [rowV, List.range_succ]
theorem rowV_len (real : Nat → List Int) (j p : Nat) : (rowV real j p).length = p := by simp [rowV]
theorem rowsM_get (real : Nat → List Int) (n f j : Nat) (hj : j < f) : (rowsM real n f).getD j [] = rowV real j n := by simp [rowsM, rowV, List.getD_eq_getElem?_getD, hj]
theorem rowsM_len (real : Nat → List Int) (n f : Nat) : (rowsM real n f).length = f := by simp [rowsM]
theorem beg_of_owns {w : World} {base g n c : Nat} {l : List Int} (h : w.ownsRow base 5 1 (.slice (some ⟨g, 0, none⟩) n c) n (l.map (Value.int .u8))) : Beg w g l := by
  have hl : l.length = n := by have := h.1; simpa using this
  rcases h.2 with ⟨h', _⟩ | ⟨g', cap', cur, h', _, hg, hnc, hcm, hcs, ht⟩
  · simp at h'
  · simp only [Value.slice.injEq, Option.some.injEq, Addr.mk.injEq, and_true, true_and] at h'
    obtain ⟨rfl, rfl⟩ := h'
    refine ⟨cur, _, hg, fun q hq => ?_⟩
    have h3 : (cur.toList.take (n * 1))[q]? = (l.map (Value.int .u8))[q]? := by rw [ht]
    rw [List.getElem?_take_of_lt (by omega), List.getElem?_map, List.getElem?_eq_getElem hq] at h3
    rw [List.getD_eq_getElem?_getD, List.getElem?_eq_getElem hq]
    simpa using h3
set_option maxRecDepth 10000 in
set_option maxHeartbeats 4000000 in
theorem rows_any (base rb n f : Nat) (lb lc : Nat → Nat) (real : Nat → List Int) (w : World) (h : RecAt w base rb n lb lc real) (hn2 : 2 ≤ n) (hn : n ≤ 4) (hf : f ≤ 1000) (hlen : ∀ p, p < n → f ≤ (real p).length ∧ (real p).length ≤ 1000) :
    Calls Tryz.prog 14 #[.slice (some ⟨rb, 0, none⟩) n n, .int .i64 (f : Int)] w fun e w' => ∃ ov, e = .returned (.tuple #[ov, .bool true]) ∧ FrAt w' ov (rowsM real n f) ∧ Below w.heap.size w w' := by
  have HR := hide h
  have HLE := hide hlen
  clear h hlen
  obtain ⟨i8, hi8, hz0, hz1, hz2⟩ := info_parts Tryz.infoU8
  obtain ⟨iT, hiT, hT0, hT1, hT2⟩ := info_parts Tryz.infoBsK
  go_enter Tryz.func14, Tryz.ntmps14
  go_wp2_with fail
  go_loopw [6, 7] (fun s6 s7 wr => ∃ (j : Nat) (xs : List Value), j ≤ f ∧ s7 = .int .i64 (j : Int) ∧ wr.ownsRow w.heap.size 35 1 s6 j xs ∧ ListsAt wr w.heap.size (rowsM real n f) j xs ∧ Below w.heap.size w wr) (fun _ s7 _ => f - (intOf s7).toNat)
  case atStart => exact ⟨0, [], by omega, rfl, ⟨rfl, .inl ⟨rfl, rfl⟩⟩, fun i hi => by omega, Below.refl _ _⟩
  case round =>
    obtain ⟨j, xs, hj, rfl, hown, hls, hb⟩ := hrel
    by_cases hlt : j < f
    · have hd : decide ((j : Int) < (f : Int)) = true := by simp; omega
      have hR := (unhide HR).below hb
      have HO := hide (And.intro hown (And.intro hls hb))
      have HRR := hide hR
      clear hown hls hb hR
      go_wp2_with fail
      obtain ⟨W1, hW1⟩ : ∃ x, x = wr := ⟨_, rfl⟩
      subst hW1
      go_loopw [8, 9] (fun s8 s9 w2 => ∃ (p : Nat), p ≤ n ∧ s9 = .int .i64 (p : Int) ∧ w2.ownsRow W1.heap.size 5 1 s8 p ((rowV real j p).map (Value.int .u8)) ∧ Below W1.heap.size W1 w2) (fun _ s9 _ => n - (intOf s9).toNat)
      case atStart => exact ⟨0, by omega, rfl, ⟨rfl, .inl ⟨rfl, rfl⟩⟩, Below.refl _ _⟩
      case round =>
        obtain ⟨w2, hw2⟩ : ∃ x, x = wr := ⟨_, rfl⟩
        subst hw2
        obtain ⟨p, hp, rfl, hown8, hb2⟩ := hrel
        by_cases hpn : p < n
        · have hR2 := (unhide HRR).below hb2
          obtain ⟨c1, _⟩ := hR2.cell p hpn
          obtain ⟨q1, q2⟩ := unhide HLE p hpn
          have c2 := hR2.byte p j hpn (by omega)
          obtain ⟨L, hL⟩ : ∃ L, (real p).length = L := ⟨_, rfl⟩
          obtain ⟨x, hx⟩ : ∃ x, (real p).getD j 0 = x := ⟨_, rfl⟩
          obtain ⟨g1, hg1⟩ : ∃ g, lb p = g := ⟨_, rfl⟩
          obtain ⟨m1, hm1⟩ : ∃ g, lc p = g := ⟨_, rfl⟩
          unfold recV at c1
          rw [hL, hg1, hm1] at c1
          rw [hx, hg1] at c2
          rw [hL] at q1 q2
          have hge : decide ((L : Int) ≤ (j : Int)) = false := by simp; omega
          have hge2 : decide (L ≤ j) = false := by simp; omega
          have HX := hide hx
          obtain ⟨vp, vc, hs8⟩ : ∃ vp vc, u8 = .slice vp p vc := by
            rcases hown8.2 with ⟨h1, h2⟩ | ⟨g, cap, cur, h1, _⟩
            · exact ⟨none, 0, by rw [h1, h2]⟩
            · exact ⟨_, _, h1⟩
          subst hs8
          have H8 := hide (And.intro hown8 hb2)
          have hbs := hb2.size
          clear hown8 hb2 hR2 hL hx hg1 hm1
          go_wp2_with (at_builtin; (refine wpList_append_own _ rfl (.tmp 28) (.tmp 36) 35 rfl W1.heap.size 5 i8 (.int .u8 0) 1 1 Tryz.underlying35 hi8 hz0 hz1 hz2 rfl (by decide) (.slice vp p vc) p _ rfl ((unhide H8).1.alloc _) ⟨w2.heap.size, 0, none⟩ 1 1 [.int .u8 x] rfl rfl (cell_one_new _ _ _) (fun x hx => by simp at hx; subst hx; rfl) (by unfold maxLen; omega) (by omega) (by simp; omega) ?_); intro v5 w5 hown5 hgr5 hnil5; have H5 := hide (And.intro hown5 hgr5); clear hown5 hgr5 hnil5)
          go_roundw
          case rel =>
            obtain ⟨hown8, hb2⟩ := unhide H8
            obtain ⟨hown5, hgr5⟩ := unhide H5
            refine ⟨p + 1, by omega, by go_num, by rw [rowV_succ, unhide HX]; exact hown5, (hb2.alloc hbs _).grown hgr5 (by simp; omega) (fun k e => (hown8.lt k e).1)⟩
          case measure => simp [intOf]; omega
        · have hd2 : decide (p < n) = false := by simp; omega
          have hpe : p = n := by omega
          subst hpe
          obtain ⟨g8, c8, hs8, hg8, hg8l, hnc⟩ := own_some hown8 (by omega)
          subst hs8
          obtain ⟨hown, hls, hb⟩ := unhide HO
          obtain ⟨vp, vc, hs6⟩ : ∃ vp vc, u6 = .slice vp j vc := by
            rcases hown.2 with ⟨h1, h2⟩ | ⟨g, cap, cur, h1, _⟩
            · exact ⟨none, 0, by rw [h1, h2]⟩
            · exact ⟨_, _, h1⟩
          subst hs6
          have hown6 : w2.ownsRow w.heap.size 35 1 (.slice vp j vc) j xs := hown.kept (grown_below hb2 none) (by cases e : (Value.slice vp j vc).ownBlock <;> simp)
          have hs2 := hb2.size
          have hsw := hb.size
          have hbeg := beg_of_owns hown8
          have H8 := hide (And.intro hown6 (And.intro hb2 hbeg))
          clear hown8 hb2 hown hls hb hown6 hbeg
          go_wp2_with (at_builtin; (refine wpList_append_own _ rfl (.tmp 38) (.tmp 40) 33 rfl w.heap.size 35 iT (.slice none 0 0) 1 24 Tryz.underlying33 hiT hT0 hT1 hT2 rfl (by decide) (.slice vp j vc) j _ rfl ((unhide H8).1.alloc _) ⟨w2.heap.size, 0, none⟩ 1 1 [.slice (some ⟨g8, 0, none⟩) p c8] rfl rfl (cell_one_new _ _ _) (fun x hx => by simp at hx; subst hx; rfl) (by unfold maxLen; omega) (by omega) (by simp; omega) ?_); intro v5 w5 hown5 hgr5 hnil5; have H5 := hide (And.intro hown5 hgr5); clear hown5 hgr5 hnil5)
          go_roundw
          case rel =>
            obtain ⟨hown6, hb2, hbeg⟩ := unhide H8
            obtain ⟨hown5, hgr5⟩ := unhide H5
            obtain ⟨hown, hls, hb⟩ := unhide HO
            have hbB : Below w.heap.size w w2 := hb.trans (hb2.mono hsw)
            refine ⟨j + 1, xs ++ [.slice (some ⟨g8, 0, none⟩) p c8], by omega, by go_num, hown5, lists_push hown hls hb2 (b := g8) (c := c8) (by omega) (by rw [rowsM_get _ _ _ _ hlt]; exact hbeg) _ (by rw [rowsM_get _ _ _ _ hlt, rowV_len]) hgr5, (hbB.alloc hbB.size _).grown hgr5 (by simp; omega) (fun k e => (hown6.lt k e).1)⟩
          case measure => simp [intOf]; omega
    · have hd : decide ((j : Int) < (f : Int)) = false := by simp; omega
      have hje : j = f := by omega
      subst hje
      have HO := hide (And.intro hown (And.intro hls hb))
      clear hown hls hb
      go_wp2_with fail
      go_ret2
      obtain ⟨hown, hls, hb⟩ := unhide HO
      refine ⟨_, rfl, frAt_of_lists (base := w.heap.size) (xs := xs) (by rw [rowsM_len]; exact hown) (by rw [rowsM_len]; exact hls), hb⟩
end Go.Proofs.YtandblanpafjoabGreatDoor

