import Derived.Test.YtandblanpafjoaaGreatDoorPack41
import Derived.Test.YtandblanpafjoaaGreatDoorPack15
namespace Go.Proofs.YtandblanpafjoaaGreatDoor
open Go.RowKit Go.Extern.Stop Go.Stop Go.Extern
set_option maxRecDepth 100000 in
set_option maxHeartbeats 400000 in
theorem roomy_big (s : ByteArray) (w : World) (hs : s.size ≤ 70000) :
    Calls Tryz.prog 39 #[.string s] w fun e w' => e = .returned (.slice (some ⟨w.heap.size, 0, none⟩) s.size (s.size + 2)) ∧ w' = w.alloc (.cells (nums .u8 (bytesOf s ++ [77, 88])) 5) := by
  obtain ⟨i8, hi8, hz8, hs8, hy8⟩ := info_parts Tryz.infoU8
  have hmk : ∀ W : World, (Instr.makeSlice 46 (.int .i64 ((s.size : Int) + 2)) (.int .i64 ((s.size : Int) + 2))).run Tryz.prog W = .ok (.slice (some ⟨W.heap.size, 0, none⟩) (s.size + 2) (s.size + 2)) (W.alloc (.cells (nums .u8 (List.replicate (s.size + 2) 0)) 5)) := fun W => by
    rw [run_make W 46 5 i8 (.int .u8 0) Tryz.underlying46 hi8 hz8 .i64 .i64 _ _ (by omega) (Int.le_refl _) (by rw [hy8]; omega) (by omega)]
    rw [show ((s.size : Int) + 2).toNat = s.size + 2 by omega, hs8, Nat.mul_one, show madeCells (Value.cells (.int .u8 0)) (s.size + 2) = nums .u8 (List.replicate (s.size + 2) 0) from made_zeros _]
  have hcp := run_copy_str (P := Tryz.prog) (w.alloc (.cells (nums .u8 (List.replicate (s.size + 2) 0)) 5)) 46 9 3 5 w.heap.size (s.size + 2) (s.size + 2) s _ 5 Tryz.underlying46 (by kernel_rfl) (Blk.new _ _ _) (by omega) (by simp)
  rw [World.setRow_alloc_new] at hcp
  have hx0 : (nums .u8 (bytesOf s ++ [0, 0]))[s.size]? = some (.int .u8 0) := by
    rw [nums_get _ _ _ (by simp [bytesOf_len])]; simp [← bytesOf_len]
  have hx1 : (nums .u8 (bytesOf s ++ [0, 0]))[s.size + 1]? = some (.int .u8 0) := by
    rw [nums_get _ _ _ (by simp [bytesOf_len])]; simp [← bytesOf_len]
  clear hi8 hz8 hs8 hy8
  go_enter Tryz.func39, Tryz.ntmps39
  go_wp2
  go_ret
  refine ⟨rfl, ?_⟩
  rw [nums_set, nums_set, room_bytes]
set_option maxRecDepth 100000 in
set_option maxHeartbeats 400000 in
theorem still_big (s : ByteArray) (g : Nat) (w : World) (hs : s.size ≤ 70000) (hblk : Blk w g (nums .u8 (bytesOf s ++ [77, 88])) 5) :
    Calls Tryz.prog 41 #[.slice (some ⟨g, 0, none⟩) s.size (s.size + 2), .string s] w fun e w' => e = .returned (.bool true) ∧ w' = w := by
  have hcv : (convert 46 9 (.slice (some ⟨g, 0, none⟩) s.size (s.size + 2))).run Tryz.prog w = .ok (.string s) w := by
    have := run_convert_bytes_arg w 46 5 Tryz.underlying46 Tryz.underlying5 g 0 s.size (s.size + 2) (bytesOf s) (bytesOf_len s) (fun i hi => by
      rw [Nat.zero_add, hblk.num i (by simp [bytesOf_len]; omega)]
      rw [List.getD_eq_getElem?_getD, List.getElem?_append_left (by rw [bytesOf_len]; exact hi)]; rfl) 9 Tryz.underlying9
    rw [strOf_bytes] at this
    exact this
  have hc0 : w.cell? ⟨g, s.size, none⟩ = some (.int .u8 77) := by
    rw [hblk.num _ (by simp [bytesOf_len])]; simp [← bytesOf_len]
  have hc1 : w.cell? ⟨g, s.size + 1, none⟩ = some (.int .u8 88) := by
    rw [hblk.num _ (by simp [bytesOf_len])]; simp [← bytesOf_len]
  clear hblk
  go_enter Tryz.func41, Tryz.ntmps41
  go_wp2
  go_ret
  exact ⟨rfl, rfl⟩
theorem roomy_cell {w : World} {g : Nat} (s : ByteArray) (h : Blk w g (nums .u8 (bytesOf s ++ [77, 88])) 5) (j : Nat) (hj : j < s.size) : w.cell? ⟨g, 0 + j, none⟩ = some (.int .u8 ((bytesOf s).getD j 0)) := by
  rw [Nat.zero_add, h.num j (by simp [bytesOf_len]; omega)]
  rw [List.getD_eq_getElem?_getD, List.getElem?_append_left (by rw [bytesOf_len]; exact hj)]; rfl
theorem grown_blw {w w' : World} {B g : Nat} (h : w.grownBy w' (some g)) (hB : B ≤ w.heap.size) (hg : B ≤ g) : Below B w w' := ⟨h.os, h.tape, h.output, h.size, fun k hk => h.block k (by omega) (fun e => by injection e with e; omega)⟩
set_option maxRecDepth 10000 in
set_option maxHeartbeats 8000000 in
theorem lhand_any (g nb : Nat) (p : Int) (s : ByteArray) (f : Nat → Prop) (m : NetM) (w : World) (hgL : Laid w) (h : Both w g nb f m) (hf1 : ∀ k, f k → 1 ≤ k) (hs : s.size ≤ 70000) (hdr : ∀ q, (m.peers q).dropped + 1 ≤ 1000000000) :
    Calls Tryz.prog 17 #[.agg #[.pointer (some ⟨g, 0, none⟩), .pointer (some ⟨nb, 0, none⟩)], .int .i64 p, .string s] w fun e w' => LPost w g nb f m e w' := by
  have bB : Below w.heap.size w (w.alloc (.cells #[.pointer (some ⟨g, 0, none⟩), .pointer (some ⟨nb, 0, none⟩)] 38)) := (Below.refl _ w).alloc (Nat.le_refl _) _
  have xB : Blk (w.alloc (.cells #[.pointer (some ⟨g, 0, none⟩), .pointer (some ⟨nb, 0, none⟩)] 38)) w.heap.size #[.pointer (some ⟨g, 0, none⟩), .pointer (some ⟨nb, 0, none⟩)] 38 := Blk.new _ _ _
  have hzB : (w.alloc (.cells #[.pointer (some ⟨g, 0, none⟩), .pointer (some ⟨nb, 0, none⟩)] 38)).heap.size = w.heap.size + 1 := by simp
  have hcv : ∀ W, (convert 9 46 (.string s)).run Tryz.prog W = .ok (.slice (some ⟨W.heap.size, 0, none⟩) s.size (grownCap W s.size 0 5)) (Lib.bytesWorld W 5 s) := fun W => Lib.run_convert_string_bytes W 9 46 5 s Tryz.underlying9 Tryz.underlying46 Tryz.underlying5
  have H0 := hide h
  obtain ⟨pv, pb, F, ro, hN, hR, hd, hf⟩ := h
  have hok := hN.rok
  have hFl := fun k (hk : F k) => hN.lt k hk
  have hF1 : ∀ k, F k → 1 ≤ k := fun k hk => hf1 k ((hf k).2 (.inl hk))
  have HFl := hide hFl
  have HF1 := hide hF1
  have HDR := hide hdr
  have HOK := hide hok
  have HCV := hide hcv
  clear hFl hF1 hf1 hdr hok hcv
  go_enter Tryz.func17, Tryz.ntmps17
  go_upto_region 1 with fail
  generalize w.alloc (.cells #[.pointer (some ⟨g, 0, none⟩), .pointer (some ⟨nb, 0, none⟩)] 38) = W at *
  have HZB := hide hzB
  have hWw : w.heap.size < W.heap.size := by omega
  clear hzB
  have hrc := roomy_big s W hs
  have HN := hide (And.intro hN (And.intro hR (And.intro hd hf)))
  have HB := hide (And.intro bB xB)
  clear hN hR hd hf bB xB
  go_wp2_with fail
  refine hrc.mono ?_
  clear hrc
  rintro e w2 ⟨rfl, hw2⟩
  have x2 : Blk w2 W.heap.size (nums .u8 (bytesOf s ++ [77, 88])) 5 := by rw [hw2]; exact Blk.new _ _ _
  have b2 : Below W.heap.size W w2 := by rw [hw2]; exact (Below.refl _ W).alloc (Nat.le_refl _) _
  have hz2 : w2.heap.size = w.heap.size + 2 := by rw [hw2]; simp; exact unhide HZB
  have bW2 : Below w.heap.size w w2 := (unhide HB).1.trans (b2.mono (by omega))
  have xB2 : Blk w2 w.heap.size #[.pointer (some ⟨g, 0, none⟩), .pointer (some ⟨nb, 0, none⟩)] 38 := (b2.block _ (by omega)).trans (unhide HB).2
  have hL2 : Laid w2 := hgL.below hgL.lt bW2
  have x0 : w2.cell? ⟨w.heap.size, 0, none⟩ = some (.pointer (some ⟨g, 0, none⟩)) := xB2.cell 0
  have H2 := hide (And.intro bW2 (And.intro xB2 x2))
  have hN2 := (unhide HN).1.below bW2
  have HZ2 := hide hz2
  have hWw2 : W.heap.size < w2.heap.size := by have := unhide HZB; omega
  clear hw2 b2 bW2 xB2 HB hz2
  by_cases hp : NoP m p
  · have hcall := pphand_bad g p (.slice (some ⟨W.heap.size, 0, none⟩) s.size (s.size + 2)) pv pb F m w2 hL2 hN2 hp
    have hno := noP_is hp
    have HNO := hide hno
    clear hp hno hN2 x2
    go_wp2_with fail
    refine hcall.mono ?_
    clear hcall
    rintro e w3 ⟨rfl, hb3⟩
    have x3 : Blk w3 W.heap.size (nums .u8 (bytesOf s ++ [77, 88])) 5 := (hb3.block _ (by omega)).trans (unhide H2).2.2
    have xB3 : Blk w3 w.heap.size #[.pointer (some ⟨g, 0, none⟩), .pointer (some ⟨nb, 0, none⟩)] 38 := (hb3.block _ (by omega)).trans (unhide H2).2.1
    have hsc := still_big s W.heap.size w3 hs x3
    have hpc := spoilt_row W.heap.size s.size (s.size + 2) _ 5 w3 (by simp [nums, bytesOf_len]) (by unfold maxLen; omega) (by omega) x3
    have bW3 := (unhide H2).1.trans (hb3.mono (unhide H2).1.size)
    have hz3 := hb3.size
    have H3 := hide (And.intro xB3 bW3)
    clear hb3 x3 xB3 bW3 x0
    go_wp2_with fail
    refine hsc.mono ?_
    clear hsc
    rintro e w3' ⟨rfl, rfl⟩
    go_wp2_with fail
    refine hpc.mono ?_
    clear hpc
    rintro e w4 ⟨rfl, _, hg4⟩
    have hB4 : Below w.heap.size w3' w4 := grown_blw hg4 (by omega) (by omega)
    have bW4 := (unhide H3).2.trans hB4
    have xB4 : Blk w4 w.heap.size #[.pointer (some ⟨g, 0, none⟩), .pointer (some ⟨nb, 0, none⟩)] 38 := (hg4.block _ (by omega) (fun e => by injection e with e; omega)).trans (unhide H3).1
    have hic := ris_any nb p ro m w4 ((unhide HN).2.1.below bW4)
    rw [unhide HNO] at hic
    have x1 : w4.cell? ⟨w.heap.size, 1, none⟩ = some (.pointer (some ⟨nb, 0, none⟩)) := xB4.cell 1
    have H4 := hide bW4
    clear hB4 bW4 xB4 hg4
    go_wp2_with fail
    refine hic.mono ?_
    clear hic
    rintro e w5 ⟨rfl, rfl⟩
    go_wp2
    go_ret
    exact LPost.read (unhide H0) (unhide H4)
  · obtain ⟨q, rfl, hq⟩ := isP hp
    clear hp
    have his := isP_is hq
    have hcall := pphand_any g pv pb F m w2 hL2 hN2 (unhide HF1) q W.heap.size 0 s.size (s.size + 2) (bytesOf s) hq (bytesOf_len s) (by omega) (by omega) (bytesOf_range s) (roomy_cell s x2) x2.lt (unhide HDR q)
    clear hN2 x2
    go_wp2_with fail
    refine hcall.mono ?_
    clear hcall
    rintro e w3 ⟨rfl, hC3, F3, hN3, hF3⟩
    have hFW : ¬ F W.heap.size := fun e => by have := unhide HFl _ e; omega
    have hFw : ¬ F w.heap.size := fun e => by have := unhide HFl _ e; omega
    have x3 : Blk w3 W.heap.size (nums .u8 (bytesOf s ++ [77, 88])) 5 := (unhide H2).2.2.chg hC3 hFW
    have xB3 : Blk w3 w.heap.size #[.pointer (some ⟨g, 0, none⟩), .pointer (some ⟨nb, 0, none⟩)] 38 := (unhide H2).2.1.chg hC3 hFw
    have hC3' : Chg F w w3 := (Chg.ofBelow (unhide H2).1).trans hC3 (fun _ _ h => h)
    have hF3' : ∀ k, F3 k → F k ∨ w2.heap.size ≤ k := hF3
    have hsc := still_big s W.heap.size w3 hs x3
    have hpc := spoilt_row W.heap.size s.size (s.size + 2) _ 5 w3 (by simp [nums, bytesOf_len]) (by unfold maxLen; omega) (by omega) x3
    have hz3 := hC3.size
    have H3 := hide (And.intro xB3 (And.intro hC3' (And.intro hN3 hF3')))
    clear hC3 x3 xB3 hC3' hF3' hN3 hF3 x0
    have htv : ∃ t5 t6 : Int, tookV m q (bytesOf s) = .tuple #[.int .i64 t5, .int .i64 t6] ∧ (((m.take q (bytesOf s)).1 = true ∧ t5 = 0 ∧ t6 = -1) ∨ ((m.take q (bytesOf s)).1 = false ∧ t5 = 5 ∧ t6 = (q : Int))) := by
      unfold tookV
      by_cases ht : (m.take q (bytesOf s)).1 = true
      · rw [if_pos ht]; exact ⟨0, -1, rfl, .inl ⟨ht, rfl, rfl⟩⟩
      · rw [if_neg ht]; exact ⟨5, q, rfl, .inr ⟨by simpa using ht, rfl, rfl⟩⟩
    obtain ⟨t5, t6, htv, hcase⟩ := htv
    rw [htv]
    clear htv
    go_wp2_with fail
    refine hsc.mono ?_
    clear hsc
    rintro e w3' ⟨rfl, rfl⟩
    go_wp2_with fail
    refine hpc.mono ?_
    clear hpc
    rintro e w4 ⟨rfl, _, hg4⟩
    obtain ⟨xB3, hC3, hN3, hF3⟩ := unhide H3
    have hC4 : Chg F w w4 := hC3.trans (Chg.ofGrown (F := fun k => k = W.heap.size) hg4 rfl) (fun k hk e => by omega)
    have hN4 : NetQ w4 g pv pb F3 (m.take q (bytesOf s)).2 := hN3.same (fun k hk => hg4.block k (hN3.lt k hk) (fun e => by
      injection e with e
      rcases hF3 k hk with e2 | e2
      · have := unhide HFl k e2; omega
      · omega))
    have xB4 : Blk w4 w.heap.size #[.pointer (some ⟨g, 0, none⟩), .pointer (some ⟨nb, 0, none⟩)] 38 := (hg4.block _ (by omega) (fun e => by injection e with e; omega)).trans xB3
    have hR4 := (unhide HN).2.1.chg (unhide HN).2.2.1 hC4
    have hic := ris_any nb (q : Int) ro m w4 hR4
    rw [his] at hic
    have x1 : w4.cell? ⟨w.heap.size, 1, none⟩ = some (.pointer (some ⟨nb, 0, none⟩)) := xB4.cell 1
    have bS := bytesWorld_below w4 5 s
    have zS : (Lib.bytesWorld w4 5 s).heap.size = w4.heap.size + 1 := Lib.bytesWorld_size _ _ _
    have gS : ∀ j, j < s.size → (Lib.bytesWorld w4 5 s).cell? ⟨w4.heap.size, 0 + j, none⟩ = some (.int .u8 ((bytesOf s).getD j 0)) := fun j hj => by rw [Nat.zero_add]; exact bytesWorld_get w4 5 s j hj
    have hcv4 := unhide HCV w4
    have htc := rtake_any nb q w4.heap.size 0 s.size (grownCap w4 s.size 0 5) (bytesOf s) ro m (Lib.bytesWorld w4 5 s) (hR4.below bS) hq ((unhide HOK).ok q hq) (unhide HDR q) (bytesOf_len s) (by omega) (grownCap_ge _ _ _ _) (bytesOf_range s) gS (by omega)
    have H4 := hide (And.intro (hC4.trans (Chg.ofBelow (F := F) bS) (fun _ _ h => h)) (And.intro (hN4.below bS) (And.intro hF3 bS)))
    clear hC3 hN3 hF3 hC4 hN4 hR4 xB3 xB4 hg4 bS zS gS H3
    go_wp2_with fail
    refine hic.mono ?_
    clear hic
    rintro e w5 ⟨rfl, rfl⟩
    go_wp2_with fail
    refine htc.mono ?_
    clear htc hcv4
    rintro e w6 ⟨rfl, ro6, hR6, hT6⟩
    have hpost : BTo w g nb f w6 (m.take q (bytesOf s)).2 := by
      obtain ⟨hC5, hN5, hF5, _⟩ := unhide H4
      exact both_step (unhide HN).2.1 (unhide HN).2.2.1 (unhide HN).2.2.2 hC5 hN5 (fun k hk => (hF5 k hk).imp id (fun e => by omega)) hR6 hT6
    have HP := hide hpost
    clear hpost hR6 hT6 x1
    rcases hcase with ⟨ht, rfl, rfl⟩ | ⟨ht, rfl, rfl⟩
    · rw [ht]
      clear ht
      go_wp2
      go_ret
      exact ⟨rfl, _, Up.take m q (bytesOf s), unhide HP⟩
    · rw [ht]
      clear ht
      go_wp2
      go_ret
      exact ⟨rfl, _, Up.take m q (bytesOf s), unhide HP⟩
end Go.Proofs.YtandblanpafjoaaGreatDoor

namespace Go.Proofs.YtandblanpafjoaaGreatDoor
open Go.RowKit Go.Extern.Stop Go.Stop Go.Extern
inductive LR
  | none | law | ns | out | byt | pair (i : Nat)
  deriving DecidableEq
structure LN where
  g : Nat
  nb : Nat
  f : Nat → Prop
  m : NetM
def pairC (P : LN) : List Value := [.pointer (some ⟨P.g, 0, none⟩), .pointer (some ⟨P.nb, 0, none⟩)]
def pairsC (ps : Nat → LN) (n : Nat) : List Value := (List.range n).flatMap fun i => pairC (ps i)
def OutOk (w : World) (lo : Nat → LR) (v : Value) : Prop := ∃ g n c, v = .slice (some ⟨g, 0, none⟩) n c ∧ n ≤ c ∧ c ≤ maxLen ∧ Blk w g (nums .u8 (List.replicate c 99)) 5 ∧ lo g = .byt
structure LawAt (w : World) (lo : Nat → LR) (wb : Nat) (nsv outv : Value) (n : Nat) (ps : Nat → LN) (outs : List Value) : Prop where
  lt : ∀ k, lo k ≠ .none → k < w.heap.size
  pos : ∀ k, lo k ≠ .none → 1 ≤ k
  blk : Blk w wb #[nsv, outv] 30
  rb : lo wb = .law
  ns : w.ownsRow 0 38 2 nsv n (pairsC ps n)
  rn : ∀ k, nsv.ownBlock = some k → lo k = .ns
  out : w.ownsRow 0 46 1 outv outs.length outs
  ro : ∀ k, outv.ownBlock = some k → lo k = .out
  byt : ∀ v ∈ outs, OutOk w lo v
  pairs : ∀ i, i < n → Both w (ps i).g (ps i).nb (ps i).f (ps i).m
  rp : ∀ i k, i < n → (ps i).f k → lo k = .pair i
def LKeep (lo lo' : Nat → LR) (R : LR → Prop) (w w' : World) : Prop := ∀ k, k < w.heap.size → lo k ≠ .none → lo' k = lo k ∧ (¬ R (lo k) → w'.heap[k]? = w.heap[k]?)
theorem LKeep.own {lo lo' : Nat → LR} {R : LR → Prop} {w w' : World} (h : LKeep lo lo' R w w') {r : LR} {e : TypeId} {s n : Nat} {v : Value} {xs : List Value} (hO : w.ownsRow 0 e s v n xs) (hv : ∀ k, v.ownBlock = some k → lo k = r) (hr : r ≠ .none) (hR : ¬ R r) : w'.ownsRow 0 e s v n xs ∧ ∀ k, v.ownBlock = some k → lo' k = r := by
  have hk : ∀ k, v.ownBlock = some k → lo' k = r ∧ w'.heap[k]? = w.heap[k]? := fun k hk => by
    obtain ⟨e1, h2⟩ := h k (hO.lt k hk).2 (by rw [hv k hk]; exact hr)
    exact ⟨e1.trans (hv k hk), h2 (by rw [hv k hk]; exact hR)⟩
  exact ⟨owns_same hO (fun k hk' => (hk k hk').2), fun k hk' => (hk k hk').1⟩
theorem LKeep.byt {lo lo' : Nat → LR} {R : LR → Prop} {w w' : World} (h : LKeep lo lo' R w w') {v : Value} (hv : OutOk w lo v) (hR : ¬ R .byt) : OutOk w' lo' v := by
  obtain ⟨g, n, c, e, h1, h2, h3, h4⟩ := hv
  obtain ⟨e1, e2⟩ := h g h3.lt (by rw [h4]; simp)
  exact ⟨g, n, c, e, h1, h2, (e2 (by rw [h4]; exact hR)).trans h3, e1.trans h4⟩
theorem LKeep.both {lo lo' : Nat → LR} {R : LR → Prop} {w w' : World} (h : LKeep lo lo' R w w') (hz : w.heap.size ≤ w'.heap.size) {i g nb : Nat} {f : Nat → Prop} {m : NetM} (hB : Both w g nb f m) (hf : ∀ k, f k → lo k = .pair i) (hR : ¬ R (.pair i)) : Both w' g nb f m ∧ ∀ k, f k → lo' k = .pair i := by
  have hk : ∀ k, f k → lo' k = .pair i ∧ w'.heap[k]? = w.heap[k]? := fun k hk => by
    obtain ⟨e1, h2⟩ := h k (hB.lt k hk) (by rw [hf k hk]; simp)
    exact ⟨e1.trans (hf k hk), h2 (by rw [hf k hk]; exact hR)⟩
  exact ⟨hB.same (fun k hk' => (hk k hk').2) hz, fun k hk' => (hk k hk').1⟩
structure LTo (w : World) (lo : Nat → LR) (w' : World) (lo' : Nat → LR) : Prop where
  chg : Chg (fun k => lo k ≠ .none) w w'
  old : ∀ k, k < w.heap.size → lo' k ≠ .none → lo k ≠ .none
theorem LTo.refl (w : World) (lo : Nat → LR) : LTo w lo w lo := ⟨Chg.refl _ _, fun _ _ h => h⟩
theorem LTo.trans {w w' w'' : World} {lo lo' lo'' : Nat → LR} (h : LTo w lo w' lo') (k : LTo w' lo' w'' lo'') : LTo w lo w'' lo'' :=
  ⟨h.chg.trans k.chg (fun x hx hG => h.old x hx hG), fun x hx hG => h.old x hx (k.old x (Nat.lt_of_lt_of_le hx h.chg.size) hG)⟩
theorem LTo.ofBelow {w w' : World} {lo : Nat → LR} (h : Below w.heap.size w w') : LTo w lo w' lo := ⟨.ofBelow h, fun _ _ h => h⟩
theorem LawAt.below {w w' : World} {lo : Nat → LR} {wb n : Nat} {nsv outv : Value} {ps : Nat → LN} {outs : List Value} (h : LawAt w lo wb nsv outv n ps outs) (hb : Below w.heap.size w w') : LawAt w' lo wb nsv outv n ps outs := by
  have K : LKeep lo lo (fun _ => False) w w' := fun k hk _ => ⟨rfl, fun _ => hb.block k hk⟩
  exact { lt := fun k hk => Nat.lt_of_lt_of_le (h.lt k hk) hb.size, pos := h.pos, blk := (hb.block _ h.blk.lt).trans h.blk, rb := h.rb, ns := (K.own h.ns h.rn (by simp) (by simp)).1, rn := h.rn, out := (K.own h.out h.ro (by simp) (by simp)).1, ro := h.ro, byt := fun v hv => K.byt (h.byt v hv) (by simp), pairs := fun i hi => (K.both hb.size (h.pairs i hi) (h.rp i · hi) (by simp)).1, rp := h.rp }
theorem LawAt.laid {w w' : World} {lo : Nat → LR} {wb n : Nat} {nsv outv : Value} {ps : Nat → LN} {outs : List Value} (h : LawAt w lo wb nsv outv n ps outs) (hL : Laid w) (hc : Chg (fun k => lo k ≠ .none) w w') : Laid w' := hL.below (B := 1) (by omega) (hc.toBelow hL.lt h.pos)
/-- One net goes on. -/
theorem LawAt.step {w w' : World} {lo : Nat → LR} {wb n i : Nat} {nsv outv : Value} {ps : Nat → LN} {outs : List Value} {m' : NetM} (h : LawAt w lo wb nsv outv n ps outs) (hi : i < n) (hT : BTo w (ps i).g (ps i).nb (ps i).f w' m') :
    ∃ lo' ps', LawAt w' lo' wb nsv outv n ps' outs ∧ LTo w lo w' lo' ∧ ∀ j, (ps' j).m = if j = i then m' else (ps j).m := by
  obtain ⟨hc, f', hB, hf'⟩ := hT
  refine ⟨fun k => if w.heap.size ≤ k ∧ k < w'.heap.size then .pair i else lo k, fun j => if j = i then { ps i with f := f', m := m' } else ps j, ?_, ?_, fun j => ?_⟩
  · have K : LKeep lo (fun k => if w.heap.size ≤ k ∧ k < w'.heap.size then .pair i else lo k) (fun r => r = .pair i) w w' := fun k hk _ => ⟨if_neg (by omega), fun hR => hc.block k hk (fun e => hR (h.rp i k hi e))⟩
    have hold : ∀ k, k < w.heap.size → (if w.heap.size ≤ k ∧ k < w'.heap.size then LR.pair i else lo k) = lo k := fun k hk => if_neg (by omega)
    have hps : pairsC (fun j => if j = i then { ps i with f := f', m := m' } else ps j) n = pairsC ps n := by
      unfold pairsC
      congr 1
      funext j
      by_cases e : j = i
      · subst e; simp [pairC]
      · simp [e]
    refine { lt := fun k hk => ?_, pos := fun k hk => ?_, blk := h.blk.chg hc (fun e => by have := h.rp i _ hi e; rw [h.rb] at this; cases this), rb := (hold _ h.blk.lt).trans h.rb, ns := by rw [hps]; exact (K.own h.ns h.rn (by simp) (by simp)).1, rn := (K.own h.ns h.rn (by simp) (by simp)).2, out := (K.own h.out h.ro (by simp) (by simp)).1, ro := (K.own h.out h.ro (by simp) (by simp)).2, byt := fun v hv => K.byt (h.byt v hv) (by simp), pairs := fun j hj => ?_, rp := fun j k hj hk => ?_ }
    · by_cases e : w.heap.size ≤ k ∧ k < w'.heap.size
      · exact e.2
      · rw [if_neg e] at hk
        exact Nat.lt_of_lt_of_le (h.lt k hk) hc.size
    · by_cases e : w.heap.size ≤ k ∧ k < w'.heap.size
      · have := h.blk.lt; omega
      · rw [if_neg e] at hk
        exact h.pos k hk
    · by_cases e : j = i
      · subst e; simpa using hB
      · simp only [if_neg e]
        exact (K.both hc.size (h.pairs j hj) (h.rp j · hj) (by simp [e])).1
    · by_cases e : j = i
      · subst e
        have hk' : f' k := by simpa using hk
        rcases hf' k hk' with e | e
        · rw [hold k ((h.pairs j hj).lt k e)]; exact h.rp j k hj e
        · exact if_pos ⟨e, hB.lt k hk'⟩
      · simp only [if_neg e] at hk
        exact (K.both hc.size (h.pairs j hj) (h.rp j · hj) (by simp [e])).2 k hk
  · refine ⟨hc.mono (fun k _ e => by rw [h.rp i k hi e]; simp), fun k hk hk2 => ?_⟩
    rw [if_neg (by omega)] at hk2
    exact hk2
  · by_cases e : j = i
    · simp [e]
    · simp [e]
/-- Bytes more that came out. -/
theorem LawAt.mined {w w3 : World} {lo : Nat → LR} {wb n g k c : Nat} {nsv outv outv' : Value} {ps : Nat → LN} {outs : List Value} (h : LawAt w lo wb nsv outv n ps outs) (hkc : k ≤ c) (hc : c ≤ maxLen) (hlo : lo g = .none) (hg1 : 1 ≤ g)
    (hB : Blk w3 g (nums .u8 (List.replicate c 99)) 5) (hown : w3.ownsRow 0 46 1 outv' (outs.length + 1) (outs ++ [.slice (some ⟨g, 0, none⟩) k c]))
    (hold : ∀ j, j < w.heap.size → j ≠ g → outv.ownBlock ≠ some j → w3.heap[j]? = w.heap[j]?) (hz : w.heap.size ≤ w3.heap.size) (hloc : outv'.ownBlock = outv.ownBlock ∨ ∃ M, w.heap.size ≤ M ∧ outv'.ownBlock = some M) (hgo : outv'.ownBlock ≠ some g) :
    LawAt (w3.setCell ⟨wb, 1, none⟩ outv') (fun j => if j = g then .byt else if outv'.ownBlock = some j then .out else lo j) wb nsv outv' n ps (outs ++ [.slice (some ⟨g, 0, none⟩) k c]) ∧ (∀ j, j < w.heap.size → j ≠ g → (if j = g then LR.byt else if outv'.ownBlock = some j then .out else lo j) ≠ .none → lo j ≠ .none) ∧
      (∀ j, j < w.heap.size → j ≠ g → lo j = .none → (w3.setCell ⟨wb, 1, none⟩ outv').heap[j]? = w.heap[j]?) ∧ w.heap.size ≤ (w3.setCell ⟨wb, 1, none⟩ outv').heap.size := by
  have hor : ∀ j, j < w.heap.size → outv'.ownBlock = some j → lo j = .out := fun j hj e => by
    rcases hloc with e2 | ⟨M, hM, e2⟩
    · exact h.ro j (e2.symm.trans e)
    · rw [e2] at e; injection e with e; omega
  have hwg : wb ≠ g := fun e => by rw [← e, h.rb] at hlo; cases hlo
  have hwo : outv'.ownBlock ≠ some wb := fun e => by have := hor wb h.blk.lt e; rw [h.rb] at this; cases this
  have hlo' : ∀ j, j < w.heap.size → lo j ≠ .none → (if j = g then LR.byt else if outv'.ownBlock = some j then .out else lo j) = lo j := fun j hj hne => by
    rw [if_neg (fun e => hne (by rw [e]; exact hlo))]
    split
    · next e => exact (hor j hj e).symm
    · rfl
  have K : LKeep lo (fun j => if j = g then .byt else if outv'.ownBlock = some j then .out else lo j) (fun r => r = .law ∨ r = .out) w (w3.setCell ⟨wb, 1, none⟩ outv') := fun j hj hne => ⟨hlo' j hj hne, fun hR => by
    rw [heap_setCell_other _ _ _ _ (fun e => hR (.inl (by rw [e]; exact h.rb)))]
    exact hold j hj (fun e => hne (by rw [e]; exact hlo)) (fun e => hR (.inr (h.ro j e)))⟩
  have hz' : w.heap.size ≤ (w3.setCell ⟨wb, 1, none⟩ outv').heap.size := by rw [World.size_setCell]; exact hz
  have hb3 : Blk w3 wb #[nsv, outv] 30 := (hold wb h.blk.lt hwg (fun e => by have := h.ro wb e; rw [h.rb] at this; cases this)).trans h.blk
  refine ⟨{ lt := fun j hj => ?_, pos := fun j hj => ?_, blk := by have := hb3.set 1 outv'; simpa using this, rb := (hlo' wb h.blk.lt (by rw [h.rb]; simp)).trans h.rb, ns := (K.own h.ns h.rn (by simp) (by simp)).1, rn := (K.own h.ns h.rn (by simp) (by simp)).2, out := ?_, ro := fun j hj => ?_, byt := fun v hv => ?_, pairs := fun i hi => (K.both hz' (h.pairs i hi) (h.rp i · hi) (by simp)).1, rp := fun i j hi hj => (K.both hz' (h.pairs i hi) (h.rp i · hi) (by simp)).2 j hj }, fun j hj hjg hne => ?_, fun j hj hjg hn => ?_, hz'⟩
  · rw [World.size_setCell]
    by_cases e : j = g
    · rw [e]; exact hB.lt
    · rw [if_neg e] at hj
      by_cases e2 : outv'.ownBlock = some j
      · exact (hown.lt j e2).2
      · rw [if_neg e2] at hj
        exact Nat.lt_of_lt_of_le (h.lt j hj) hz
  · by_cases e : j = g
    · omega
    · rw [if_neg e] at hj
      by_cases e2 : outv'.ownBlock = some j
      · rcases hloc with e3 | ⟨M, hM, e3⟩
        · exact h.pos j (by rw [h.ro j (e3.symm.trans e2)]; simp)
        · rw [e3] at e2; injection e2 with e2
          have := h.blk.lt; omega
      · rw [if_neg e2] at hj
        exact h.pos j hj
  · rw [List.length_append, List.length_cons, List.length_nil]
    exact owns_same hown (fun j hj => heap_setCell_other _ _ _ _ (fun e => hwo (by rw [← show j = wb from e]; exact hj)))
  · show (if j = g then LR.byt else if outv'.ownBlock = some j then .out else lo j) = .out
    rw [if_neg (fun e => hgo (by rw [← e]; exact hj)), if_pos hj]
  · rcases List.mem_append.1 hv with hv | hv
    · exact K.byt (h.byt v hv) (by simp)
    · simp only [List.mem_singleton] at hv
      exact ⟨g, k, c, hv, hkc, hc, (heap_setCell_other _ _ _ _ (Ne.symm hwg)).trans hB, if_pos rfl⟩
  · rw [if_neg hjg] at hne
    by_cases e2 : outv'.ownBlock = some j
    · rw [hor j hj e2]; simp
    · rw [if_neg e2] at hne; exact hne
  · rw [heap_setCell_other _ _ _ _ (fun e => by rw [e, h.rb] at hn; cases hn)]
    exact hold j hj hjg (fun e => by have := h.ro j e; rw [hn] at this; cases this)
end Go.Proofs.YtandblanpafjoaaGreatDoor

namespace Go.Proofs.YtandblanpafjoaaGreatDoor
open Go.RowKit Go.Extern.Stop Go.Stop Go.Extern
theorem i64_big (n : Int) (h0 : -9000000000000000000 ≤ n) (h1 : n ≤ 9000000000000000000) : IntKind.i64.wrap n = n := by rw [IntKind.wrap_i64]; omega
theorem Tryz.infoBytes : (Tryz.prog.info? 46).map (fun i => (i.zero, i.size, i.bytes)) = some (some (.slice none 0 0), 1, 24) := by kernel_rfl
set_option maxRecDepth 10000 in
set_option maxHeartbeats 4000000 in
theorem lmine_any (wb n g k c : Nat) (nsv outv : Value) (lo : Nat → LR) (ps : Nat → LN) (outs : List Value) (cs : Array Value) (w : World) (h : LawAt w lo wb nsv outv n ps outs) (hB : Blk w g cs 5) (hcs : cs.size = c) (hkc : k ≤ c) (hc : c ≤ maxLen) (hlo : lo g = .none) (hg1 : 1 ≤ g) (hol : outs.length ≤ 1000000000000) :
    Calls Tryz.prog 47 #[.pointer (some ⟨wb, 0, none⟩), .slice (some ⟨g, 0, none⟩) k c] w fun e w' => e = .returned (.tuple #[]) ∧ ∃ lo' outv', LawAt w' lo' wb nsv outv' n ps (outs ++ [.slice (some ⟨g, 0, none⟩) k c]) ∧ (∀ j, j < w.heap.size → j ≠ g → lo' j ≠ .none → lo j ≠ .none) ∧ Chg (fun j => lo j ≠ .none ∨ j = g) w w' := by
  obtain ⟨iS, hiS, hzS0, hzS1, hzS2⟩ := info_parts Tryz.infoBytes
  obtain ⟨ao, co, hov⟩ := own_nil h.out
  subst hov
  have hcall := spoilt_row g k c cs 5 w hcs hc hkc hB
  have hwg : wb ≠ g := fun e => by rw [← e, h.rb] at hlo; cases hlo
  have hwl := h.blk.lt
  have hgl := hB.lt
  have HL := hide h
  clear h hB
  go_enter Tryz.func47, Tryz.ntmps47
  go_wp2_with fail
  refine hcall.mono ?_
  clear hcall
  rintro e w1 ⟨rfl, hB1, hg1'⟩
  have hz1 := hg1'.size
  have xb : Blk w1 wb #[nsv, .slice ao outs.length co] 30 := (hg1'.block wb hwl (fun e => hwg (Option.some.inj e))).trans (unhide HL).blk
  have x1 : w1.cell? ⟨wb, 1, none⟩ = some (.slice ao outs.length co) := xb.cell 1
  have f1 : w1.frozen? ⟨wb, 1, none⟩ = false := xb.frozen 1
  have bA : Below w1.heap.size w1 (w1.alloc (.cells #[.slice (some ⟨g, 0, none⟩) k c] 46)) := (Below.refl _ w1).alloc (Nat.le_refl _) _
  have hog : ∀ j, (Value.slice ao outs.length co).ownBlock = some j → j ≠ g ∧ j < w.heap.size := fun j hj => ⟨(fun e => by have := (unhide HL).ro j hj; rw [e, hlo] at this; cases this), ((unhide HL).out.lt j hj).2⟩
  have hownA : (w1.alloc (.cells #[.slice (some ⟨g, 0, none⟩) k c] 46)).ownsRow 0 46 1 (.slice ao outs.length co) outs.length outs := owns_same (unhide HL).out (fun j hj => (bA.block j (by have := (hog j hj).2; omega)).trans (hg1'.block j (hog j hj).2 (fun e => (hog j hj).1 (Option.some.inj e))))
  have H1 := hide (And.intro hB1 (And.intro hg1' (And.intro hog xb)))
  have HA := hide (And.intro hownA bA)
  clear hB1 hg1' hog xb hownA bA
  go_wp2_with (at_builtin; refine wpList_append_own_at (w1.alloc (.cells #[.slice (some ⟨g, 0, none⟩) k c] 46)) rfl (.tmp 10) (.tmp 12) 28 rfl 0 46 iS _ 1 24 Tryz.underlying28 hiS hzS0 hzS1 hzS2 rfl (by decide) (.slice ao outs.length co) _ _ rfl (unhide HA).1 ⟨w1.heap.size, 0, none⟩ 1 1 [.slice (some ⟨g, 0, none⟩) k c] rfl rfl (cell_one_new _ _ _) (by simp [Value.oneCell']) (by unfold maxLen; omega) (by omega) (Nat.zero_le _) ?_)
  intro v' w3 hown3 hg3 hnil3 hloc3
  obtain ⟨hB1, hg1', hog, xb⟩ := unhide H1
  have bA := (unhide HA).2
  obtain ⟨g3, c3, rfl, _, hg3l, _⟩ := own_some hown3 (by omega)
  have hold1 : ∀ j, j < w1.heap.size → (Value.slice ao outs.length co).ownBlock ≠ some j → w3.heap[j]? = w1.heap[j]? := fun j hj hne => (hg3.block j (by have := bA.size; omega) (fun e => hne e.symm)).trans (bA.block j hj)
  have hold : ∀ j, j < w.heap.size → j ≠ g → (Value.slice ao outs.length co).ownBlock ≠ some j → w3.heap[j]? = w.heap[j]? := fun j hj hjg hne => (hold1 j (by omega) hne).trans (hg1'.block j hj (fun e => hjg (Option.some.inj e)))
  have hno : (Value.slice ao outs.length co).ownBlock ≠ some wb := fun e => by have := (unhide HL).ro wb e; rw [(unhide HL).rb] at this; cases this
  have hng : (Value.slice ao outs.length co).ownBlock ≠ some g := fun e => (hog g e).1 rfl
  have hB3 : Blk w3 g (nums .u8 (List.replicate c 99)) 5 := (hold1 g (by omega) hng).trans hB1
  have xb3 : Blk w3 wb #[nsv, .slice ao outs.length co] 30 := (hold1 wb (by omega) hno).trans xb
  have y1 : w3.cell? ⟨wb, 1, none⟩ = some (.slice ao outs.length co) := xb3.cell 1
  have yf : w3.frozen? ⟨wb, 1, none⟩ = false := xb3.frozen 1
  have hz3 : w1.heap.size ≤ w3.heap.size := Nat.le_trans bA.size hg3.size
  have hgo : (Value.slice (some ⟨g3, 0, none⟩) (outs.length + 1) c3).ownBlock ≠ some g := fun e => by
    rcases hloc3 with e2 | e2
    · rw [e2] at e; exact hng e
    · rw [e2] at e; injection e with e; omega
  have hm := (unhide HL).mined hkc hc hlo hg1 hB3 hown3 hold (by omega) (hloc3.imp id (fun e => ⟨_, by omega, e⟩)) hgo
  have hch : Chg (fun j => lo j ≠ .none ∨ j = g) w (w3.setCell ⟨wb, 1, none⟩ (.slice (some ⟨g3, 0, none⟩) (outs.length + 1) c3)) := ⟨hg3.os.trans (bA.os.trans hg1'.os), hg3.tape.trans (bA.tape.trans hg1'.tape), hg3.output.trans (bA.output.trans hg1'.output), hm.2.2.2, fun j hj hF => hm.2.2.1 j hj (fun e => hF (.inr e)) (Classical.byContradiction fun e => hF (.inl e))⟩
  have HM := hide (And.intro hm hch)
  clear hown3 hg3 hnil3 hloc3 hold1 hold hno hng hB3 xb3 hz3 hgo hm hch hB1 hg1' hog xb bA
  go_wp2
  go_end0
  obtain ⟨hm, hch⟩ := unhide HM
  exact ⟨rfl, _, _, hm.1, fun j hj hjg hne => hm.2.1 j hj hjg hne, hch⟩
set_option maxRecDepth 10000 in
set_option maxHeartbeats 4000000 in
theorem llooks_any (wb n : Nat) (nsv outv : Value) (lo : Nat → LR) (ps : Nat → LN) (outs : List Value) (w : World) (h : LawAt w lo wb nsv outv n ps outs) (hol : outs.length ≤ 1000000000000) :
    Calls Tryz.prog 11 #[.pointer (some ⟨wb, 0, none⟩)] w fun e w' => e = .returned (.bool true) ∧ w' = w := by
  obtain ⟨ao, co, hov⟩ := own_nil h.out
  subst hov
  have x1 : w.cell? ⟨wb, 1, none⟩ = some (.slice ao outs.length co) := h.blk.cell 1
  have HL := hide h
  clear h
  go_enter Tryz.func11, Tryz.ntmps11
  go_wp2_with fail
  go_loopw [3] (fun s3 wr => ∃ i : Nat, i ≤ outs.length ∧ s3 = .int .i64 (i : Int) ∧ wr = w) (fun s3 _ => outs.length - (intOf s3).toNat)
  case atStart => exact ⟨0, by omega, rfl, rfl⟩
  case round =>
    obtain ⟨i, hi, rfl, rfl⟩ := hrel
    by_cases hlt : i < outs.length
    · have hd : decide ((i : Int) < (outs.length : Int)) = true := by simp; omega
      have hadd := i64_big ((i : Int) + 1) (by omega) (by omega)
      have i0 : (0 : Int) ≤ (i : Int) := by omega
      have i1 : (i : Int) < (outs.length : Int) := by omega
      obtain ⟨go, cap, hv, _, _, _⟩ := own_some (unhide HL).out (by omega)
      injection hv with e1 _ e3
      subst e1
      subst e3
      obtain ⟨g, k, c, hov, hkc, hc, hB, _⟩ := (unhide HL).byt outs[i] (List.getElem_mem _)
      have ci : wr.cell? ⟨go, i, none⟩ = some (.slice (some ⟨g, 0, none⟩) k c) := by
        rw [(unhide HL).out.cellAt i (by omega), List.getElem?_eq_getElem hlt, hov]
      have hcall := stays_row g k c 5 wr hc hkc hB
      clear hB hov
      go_wp2_with fail
      refine hcall.mono ?_
      clear hcall
      rintro e w2 ⟨rfl, rfl⟩
      go_wp2
      exact ⟨⟨i + 1, by omega, by go_num, trivial⟩, by simp [intOf]; omega⟩
    · have hd : decide ((i : Int) < (outs.length : Int)) = false := by simp; omega
      go_wp2
      go_ret
      exact ⟨rfl, rfl⟩
end Go.Proofs.YtandblanpafjoaaGreatDoor

