import Derived.Test.YtandblanpafjoaaGreatDoorPack10
import Derived.Test.YtandblanpafjoaaGreatDoorPack09
import Derived.WalkMore
import Derived.Deep.LoopGhost
import Derived.Test.YtandblanpafjoaaGreatDoorPack04
namespace Go.Proofs.YtandblanpafjoaaGreatDoor
open Go.RowKit Go.Extern.Stop Go.Stop Go.Extern
theorem put_at (S : Int) (g k x y h t s : Nat) (hS : S = (s : Int)) (m : List Int) (w : World) (hm : m.length = 288) (hk : k < 4) (hx : x < 16) (hy : y < 16) (hh : h < 4) (ht : t < 4) (hs : s < 65536) (hblk : Blk w g (nums .u8 m) 209) :
    Calls Tryz.prog 137 #[.pointer (some ⟨g, 0, none⟩), .int .i64 (k : Int), .agg #[.complex .f64 (fo (x : Int)) (fo (y : Int)), .complex .f64 (tre h t) (tim h t), .int .u16 S]] w
      fun e w' => e = .returned (.tuple #[]) ∧ Blk w' g (nums .u8 (putL m k x y (newHead h t) s)) 209 ∧ w.grownBy w' (some g) := by
  subst hS; exact put_any g k x y h t s m w hm hk hx hy hh ht hs hblk
theorem grown_new {a b c : World} {r : Option Nat} {q : Nat} (h : a.grownBy b r) (k : b.grownBy c (some q)) (hq : a.heap.size ≤ q) : a.grownBy c r :=
  ⟨k.os.trans h.os, k.tape.trans h.tape, k.output.trans h.output, Nat.le_trans h.size k.size, fun i hi hr => (k.block i (Nat.lt_of_lt_of_le hi h.size) (fun e => by injection e with e'; omega)).trans (h.block i hi hr)⟩
def settleL (m : List Int) (k x y h s i : Nat) : List Int :=
  if i / 4 % 2 = 1 ∧ m.getD (16 * y + x) 0 ≠ (k : Int) + 1 then putL (m.set (16 * y + x) ((k : Int) + 1)) k x y h ((s + 1) % 65536) else putL m k x y h s
theorem sizeU16 : (Tryz.prog.info? 251).map (·.size) = some 1 := by kernel_rfl
set_option maxRecDepth 10000 in
set_option maxHeartbeats 1000000 in
theorem settle_any (g k x y h t s i : Nat) (m : List Int) (w : World) (hm : m.length = 288) (hk : k < 4) (hx : x < 16) (hy : y < 16) (hh : h < 4) (ht : t < 4) (hs : s < 65536) (hi : i < 256) (hr : ∀ j : Nat, 0 ≤ m.getD j 0 ∧ m.getD j 0 ≤ 255)
    (hblk : Blk w g (nums .u8 m) 209) :
    Calls Tryz.prog 204 #[.pointer (some ⟨g, 0, none⟩), .int .i64 (k : Int), .agg #[.complex .f64 (fo (x : Int)) (fo (y : Int)), .complex .f64 (tre h t) (tim h t), .int .u16 (s : Int)], .int .u8 (i : Int)] w
      fun e w' => e = .returned (.tuple #[]) ∧ Blk w' g (nums .u8 (settleL m k x y (newHead h t) s i)) 209 ∧ w.grownBy w' (some g) := by
  have hgl := hblk.lt
  have hand := and4_table ⟨i, hi⟩
  simp only at hand
  have hb0 := hblk.alloc (.cells #[.complex .f64 (fo (x : Int)) (fo (y : Int)), .complex .f64 (tre h t) (tim h t), .int .u16 (s : Int)] 253)
  have hg0 := (World.grownBy_alloc w (.cells #[.complex .f64 (fo (x : Int)) (fo (y : Int)), .complex .f64 (tre h t) (tim h t), .int .u16 (s : Int)] 253) (some g))
  have hcc := hb0.num (16 * y + x) (by omega)
  have hrc := hr (16 * y + x)
  have hlt : i / 4 % 2 < 2 := Nat.mod_lt _ (by omega)
  by_cases hp : i / 4 % 2 = 1
  · rw [hp] at hand
    simp at hand
    by_cases hq : m.getD (16 * y + x) 0 = (k : Int) + 1
    · have hcc' := hcc
      rw [hq] at hcc'
      have e : settleL m k x y (newHead h t) s i = putL m k x y (newHead h t) s := by unfold settleL; rw [if_neg (fun hh => hh.2 hq)]
      rw [e]
      clear hcc e hq hr hp
      go_enter Tryz.func204, Tryz.ntmps204
      go_wp2_with fail
      refine (cell_any g x y _ hx hy).mono ?_
      rintro e w1 ⟨rfl, rfl⟩
      go_wp2_with fail
      refine (put_any g k x y h t s m _ hm hk hx hy hh ht hs hb0).mono ?_
      rintro e w2 ⟨rfl, hb2, hg2⟩
      go_wp2
      go_end0
      exact ⟨rfl, hb2, grown_trans hg0 hg2⟩
    · have hne : (m.getD (16 * y + x) 0 != (k : Int) + 1) = true := by rw [bne_iff_ne]; exact hq
      have e : settleL m k x y (newHead h t) s i = putL (m.set (16 * y + x) ((k : Int) + 1)) k x y (newHead h t) ((s + 1) % 65536) := by unfold settleL; rw [if_pos ⟨hp, hq⟩]
      rw [e]
      generalize m.getD (16 * y + x) 0 = c at *
      have hne2 : w.heap.size ≠ g := by omega
      have hbx := Blk.new w #[.complex .f64 (fo (x : Int)) (fo (y : Int)), .complex .f64 (tre h t) (tim h t), .int .u16 (s : Int)] 253
      clear e hq hr hp
      go_enter Tryz.func204, Tryz.ntmps204
      go_wp2_with fail
      refine (cell_any g x y _ hx hy).mono ?_
      rintro e w1 ⟨rfl, rfl⟩
      go_wp2_with (first
        | (refine wpList_store_num rfl 5 _ _ rfl _ _ .u8 _ _ _ rfl rfl (by assumption) (by (try simp only [List.length_set]); omega) sizeU8 ?_; intro w1 hb1 hg1 hz1 hcl1; have hbx1 := hbx.grown hg1 hne2)
        | (refine wpList_store_one rfl 251 _ _ rfl _ _ _ _ _ rfl rfl rfl (by assumption) (by simp) sizeU16 ?_; intro w2 hb2 hg2 hz2 hcl2; have hcb := hb2.cell))
      refine (put_at _ g k x y h t ((s + 1) % 65536) (by rw [IntKind.wrap_u16]; omega) (m.set (16 * y + x) ((k : Int) + 1)) _ (by simp [hm]) hk hx hy hh ht (Nat.mod_lt _ (by omega)) (hb1.grown hg2 (Ne.symm hne2))).mono ?_
      rintro e w3 ⟨rfl, hb3, hg3⟩
      go_wp2
      go_end0
      refine ⟨rfl, hb3, ?_⟩
      exact grown_trans (grown_new (grown_trans hg0 hg1) hg2 (Nat.le_refl _)) hg3
  · have hp0 : i / 4 % 2 = 0 := by omega
    rw [hp0] at hand
    simp at hand
    have e : settleL m k x y (newHead h t) s i = putL m k x y (newHead h t) s := by unfold settleL; rw [if_neg (fun hh => hp hh.1)]
    rw [e]
    clear hcc e hr hp hp0
    go_enter Tryz.func204, Tryz.ntmps204
    go_wp2_with fail
    refine (cell_any g x y _ hx hy).mono ?_
    rintro e w1 ⟨rfl, rfl⟩
    go_wp2_with fail
    refine (put_any g k x y h t s m _ hm hk hx hy hh ht hs hb0).mono ?_
    rintro e w2 ⟨rfl, hb2, hg2⟩
    go_wp2
    go_end0
    exact ⟨rfl, hb2, grown_trans hg0 hg2⟩
end Go.Proofs.YtandblanpafjoaaGreatDoor

namespace Go.Proofs.YtandblanpafjoaaGreatDoor
theorem getD_set (l : List Int) (i j : Nat) (v : Int) (hi : i < l.length) : (l.set i v).getD j 0 = if i = j then v else l.getD j 0 := by
  by_cases h : i = j
  · subst h; rw [if_pos rfl]; simp [hi]
  · rw [if_neg h]; simp [List.getElem?_set_ne h]
def gx (m : List Int) (k : Nat) : Nat := (m.getD (256 + 8 * k) 0).toNat
def gy (m : List Int) (k : Nat) : Nat := (m.getD (256 + 8 * k + 1) 0).toNat
def gh (m : List Int) (k : Nat) : Nat := (m.getD (256 + 8 * k + 2) 0).toNat
def ga (m : List Int) (k : Nat) : Nat := (m.getD (256 + 8 * k + 3) 0).toNat
def gb (m : List Int) (k : Nat) : Nat := (m.getD (256 + 8 * k + 4) 0).toNat
/-- A ship's score. -/
def gs (m : List Int) (k : Nat) : Nat := ga m k * 256 + gb m k
structure Good (m : List Int) (n : Nat) : Prop where
  len : m.length = 288
  rng : ∀ j : Nat, 0 ≤ m.getD j 0 ∧ m.getD j 0 ≤ 255
  sx : ∀ k, k < n → gx m k < 16
  sy : ∀ k, k < n → gy m k < 16
  sh : ∀ k, k < n → gh m k < 4
theorem Good.ship {m : List Int} {n k : Nat} (h : Good m n) (hk : k < n) : ShipAt m k (gx m k) (gy m k) (gh m k) (ga m k) (gb m k) where
  ex := by have := (h.rng (256 + 8 * k)).1; unfold gx; omega
  ey := by have := (h.rng (256 + 8 * k + 1)).1; unfold gy; omega
  eh := by have := (h.rng (256 + 8 * k + 2)).1; unfold gh; omega
  ea := by have := (h.rng (256 + 8 * k + 3)).1; unfold ga; omega
  eb := by have := (h.rng (256 + 8 * k + 4)).1; unfold gb; omega
  hx := h.sx k hk
  hy := h.sy k hk
  hh := h.sh k hk
  ha := by have := (h.rng (256 + 8 * k + 3)); unfold ga; omega
  hb := by have := (h.rng (256 + 8 * k + 4)); unfold gb; omega
theorem Good.score {m : List Int} {n k : Nat} (h : Good m n) : gs m k < 65536 := by
  have h1 := h.rng (256 + 8 * k + 3)
  have h2 := h.rng (256 + 8 * k + 4)
  unfold gs ga gb; omega
def blocked (m : List Int) (n k tx ty : Nat) : Bool := (List.range n).any fun o => decide (o ≠ k) && (decide (gx m o = tx) && decide (gy m o = ty))
/-- One player's input. -/
def turnL (m : List Int) (n k i : Nat) : List Int :=
  if blocked m n k (goX (gx m k) (gh m k) (i % 4)) (goY (gy m k) (gh m k) (i % 4)) then settleL m k (gx m k) (gy m k) (newHead (gh m k) (i % 4)) (gs m k) i
  else settleL m k (goX (gx m k) (gh m k) (i % 4)) (goY (gy m k) (gh m k) (i % 4)) (newHead (gh m k) (i % 4)) (gs m k) i
/-- A frame's first inputs. -/
def turnsL (m : List Int) (n : Nat) (ins : List Int) : Nat → List Int
  | 0 => m
  | k + 1 => turnL (turnsL m n ins k) n k (ins.getD k 0).toNat
def frameL (m : List Int) (n : Nat) (ins : List Int) : List Int := turnsL m n ins n
theorem putL_len (m : List Int) (k x y h s : Nat) : (putL m k x y h s).length = m.length := by simp [putL]
theorem putL_get (m : List Int) (k x y h s j : Nat) (hm : m.length = 288) (hk : k < 4) : (putL m k x y h s).getD j 0 =
    if j = 256 + 8 * k + 4 then ((s % 256 : Nat) : Int) else if j = 256 + 8 * k + 3 then ((s / 256 : Nat) : Int) else if j = 256 + 8 * k + 2 then (h : Int) else if j = 256 + 8 * k + 1 then (y : Int) else if j = 256 + 8 * k then (x : Int) else m.getD j 0 := by
  unfold putL
  rw [getD_set _ _ _ _ (by simp [hm]; omega), getD_set _ _ _ _ (by simp [hm]; omega), getD_set _ _ _ _ (by simp [hm]; omega), getD_set _ _ _ _ (by simp [hm]; omega), getD_set _ _ _ _ (by simp [hm]; omega)]
  simp only [eq_comm]
theorem good_put {m : List Int} {n : Nat} (hg : Good m n) (k x y h s : Nat) (hk : k < 4) (hx : x < 16) (hy : y < 16) (hh : h < 4) (hs : s < 65536) : Good (putL m k x y h s) n where
  len := by rw [putL_len]; exact hg.len
  rng j := by
    rw [putL_get m k x y h s j hg.len hk]
    have := hg.rng j
    repeat (first | omega | split)
  sx o ho := by
    unfold gx
    rw [putL_get m k x y h s _ hg.len hk]
    have := hg.sx o ho
    unfold gx at this
    repeat (first | omega | split)
  sy o ho := by
    unfold gy
    rw [putL_get m k x y h s _ hg.len hk]
    have := hg.sy o ho
    unfold gy at this
    repeat (first | omega | split)
  sh o ho := by
    unfold gh
    rw [putL_get m k x y h s _ hg.len hk]
    have := hg.sh o ho
    unfold gh at this
    repeat (first | omega | split)
theorem good_cell {m : List Int} {n : Nat} (hg : Good m n) (c k : Nat) (hc : c < 256) (hk : k < 4) : Good (m.set c ((k : Int) + 1)) n where
  len := by rw [List.length_set]; exact hg.len
  rng j := by
    rw [getD_set _ _ _ _ (by rw [hg.len]; omega)]
    have := hg.rng j
    split <;> omega
  sx o ho := by unfold gx; rw [getD_set _ _ _ _ (by rw [hg.len]; omega), if_neg (by omega)]; exact hg.sx o ho
  sy o ho := by unfold gy; rw [getD_set _ _ _ _ (by rw [hg.len]; omega), if_neg (by omega)]; exact hg.sy o ho
  sh o ho := by unfold gh; rw [getD_set _ _ _ _ (by rw [hg.len]; omega), if_neg (by omega)]; exact hg.sh o ho
theorem good_settle {m : List Int} {n : Nat} (hg : Good m n) (k x y h s i : Nat) (hk : k < 4) (hx : x < 16) (hy : y < 16) (hh : h < 4) (hs : s < 65536) : Good (settleL m k x y h s i) n := by
  unfold settleL
  split
  · exact good_put (good_cell hg _ k (by omega) hk) k x y h _ hk hx hy hh (Nat.mod_lt _ (by omega))
  · exact good_put hg k x y h s hk hx hy hh hs
theorem good_turn {m : List Int} {n : Nat} (hg : Good m n) (k i : Nat) (hk : k < n) (hn : n ≤ 4) : Good (turnL m n k i) n := by
  have h1 := hg.sx k hk
  have h2 := hg.sy k hk
  have h3 := newHead_lt (gh m k) (i % 4) (hg.sh k hk)
  have h4 := hg.score (k := k)
  unfold turnL
  split
  · exact good_settle hg k _ _ _ _ i (by omega) h1 h2 h3 h4
  · exact good_settle hg k _ _ _ _ i (by omega) (goX_lt _ _ _ h1) (goY_lt _ _ _ h2) h3 h4
theorem good_turns {m : List Int} {n : Nat} (hg : Good m n) (ins : List Int) (hn : n ≤ 4) : ∀ k, k ≤ n → Good (turnsL m n ins k) n
  | 0, _ => hg
  | k + 1, h => good_turn (good_turns hg ins hn k (by omega)) k _ (by omega) hn
end Go.Proofs.YtandblanpafjoaaGreatDoor

namespace Go.Proofs.YtandblanpafjoaaGreatDoor
open Go.RowKit Go.Extern.Stop Go.Stop Go.Extern
theorem sizeC128 : (Tryz.prog.info? 249).map (·.size) = some 1 := by kernel_rfl
theorem field_place (a b c : Value) (w : World) : (Instr.field 253 (.agg #[a, b, c]) 0).run Tryz.prog w = .ok a w := by kernel_rfl
theorem settle_at (S : Int) (g k x y h t s i : Nat) (hS : S = (s : Int)) (m : List Int) (w : World) (hm : m.length = 288) (hk : k < 4) (hx : x < 16) (hy : y < 16) (hh : h < 4) (ht : t < 4) (hs : s < 65536) (hi : i < 256) (hr : ∀ j : Nat, 0 ≤ m.getD j 0 ∧ m.getD j 0 ≤ 255)
    (hblk : Blk w g (nums .u8 m) 209) :
    Calls Tryz.prog 204 #[.pointer (some ⟨g, 0, none⟩), .int .i64 (k : Int), .agg #[.complex .f64 (fo (x : Int)) (fo (y : Int)), .complex .f64 (tre h t) (tim h t), .int .u16 S], .int .u8 (i : Int)] w
      fun e w' => e = .returned (.tuple #[]) ∧ Blk w' g (nums .u8 (settleL m k x y (newHead h t) s i)) 209 ∧ w.grownBy w' (some g) := by
  subst hS; exact settle_any g k x y h t s i m w hm hk hx hy hh ht hs hi hr hblk
theorem blocked_yes {m : List Int} {n k tx ty : Nat} (o : Nat) (ho : o < n) (hne : ¬ o = k) (h : gx m o = tx ∧ gy m o = ty) : blocked m n k tx ty = true := by
  unfold blocked
  rw [List.any_eq_true]
  exact ⟨o, List.mem_range.2 ho, by simp [hne, h.1, h.2]⟩
theorem blocked_no {m : List Int} {n k tx ty : Nat} (h : ∀ j, j < n → j ≠ k → ¬ (gx m j = tx ∧ gy m j = ty)) : blocked m n k tx ty = false := by
  unfold blocked
  rw [List.any_eq_false]
  intro o ho
  have := h o (List.mem_range.1 ho)
  simp
  exact fun h1 h2 h3 => this h1 ⟨h2, h3⟩
set_option maxRecDepth 100000 in
set_option maxHeartbeats 1000000 in
theorem next_any (b n c : Nat) (m ins : List Int) (w : World) (hn : n ≤ 4) (hg : Good m n) (hlen : ins.length = n) (hri : ∀ j : Nat, 0 ≤ ins.getD j 0 ∧ ins.getD j 0 ≤ 255) (hbl : b < w.heap.size)
    (hc : ∀ j, j < n → w.cell? ⟨b, j, none⟩ = some (.int .u8 (ins.getD j 0))) :
    Calls Tryz.prog 200 #[.agg (nums .u8 m), .slice (some ⟨b, 0, none⟩) n c] w fun e w' => e = .returned (.agg (nums .u8 (frameL m n ins))) ∧ Below w.heap.size w w' := by
  have hz := Tryz.zeroMem
  have hsc := store_complex
  have hfld := field_place
  have HC := hide hc
  have HRI := hide hri
  have HG := hide hg
  clear hc hri hg
  go_enter Tryz.func200, Tryz.ntmps200
  go_wp2_with fail
  go_step3
  go_wp2_with fail
  go_step3
  go_wp2_with fail
  go_loopg [12] n (fun gk i wr => ∃ k : Nat, gk = n - k ∧ k ≤ n ∧ i = .int .i64 k ∧ Below w.heap.size w wr ∧ Blk wr w.heap.size (nums .u8 (turnsL m n ins k)) 209 ∧ Blk wr (w.heap.size + 1) (nums .u8 Z288) 209)
  case atStart => exact ⟨0, rfl, by omega, rfl, ((Below.refl _ _).alloc (Nat.le_refl _) _).alloc (by simp) _, heap_alloc2_old _ _ _, heap_alloc2_new _ _ _⟩
  case round =>
    obtain ⟨k, hgk0, hk, rfl, hb, hbm, hbz⟩ := hrel
    have HGK0 := hide hgk0
    clear hgk0
    by_cases hlt : k < n
    · have hgk := good_turns (unhide HG) ins hn k hk
      have hik := unhide HRI k
      obtain ⟨i, hi⟩ : ∃ i : Nat, ins.getD k 0 = (i : Int) := ⟨(ins.getD k 0).toNat, by omega⟩
      have hcell : wr.cell? ⟨b, k, none⟩ = some (.int .u8 (i : Int)) := by
        rw [hb.cell (p := ⟨b, k, none⟩) hbl, unhide HC k hlt, hi]
      have hi256 : i < 256 := by omega
      have HT : Hid (turnsL m n ins (k + 1) = turnL (turnsL m n ins k) n k i) := hide (by
        show turnL (turnsL m n ins k) n k (ins.getD k 0).toNat = _
        rw [hi]; rfl)
      generalize turnsL m n ins k = mk at *
      have hlk : (k : Int) < (n : Int) := by omega
      have HBM := hide hbm
      have HBZ := hide hbz
      have HGK := hide hgk
      clear hik hi hbm hbz hgk
      go_wp2_with fail
      refine (ship_any w.heap.size k _ _ _ _ _ mk wr (unhide HGK).len (by omega) ((unhide HGK).ship hlt) (unhide HBM)).mono ?_
      rintro e w1 ⟨rfl, hb1⟩
      have hz1 := hb1.size
      go_wp2_with fail
      refine (turned_any _ _ (gh mk k) i _ w1 ((unhide HGK).sh k hlt) hi256).mono ?_
      rintro e w2 ⟨rfl, hb2⟩
      have hz2 := hb2.size
      go_wp2_with fail
      refine (target_any (gx mk k) (gy mk k) (gh mk k) i _ _ ((unhide HGK).sx k hlt) ((unhide HGK).sy k hlt) ((unhide HGK).sh k hlt) hi256).mono ?_
      rintro e w3 ⟨rfl, hb3⟩
      have hz3 := hb3.size
      obtain ⟨W3, hW3⟩ : ∃ x, x = w3 := ⟨_, rfl⟩
      subst hW3
      have b12 : Below wr.heap.size wr w2 := hb1.trans (hb2.mono hz1)
      have b13 : Below wr.heap.size wr W3 := (b12.alloc b12.size _).trans (hb3.mono (by simp; omega))
      simp only [World.size_alloc] at hz3
      have bm3 : Blk W3 w.heap.size (nums .u8 mk) 209 := (unhide HBM).below (unhide HBM).lt b13
      have bz3 : Blk W3 (w.heap.size + 1) (nums .u8 Z288) 209 := (unhide HBZ).below (unhide HBZ).lt b13
      have bs3 : Blk W3 w2.heap.size #[.complex .f64 (fo (gx mk k : Int)) (fo (gy mk k : Int)), .complex .f64 (tre (gh mk k) (i % 4)) (tim (gh mk k) (i % 4)), .int .u16 ((ga mk k : Int) * 256 + (gb mk k : Int))] 253 := (Blk.new w2 _ _).below (by simp) hb3
      have bw3 : Below w.heap.size w W3 := hb.trans (b13.mono hb.size)
      have hlm := (unhide HBM).lt
      have hlz := (unhide HBZ).lt
      have HX := hide (unhide HGK).sx
      have HY := hide (unhide HGK).sy
      have htx := goX_lt (gx mk k) (gh mk k) (i % 4) (unhide HX k hlt)
      have hty := goY_lt (gy mk k) (gh mk k) (i % 4) (unhide HY k hlt)
      have HTU : Hid (turnL mk n k i = if blocked mk n k (goX (gx mk k) (gh mk k) (i % 4)) (goY (gy mk k) (gh mk k) (i % 4)) then settleL mk k (gx mk k) (gy mk k) (newHead (gh mk k) (i % 4)) (gs mk k) i
        else settleL mk k (goX (gx mk k) (gh mk k) (i % 4)) (goY (gy mk k) (gh mk k) (i % 4)) (newHead (gh mk k) (i % 4)) (gs mk k) i) := hide rfl
      generalize goX (gx mk k) (gh mk k) (i % 4) = tx at *
      generalize goY (gy mk k) (gh mk k) (i % 4) = ty at *
      have ht4 : i % 4 < 4 := Nat.mod_lt _ (by omega)
      have hne1 : w2.heap.size ≠ w.heap.size := by omega
      have hne2 : w2.heap.size ≠ w.heap.size + 1 := by omega
      have HBM3 := hide bm3
      have HBZ3 := hide bz3
      have HBS3 := hide bs3
      clear hb1 hb2 hb3 b12 b13 bm3 bz3 bs3 hb HBM HBZ
      go_wp2_with fail
      go_loopg [26] n (fun gj i w4 => ∃ o : Nat, gj = n - o ∧ o ≤ n ∧ i = .int .i64 o ∧ Below W3.heap.size W3 w4 ∧ (∀ j, j < o → j ≠ k → ¬ (gx mk j = tx ∧ gy mk j = ty)))
      case atStart => exact ⟨0, rfl, by omega, rfl, Below.refl _ _, fun j hj => absurd hj (by omega)⟩
      case round =>
        obtain ⟨o, hgo, ho, rfl, hb4, hno⟩ := hrel
        have HGO := hide hgo
        have HNO := hide hno
        clear hgo hno
        have hz4 := hb4.size
        by_cases hon : o < n
        · have hon' : (o : Int) < (n : Int) := by omega
          by_cases hok : o = k
          · subst hok
            go_wp2_with fail
            go_roundg (n - (o + 1))
            case measure => have := unhide HGO; omega
            case rel => exact ⟨o + 1, rfl, by omega, by go_num, hb4, fun j hj hne => unhide HNO j (by omega) hne⟩
          · have hne : ((o : Int) != (k : Int)) = true := by rw [bne_iff_ne]; omega
            have hceq := ceq (gx mk o) (gy mk o) tx ty (unhide HX o hon) (unhide HY o hon) htx hty
            by_cases hit : gx mk o = tx ∧ gy mk o = ty
            · have hd : (decide (gx mk o = tx) && decide (gy mk o = ty)) = true := by simp [hit.1, hit.2]
              rw [hd] at hceq
              clear hd
              have HTL : Hid (turnL mk n k i = settleL mk k (gx mk k) (gy mk k) (newHead (gh mk k) (i % 4)) (gs mk k) i) := by
                rw [unhide HTU, if_pos (blocked_yes o hon hok hit)]; exact hide rfl
              have HIT := hide hit
              clear hit
              go_wp2_with fail
              refine (ship_any w.heap.size o _ _ _ _ _ mk wr (unhide HGK).len (by omega) ((unhide HGK).ship hon) ((unhide HBM3).below (by omega) hb4)).mono ?_
              rintro e w5 ⟨rfl, hb5⟩
              have b35 : Below W3.heap.size W3 w5 := hb4.trans (hb5.mono hz4)
              have hz5 := b35.size
              have bs5 := (unhide HBS3).below (unhide HBS3).lt b35
              have hcs := bs5.cell
              go_wp2_with fail
              refine (settle_at _ w.heap.size k (gx mk k) (gy mk k) (gh mk k) (i % 4) (gs mk k) i (by unfold gs; omega) mk w5 (unhide HGK).len (by omega) (unhide HX k hlt) (unhide HY k hlt) ((unhide HGK).sh k hlt) ht4 (unhide HGK).score hi256 (unhide HGK).rng ((unhide HBM3).below (by omega) b35)).mono ?_
              rintro e w6 ⟨rfl, hb6, hg6⟩
              go_wp2_with fail
              go_roundg (n - (k + 1))
              case measure => have := unhide HGK0; omega
              case rel =>
                refine ⟨k + 1, rfl, by omega, by go_num, (bw3.trans (b35.mono bw3.size)).trans (below_grown hg6 (by have := bw3.size; omega) (Nat.le_refl _)), ?_, ((unhide HBZ3).below (by omega) b35).grown hg6 (by omega)⟩
                rw [unhide HT, unhide HTL]; exact hb6
            · have hd : (decide (gx mk o = tx) && decide (gy mk o = ty)) = false := by
                rw [Bool.and_eq_false_iff]
                by_cases h1 : gx mk o = tx
                · exact Or.inr (decide_eq_false (fun h2 => hit ⟨h1, h2⟩))
                · exact Or.inl (decide_eq_false h1)
              rw [hd] at hceq
              have HIT := hide hit
              clear hd hit
              go_wp2_with fail
              refine (ship_any w.heap.size o _ _ _ _ _ mk wr (unhide HGK).len (by omega) ((unhide HGK).ship hon) ((unhide HBM3).below (by omega) hb4)).mono ?_
              rintro e w5 ⟨rfl, hb5⟩
              have b35 : Below W3.heap.size W3 w5 := hb4.trans (hb5.mono hz4)
              go_wp2_with fail
              go_roundg (n - (o + 1))
              case measure => have := unhide HGO; omega
              case rel =>
                refine ⟨o + 1, rfl, by omega, by go_num, b35, fun j hj hne => ?_⟩
                by_cases hjo : j = o
                · subst hjo; exact unhide HIT
                · exact unhide HNO j (by omega) hne
        · have hon' : ¬ ((o : Int) < (n : Int)) := by omega
          have HTL : Hid (turnL mk n k i = settleL mk k tx ty (newHead (gh mk k) (i % 4)) (gs mk k) i) := by
            rw [unhide HTU, blocked_no (fun j hj hne => unhide HNO j (by omega) hne), if_neg (by decide)]; exact hide rfl
          have bs4 := (unhide HBS3).below (unhide HBS3).lt hb4
          go_wp2_with (refine wpList_store_one rfl 249 _ _ rfl _ _ _ _ _ rfl rfl rfl (by assumption) (by simp) sizeC128 ?_; intro w5 hb5 hg5 hz5 hcl5; have hcs := hb5.cell)
          refine (settle_at _ w.heap.size k tx ty (gh mk k) (i % 4) (gs mk k) i (by unfold gs; omega) mk w5 (unhide HGK).len (by omega) htx hty ((unhide HGK).sh k hlt) ht4 (unhide HGK).score hi256 (unhide HGK).rng (((unhide HBM3).below (by omega) hb4).grown hg5 (Ne.symm hne1))).mono ?_
          rintro e w6 ⟨rfl, hb6, hg6⟩
          go_wp2_with fail
          go_roundg (n - (k + 1))
          case measure => have := unhide HGK0; omega
          case rel =>
            refine ⟨k + 1, rfl, by omega, by go_num, ((bw3.trans (hb4.mono bw3.size)).trans (below_grown hg5 (by have := bw3.size; omega) (by have := bw3.size; omega))).trans (below_grown hg6 (by have := bw3.size; omega) (Nat.le_refl _)), ?_, (((unhide HBZ3).below (by omega) hb4).grown hg5 (Ne.symm hne2)).grown hg6 (by omega)⟩
            rw [unhide HT, unhide HTL]; exact hb6
    · have hkn : k = n := by omega
      subst hkn
      have hlm := (good_turns (unhide HG) ins hn k (Nat.le_refl _)).len
      have HBM := hide hbm
      have HBZ := hide hbz
      clear hbm hbz
      go_wp2_with (first | (refine wpList_load_blk rfl 209 _ rfl w.heap.size rfl 209 (nums .u8 (turnsL m k ins k)) _ (unhide HBM) Tryz.underlying209 rfl (Tryz.sizeMem _ hlm) ?_) | (refine wpList_store_blk rfl 209 _ _ rfl (w.heap.size + 1) 209 (nums .u8 Z288) (nums .u8 (turnsL m k ins k)) rfl rfl (unhide HBZ) (Tryz.sizeMem _ hlm) (by rw [nums_size, nums_size, hlm, Z288_len]) (nums_one _ _) ?_))
      try rw [Exit.noGoto_ret]
      refine bodyPost_ret (v := .agg (nums .u8 (turnsL m k ins k))) ?_ rfl ⟨rfl, ?_⟩
      · exact results_cell_row Tryz.results200 _ _ (w.heap.size + 1) 209 _ (0, 0) _ rfl ((unhide HBZ).setRow _) Tryz.underlying209 rfl (Tryz.sizeMem _ hlm)
      · exact below_setRow hb (by omega) _
end Go.Proofs.YtandblanpafjoaaGreatDoor

namespace Go.Proofs.YtandblanpafjoaaGreatDoor
open Go.RowKit Go.Extern.Stop Go.Stop Go.Extern
theorem fo8 : fo 8 = 4620693217682128896 := by decide +kernel
theorem put_from (a b r i : Nat) (S : Int) (g k x y h t s : Nat) (ha : a = fo (x : Int)) (hb : b = fo (y : Int)) (hr : r = tre h t) (hi : i = tim h t) (hS : S = (s : Int)) (m : List Int) (w : World) (hm : m.length = 288) (hk : k < 4) (hx : x < 16) (hy : y < 16) (hh : h < 4) (ht : t < 4) (hs : s < 65536) (hblk : Blk w g (nums .u8 m) 209) :
    Calls Tryz.prog 137 #[.pointer (some ⟨g, 0, none⟩), .int .i64 (k : Int), .agg #[.complex .f64 a b, .complex .f64 r i, .int .u16 S]] w
      fun e w' => e = .returned (.tuple #[]) ∧ Blk w' g (nums .u8 (putL m k x y (newHead h t) s)) 209 ∧ w.grownBy w' (some g) := by
  subst ha hb hr hi hS; exact put_any g k x y h t s m w hm hk hx hy hh ht hs hblk
/-- The memory at the beginning. -/
def startTo : Nat → List Int
  | 0 => Z288
  | k + 1 => putL (startTo k) k (4 * k + 2) 8 0 0
theorem startTo_len : ∀ k, (startTo k).length = 288
  | 0 => Z288_len
  | k + 1 => by rw [startTo, putL_len]; exact startTo_len k
set_option maxRecDepth 100000 in
set_option maxHeartbeats 1000000 in
theorem start_any (n : Nat) (w : World) (hn : n ≤ 4) :
    Calls Tryz.prog 124 #[.int .i64 (n : Int)] w fun e w' => e = .returned (.agg (nums .u8 (startTo n))) ∧ Below w.heap.size w w' := by
  have hz := Tryz.zeroMem
  go_enter Tryz.func124, Tryz.ntmps124
  go_wp2_with fail
  go_loopw [6] (fun i wr => ∃ k : Nat, k ≤ n ∧ i = .int .i64 k ∧ Below w.heap.size w wr ∧ Blk wr w.heap.size (nums .u8 Z288) 209 ∧ Blk wr (w.heap.size + 1) (nums .u8 (startTo k)) 209) (fun i _ => n - (intOf i).toNat)
  case atStart => exact ⟨0, by omega, rfl, ((Below.refl _ _).alloc (Nat.le_refl _) _).alloc (by simp) _, heap_alloc2_old _ _ _, heap_alloc2_new _ _ _⟩
  case round =>
    obtain ⟨k, hk, rfl, hb, hbz, hbm⟩ := hrel
    have HBM := hide hbm
    have HBZ := hide hbz
    clear hbm hbz
    by_cases hlt : k < n
    · have hlt' : (k : Int) < (n : Int) := by omega
      go_wp2_with fail
      refine (put_from _ _ _ _ _ (w.heap.size + 1) k (4 * k + 2) 8 0 0 0 (by show floatOfInt _ _ = floatOfInt _ _; congr 1) fo8.symm rfl rfl rfl (startTo k) wr (startTo_len k) (by omega) (by omega) (by omega) (by omega) (by omega) (by omega) (unhide HBM)).mono ?_
      rintro e w2 ⟨rfl, hb2, hg2⟩
      go_wp2_with fail
      go_roundw
      case rel => exact ⟨k + 1, by omega, by go_num, hb.trans (below_grown hg2 hb.size (by omega)), (unhide HBZ).grown hg2 (by omega), hb2⟩
      case measure => simp [intOf]; omega
    · have hkn : k = n := by omega
      subst hkn
      go_wp2_with (first | (refine wpList_load_blk rfl 209 _ rfl (w.heap.size + 1) rfl 209 (nums .u8 (startTo k)) _ (unhide HBM) Tryz.underlying209 rfl (Tryz.sizeMem _ (startTo_len k)) ?_) | (refine wpList_store_blk rfl 209 _ _ rfl w.heap.size 209 (nums .u8 Z288) (nums .u8 (startTo k)) rfl rfl (unhide HBZ) (Tryz.sizeMem _ (startTo_len k)) (by rw [nums_size, nums_size, startTo_len, Z288_len]) (nums_one _ _) ?_))
      refine bodyPost_ret (v := .agg (nums .u8 (startTo k))) ?_ rfl ⟨rfl, ?_⟩
      · exact results_cell_row Tryz.results124 _ _ w.heap.size 209 _ (0, 0) _ rfl ((unhide HBZ).setRow _) Tryz.underlying209 rfl (Tryz.sizeMem _ (startTo_len k))
      · exact below_setRow hb (Nat.le_refl _) _
section
variable {P : Program}
/-- append within the room that there is. -/
theorem wpList_append_room {ops : Array Oper} {rest : List Oper} {o : Oper} {a : Act} {w : World} {Q : Exit → Act → World → Prop} (hgd : o.guard = none) (s x : Operand) (t : TypeId)
    (ho : o.op = .call { callee := .builtin .append, args := #[s, x], argTypes := #[t, t] }) (e : TypeId) (ht : P.underlying t = some (.slice e)) (hs : (P.info? e).map (·.size) = some 1)
    (g n cap : Nat) (hsv : a.eval s = .slice (some ⟨g, 0, none⟩) n cap) (ad : Addr) (m c : Nat) (hx : a.eval x = .slice (some ad) m c) (k : IntKind) (cur news : List Int)
    (hg : Blk w g (nums k cur) e) (hcur : cur.length = cap) (hl : news.length = m) (hnews : ∀ j u, (news.map (Value.int k))[j]? = some u → w.cell? (ad.add j) = some u) (hroom : n + m ≤ cap)
    (h : wpList P ops Q rest (a.put o.dst (.slice (some ⟨g, 0, none⟩) (n + m) cap)) (w.setRow g (nums k (cur.take n ++ news ++ cur.drop (n + m))))) : wpList P ops Q (o :: rest) a w :=
  wpList_plain hgd fun _ hK => by
    cases hq : P.info? e with
    | none => simp [hq] at hs
    | some i =>
      have hm : i.size = 1 := by simpa [hq] using hs
      have hr := run_append_room (P := P) w t o.type e i ht hq g n cap (nums k cur) hg ad m c (news.map (.int k)) (by rw [hm]; simp [hl]) hnews (nums_ones _ _) hroom (by rw [hm, nums_size, List.length_map]; omega)
      have e1 : ((nums k cur).toList.take (n * i.size) ++ news.map (Value.int k) ++ (nums k cur).toList.drop (n * i.size + (news.map (Value.int k)).length)).toArray = nums k (cur.take n ++ news ++ cur.drop (n + m)) := by
        rw [hm, List.length_map, hl]
        simp [nums, List.map_take, List.map_drop]
      rw [e1] at hr
      unfold Oper.wp execOp
      simp only [ho, resolve, invoke, builtin, Sem.run_bind, Sem.run_pure, Result.andThen_ok, List.map_toArray, List.map_cons, List.map_nil, hsv, hx, hr]
      exact hK _ _ h
end
theorem make288 (w : World) : (Instr.makeSlice 46 (.int .i64 0) (.int .i64 288)).run Tryz.prog w = .ok (.slice (some ⟨w.heap.size, 0, none⟩) 0 288) (w.alloc (.cells (nums .u8 Z288) 5)) := by kernel_rfl
set_option maxRecDepth 100000 in
set_option maxHeartbeats 1000000 in
theorem bytes_any (m : List Int) (w : World) (hm : m.length = 288) :
    Calls Tryz.prog 115 #[.agg (nums .u8 m)] w fun e w' => ∃ g, e = .returned (.slice (some ⟨g, 0, none⟩) 288 288) ∧ w.heap.size ≤ g ∧ Blk w' g (nums .u8 m) 5 ∧ Below w.heap.size w w' := by
  have hmk := make288
  go_enter Tryz.func115, Tryz.ntmps115
  go_wp2_with (refine wpList_load_row rfl 209 _ rfl w.heap.size rfl 209 (nums .u8 m) (0, 0) _ (heap_alloc2_old _ _ _) Tryz.underlying209 rfl (Tryz.sizeMem _ hm) ?_)
  go_loopw [3, 8] (fun v i wr => ∃ k : Nat, k ≤ 18 ∧ i = .int .i64 k ∧ v = .slice (some ⟨w.heap.size + 1, 0, none⟩) (16 * k) 288 ∧ Below w.heap.size w wr ∧ Blk wr (w.heap.size + 1) (nums .u8 (memTo m k)) 5) (fun _ i _ => 18 - (intOf i).toNat)
  case atStart => exact ⟨0, by omega, rfl, rfl, ((Below.refl _ _).alloc (Nat.le_refl _) _).alloc (by simp) _, by rw [memTo_zero]; exact heap_alloc2_new _ _ _⟩
  case round =>
    obtain ⟨k, hk, rfl, rfl, hb, hbm⟩ := hrel
    have HBM := hide hbm
    have hlb := hbm.lt
    clear hbm
    by_cases hlt : k < 18
    · have hlt' : (k : Int) < 18 := by omega
      have hpl := pageL_len m k hm hlt
      have hix : ∀ w, (Instr.index 209 (.agg (nums .u8 m)) (.int .i64 (k : Int))).run Tryz.prog w = .ok (.agg (nums .u8 (pageL m k))) w := fun w => by
        rw [run_index_part w 209 207 18 16 _ _ k Tryz.underlying209 Tryz.underlying207 rfl (by kernel_rfl) hlt, nums_extract, show k * 16 + 16 - k * 16 = 16 by omega, Nat.mul_comm k 16]; rfl
      have HI2 : Hid ((Tryz.prog.info? 207).map (·.size) = some (nums .u8 (pageL m k)).size) := by rw [nums_size, hpl]; exact hide (by kernel_rfl)
      have HS2 : Hid ((nums .u8 (List.replicate 16 0)).size = (nums .u8 (pageL m k)).size) := by rw [nums_size, nums_size, hpl]; exact hide rfl
      have HM : Hid ((memTo m k).take (16 * k) ++ pageL m k ++ (memTo m k).drop (16 * k + 16) = memTo m (k + 1)) := hide (memTo_succ m k hm hlt)
      go_wp2_with (first
        | (refine wpList_store_new rfl 207 _ _ rfl (nums .u8 (List.replicate 16 0)) (nums .u8 (pageL m k)) rfl rfl (unhide HI2) (unhide HS2) (nums_one _ _) ?_)
        | (at_builtin; refine wpList_append_room rfl _ _ 46 rfl 5 Tryz.underlying46 sizeU8 (w.heap.size + 1) (16 * k) 288 rfl ⟨wr.heap.size, 0, none⟩ 16 16 rfl .u8 (memTo m k) (pageL m k) ((unhide HBM).alloc _) (memTo_len m k hm hk) hpl (cells_new _ _ _ _ _ rfl) (by omega) ?_; rw [unhide HM]))
      go_roundw
      case rel => exact ⟨k + 1, by omega, by go_num, by rw [Nat.mul_succ], below_setRow (hb.alloc hb.size _) (by omega) _, ((unhide HBM).alloc _).setRow _⟩
      case measure => simp [intOf]; omega
    · have hkn : k = 18 := by omega
      subst hkn
      go_wp2
      go_ret
      exact ⟨w.heap.size + 1, rfl, by omega, by have := unhide HBM; rw [memTo_all m hm] at this; exact this, hb⟩
end Go.Proofs.YtandblanpafjoaaGreatDoor

namespace Go.Proofs.YtandblanpafjoaaGreatDoor
open Go.RowKit Go.Extern.Stop Go.Stop Go.Extern
def playTo (n : Nat) (fs : List (List Int)) : Nat → List Int
  | 0 => startTo n
  | k + 1 => frameL (playTo n fs k) n (fs.getD k [])
def playL (n : Nat) (fs : List (List Int)) : List Int := playTo n fs fs.length
theorem good_zero (n : Nat) : Good Z288 n := by
  have h : ∀ j : Nat, Z288.getD j 0 = 0 := fun j => by
    unfold Z288
    rw [List.getD_eq_getElem?_getD, List.getElem?_replicate]
    split <;> rfl
  exact ⟨Z288_len, fun j => by rw [h]; omega, fun k _ => by unfold gx; rw [h]; decide, fun k _ => by unfold gy; rw [h]; decide, fun k _ => by unfold gh; rw [h]; decide⟩
theorem good_start (n : Nat) : ∀ k, k ≤ 4 → Good (startTo k) n
  | 0, _ => good_zero n
  | k + 1, h => good_put (good_start n k (by omega)) k _ _ _ _ (by omega) (by omega) (by omega) (by omega) (by omega)
end Go.Proofs.YtandblanpafjoaaGreatDoor

namespace Go.Proofs.YtandblanpafjoaaGreatDoor
open Go.RowKit
def stF (n : Nat) (fs : Nat → List Int) : Nat → List Int
  | 0 => startTo n
  | f + 1 => frameL (stF n fs f) n (fs f)
theorem stF_congr {n : Nat} {fs gs : Nat → List Int} : ∀ f, (∀ k, k < f → fs k = gs k) → stF n fs f = stF n gs f
  | 0, _ => rfl
  | f + 1, h => by
    unfold stF
    rw [stF_congr f (fun k hk => h k (by omega)), h f (by omega)]
theorem good_frame {m : List Int} {n : Nat} (hg : Good m n) (ins : List Int) (hn : n ≤ 4) : Good (frameL m n ins) n := good_turns hg ins hn n (Nat.le_refl _)
theorem stF_good {n : Nat} (hn : n ≤ 4) (fs : Nat → List Int) : ∀ f, Good (stF n fs f) n
  | 0 => good_start n n hn
  | f + 1 => good_frame (stF_good hn fs f) _ hn
theorem stF_len {n : Nat} (hn : n ≤ 4) (fs : Nat → List Int) (f : Nat) : (stF n fs f).length = 288 := (stF_good hn fs f).len
/-- A memory with some pages put over. -/
def overL (m : List Int) (M : Nat → Option (List Int)) : List Int := (List.range 288).map fun j => match M (j / 16) with
  | some p => p.getD (j % 16) 0
  | none => m.getD j 0
theorem overL_len (m : List Int) (M : Nat → Option (List Int)) : (overL m M).length = 288 := by simp [overL]
theorem overL_get (m : List Int) (M : Nat → Option (List Int)) (j : Nat) (hj : j < 288) : (overL m M).getD j 0 = match M (j / 16) with
  | some p => p.getD (j % 16) 0
  | none => m.getD j 0 := by
  simp only [overL, List.getD_eq_getElem?_getD, List.getElem?_map, List.getElem?_range hj]
  rfl
theorem list_ext288 {a b : List Int} (ha : a.length = 288) (hb : b.length = 288) (h : ∀ j, j < 288 → a.getD j 0 = b.getD j 0) : a = b := by
  apply List.ext_getElem (by rw [ha, hb])
  intro i h1 h2
  have := h i (by omega)
  simpa [h1, h2] using this
/-- The pages in which two memories part, as the first has them. -/
def diffL (a b : List Int) (i : Nat) : Option (List Int) := if i < 18 ∧ pageL a i ≠ pageL b i then some (pageL a i) else none
theorem over_diff {a b : List Int} (ha : a.length = 288) : overL b (diffL a b) = a := by
  refine list_ext288 (overL_len _ _) ha fun j hj => ?_
  rw [overL_get _ _ _ hj]
  have e : 16 * (j / 16) + j % 16 = j := by omega
  unfold diffL
  by_cases h : pageL a (j / 16) = pageL b (j / 16)
  · rw [if_neg (by simp [h])]
    have h1 := pageL_get a (j / 16) (j % 16) (by omega)
    have h2 := pageL_get b (j / 16) (j % 16) (by omega)
    rw [e] at h1 h2
    rw [← h1, h, h2]
  · rw [if_pos ⟨by omega, h⟩]
    simp only [pageL_get a (j / 16) (j % 16) (by omega), e]
end Go.Proofs.YtandblanpafjoaaGreatDoor

