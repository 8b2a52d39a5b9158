import Derived.Test.YtandblanpafjoabGreatDoorSettle
/-! The game as plain functions on a memory, a list of 288 numbers. -/
namespace Go.Proofs.YtandblanpafjoabGreatDoor

theorem getD_set (l : List Int) (i j : Nat) (v : Int) (hi : i < l.length) : (l.set i v).getD j 0 = if i = j then v else l.getD j 0 := by
  by_cases h : i = j
  · subst h; rw [if_pos rfl]; simp [hi]
  · rw [if_neg h]; simp [List.getElem?_set_ne h]

def gx (m : List Int) (k : Nat) : Nat := (m.getD (256 + 8 * k) 0).toNat
def gy (m : List Int) (k : Nat) : Nat := (m.getD (256 + 8 * k + 1) 0).toNat
def gh (m : List Int) (k : Nat) : Nat := (m.getD (256 + 8 * k + 2) 0).toNat
def ga (m : List Int) (k : Nat) : Nat := (m.getD (256 + 8 * k + 3) 0).toNat
def gb (m : List Int) (k : Nat) : Nat := (m.getD (256 + 8 * k + 4) 0).toNat
/-- A ship's score. -/
def gs (m : List Int) (k : Nat) : Nat := ga m k * 256 + gb m k

structure Good (m : List Int) (n : Nat) : Prop where
  len : m.length = 288
  rng : ∀ j : Nat, 0 ≤ m.getD j 0 ∧ m.getD j 0 ≤ 255
  sx : ∀ k, k < n → gx m k < 16
  sy : ∀ k, k < n → gy m k < 16
  sh : ∀ k, k < n → gh m k < 4

theorem Good.ship {m : List Int} {n k : Nat} (h : Good m n) (hk : k < n) : ShipAt m k (gx m k) (gy m k) (gh m k) (ga m k) (gb m k) where
  ex := by have := (h.rng (256 + 8 * k)).1; unfold gx; omega
  ey := by have := (h.rng (256 + 8 * k + 1)).1; unfold gy; omega
  eh := by have := (h.rng (256 + 8 * k + 2)).1; unfold gh; omega
  ea := by have := (h.rng (256 + 8 * k + 3)).1; unfold ga; omega
  eb := by have := (h.rng (256 + 8 * k + 4)).1; unfold gb; omega
  hx := h.sx k hk
  hy := h.sy k hk
  hh := h.sh k hk
  ha := by have := (h.rng (256 + 8 * k + 3)); unfold ga; omega
  hb := by have := (h.rng (256 + 8 * k + 4)); unfold gb; omega
theorem Good.score {m : List Int} {n k : Nat} (h : Good m n) : gs m k < 65536 := by
  have h1 := h.rng (256 + 8 * k + 3)
  have h2 := h.rng (256 + 8 * k + 4)
  unfold gs ga gb; omega

def blocked (m : List Int) (n k tx ty : Nat) : Bool := (List.range n).any fun o => decide (o ≠ k) && (decide (gx m o = tx) && decide (gy m o = ty))
/-- One player's input. -/
def turnL (m : List Int) (n k i : Nat) : List Int :=
  if blocked m n k (goX (gx m k) (gh m k) (i % 4)) (goY (gy m k) (gh m k) (i % 4)) then settleL m k (gx m k) (gy m k) (newHead (gh m k) (i % 4)) (gs m k) i
  else settleL m k (goX (gx m k) (gh m k) (i % 4)) (goY (gy m k) (gh m k) (i % 4)) (newHead (gh m k) (i % 4)) (gs m k) i
/-- A frame's first inputs. -/
def turnsL (m : List Int) (n : Nat) (ins : List Int) : Nat → List Int
  | 0 => m
  | k + 1 => turnL (turnsL m n ins k) n k (ins.getD k 0).toNat
def frameL (m : List Int) (n : Nat) (ins : List Int) : List Int := turnsL m n ins n

theorem putL_len (m : List Int) (k x y h s : Nat) : (putL m k x y h s).length = m.length := by simp [putL]
theorem putL_get (m : List Int) (k x y h s j : Nat) (hm : m.length = 288) (hk : k < 4) : (putL m k x y h s).getD j 0 =
    if j = 256 + 8 * k + 4 then ((s % 256 : Nat) : Int) else if j = 256 + 8 * k + 3 then ((s / 256 : Nat) : Int) else if j = 256 + 8 * k + 2 then (h : Int) else if j = 256 + 8 * k + 1 then (y : Int) else if j = 256 + 8 * k then (x : Int) else m.getD j 0 := by
  unfold putL
  rw [getD_set _ _ _ _ (by simp [hm]; omega), getD_set _ _ _ _ (by simp [hm]; omega), getD_set _ _ _ _ (by simp [hm]; omega), getD_set _ _ _ _ (by simp [hm]; omega), getD_set _ _ _ _ (by simp [hm]; omega)]
  simp only [eq_comm]
theorem good_put {m : List Int} {n : Nat} (hg : Good m n) (k x y h s : Nat) (hk : k < 4) (hx : x < 16) (hy : y < 16) (hh : h < 4) (hs : s < 65536) : Good (putL m k x y h s) n where
  len := by rw [putL_len]; exact hg.len
  rng j := by
    rw [putL_get m k x y h s j hg.len hk]
    have := hg.rng j
    repeat (first | omega | split)
  sx o ho := by
    unfold gx
    rw [putL_get m k x y h s _ hg.len hk]
    have := hg.sx o ho
    unfold gx at this
    repeat (first | omega | split)
  sy o ho := by
    unfold gy
    rw [putL_get m k x y h s _ hg.len hk]
    have := hg.sy o ho
    unfold gy at this
    repeat (first | omega | split)
  sh o ho := by
    unfold gh
    rw [putL_get m k x y h s _ hg.len hk]
    have := hg.sh o ho
    unfold gh at this
    repeat (first | omega | split)
theorem good_cell {m : List Int} {n : Nat} (hg : Good m n) (c k : Nat) (hc : c < 256) (hk : k < 4) : Good (m.set c ((k : Int) + 1)) n where
  len := by rw [List.length_set]; exact hg.len
  rng j := by
    rw [getD_set _ _ _ _ (by rw [hg.len]; omega)]
    have := hg.rng j
    split <;> omega
  sx o ho := by unfold gx; rw [getD_set _ _ _ _ (by rw [hg.len]; omega), if_neg (by omega)]; exact hg.sx o ho
  sy o ho := by unfold gy; rw [getD_set _ _ _ _ (by rw [hg.len]; omega), if_neg (by omega)]; exact hg.sy o ho
  sh o ho := by unfold gh; rw [getD_set _ _ _ _ (by rw [hg.len]; omega), if_neg (by omega)]; exact hg.sh o ho
theorem good_settle {m : List Int} {n : Nat} (hg : Good m n) (k x y h s i : Nat) (hk : k < 4) (hx : x < 16) (hy : y < 16) (hh : h < 4) (hs : s < 65536) : Good (settleL m k x y h s i) n := by
  unfold settleL
  split
  · exact good_put (good_cell hg _ k (by omega) hk) k x y h _ hk hx hy hh (Nat.mod_lt _ (by omega))
  · exact good_put hg k x y h s hk hx hy hh hs
theorem good_turn {m : List Int} {n : Nat} (hg : Good m n) (k i : Nat) (hk : k < n) (hn : n ≤ 4) : Good (turnL m n k i) n := by
  have h1 := hg.sx k hk
  have h2 := hg.sy k hk
  have h3 := newHead_lt (gh m k) (i % 4) (hg.sh k hk)
  have h4 := hg.score (k := k)
  unfold turnL
  split
  · exact good_settle hg k _ _ _ _ i (by omega) h1 h2 h3 h4
  · exact good_settle hg k _ _ _ _ i (by omega) (goX_lt _ _ _ h1) (goY_lt _ _ _ h2) h3 h4
theorem good_turns {m : List Int} {n : Nat} (hg : Good m n) (ins : List Int) (hn : n ≤ 4) : ∀ k, k ≤ n → Good (turnsL m n ins k) n
  | 0, _ => hg
  | k + 1, h => good_turn (good_turns hg ins hn k (by omega)) k _ (by omega) hn
end Go.Proofs.YtandblanpafjoabGreatDoor
