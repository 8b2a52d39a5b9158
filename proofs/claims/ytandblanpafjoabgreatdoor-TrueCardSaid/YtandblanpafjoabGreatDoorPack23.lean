import Derived.Test.YtandblanpafjoabGreatDoorPack22
import Derived.Test.YtandblanpafjoabGreatDoorPack12
import Derived.Test.YtandblanpafjoabGreatDoorPack18
import Derived.Test.YtandblanpafjoabGreatDoorPack01
import Derived.Laws.StructEq
namespace Go.Proofs.YtandblanpafjoabGreatDoor
open Go.RowKit Go.Shelf Go.Sort Go.Extern.Stop Go.Stop Go.Extern

/-! The wire's Flights. -/
def clV (cl cc : Nat → Nat) (zs : List FlyM) (i : Nat) : Value := .slice (some ⟨cl i, 0, none⟩) (fl zs i).bytes.length (cc i)
structure FlAt (w : World) (base fb : Nat) (cl cc : Nat → Nat) (zs : List FlyM) (k : Nat) : Prop where
  blk : ∃ cs, Blk w fb cs 66 ∧ cs.size = zs.length * 3 ∧ ∀ i, i < k → cs[i * 3]? = some (.int .i64 ((fl zs i).to : Int)) ∧ cs[i * 3 + 1]? = some (.int .i64 ((fl zs i).due : Int)) ∧ cs[i * 3 + 2]? = some (clV cl cc zs i)
  own : ∀ i, i < k → w.ownsRow base 5 1 (clV cl cc zs i) (fl zs i).bytes.length ((fl zs i).bytes.map (Value.int .u8))
  apart : ∀ i j, i < k → j < k → cl i = cl j → i = j
  off : ∀ i, i < k → cl i ≠ fb
theorem FlAt.lt {w : World} {base fb : Nat} {cl cc : Nat → Nat} {zs : List FlyM} {k : Nat} (h : FlAt w base fb cl cc zs k) (i : Nat) (hi : i < k) : base ≤ cl i ∧ cl i < w.heap.size := (h.own i hi).lt (cl i) rfl
theorem FlAt.same {w w' : World} {base fb : Nat} {cl cc : Nat → Nat} {zs : List FlyM} {k : Nat} (h : FlAt w base fb cl cc zs k) (h1 : w'.heap[fb]? = w.heap[fb]?) (h2 : ∀ i, i < k → w'.heap[cl i]? = w.heap[cl i]?) : FlAt w' base fb cl cc zs k where
  blk := by
    obtain ⟨cs, hB, hr⟩ := h.blk
    exact ⟨cs, h1.trans hB, hr⟩
  own := fun i hi => owns_same (h.own i hi) (fun q hq => by
    have : cl i = q := by simpa [clV, Value.ownBlock] using hq
    subst this; exact h2 i hi)
  apart := h.apart
  off := h.off
theorem FlAt.below {w w' : World} {base fb : Nat} {cl cc : Nat → Nat} {zs : List FlyM} {k : Nat} (h : FlAt w base fb cl cc zs k) (hb : Below w.heap.size w w') : FlAt w' base fb cl cc zs k :=
  h.same (by obtain ⟨cs, hB, _⟩ := h.blk; exact hb.block fb hB.lt) (fun i hi => hb.block _ (h.lt i hi).2)
theorem FlAt.cells {w : World} {base fb : Nat} {cl cc : Nat → Nat} {zs : List FlyM} {k : Nat} (h : FlAt w base fb cl cc zs k) (i : Nat) (hi : i < k) : w.cell? ⟨fb, i * 3, none⟩ = some (.int .i64 ((fl zs i).to : Int)) ∧ w.cell? ⟨fb, i * 3 + 1, none⟩ = some (.int .i64 ((fl zs i).due : Int)) ∧ w.cell? ⟨fb, i * 3 + 2, none⟩ = some (clV cl cc zs i) := by
  obtain ⟨cs, hB, _, hr⟩ := h.blk
  obtain ⟨r1, r2, r3⟩ := hr i hi
  exact ⟨(hB.cell _).trans r1, (hB.cell _).trans r2, (hB.cell _).trans r3⟩
theorem FlAt.byte {w : World} {base fb : Nat} {cl cc : Nat → Nat} {zs : List FlyM} {k : Nat} (h : FlAt w base fb cl cc zs k) (i j : Nat) (hi : i < k) (hj : j < (fl zs i).bytes.length) : w.cell? ⟨cl i, j, none⟩ = some (.int .u8 ((fl zs i).bytes.getD j 0)) := by
  have := (h.own i hi).cells (g := cl i) rfl j (.int .u8 ((fl zs i).bytes.getD j 0)) (by rw [List.getElem?_map, List.getElem?_eq_getElem hj, List.getD_eq_getElem?_getD, List.getElem?_eq_getElem hj]; rfl)
  rw [Addr.add_mid, Nat.zero_add] at this
  exact this
/-- One packet more. -/
theorem FlAt.step {w w3 : World} {base fb k g c : Nat} {cl cc : Nat → Nat} {zs : List FlyM} {cs : Array Value} (h : FlAt w base fb cl cc zs k) (hk : k < zs.length) (hB : Blk w fb cs 66) (hs : cs.size = zs.length * 3) (hr : ∀ i, i < k → cs[i * 3]? = some (.int .i64 ((fl zs i).to : Int)) ∧ cs[i * 3 + 1]? = some (.int .i64 ((fl zs i).due : Int)) ∧ cs[i * 3 + 2]? = some (clV cl cc zs i))
    (hold : ∀ q, q < w.heap.size → q ≠ fb → w3.heap[q]? = w.heap[q]?) {cs' : Array Value} (hB3 : Blk w3 fb cs' 66) (hs' : cs'.size = cs.size) (hc0 : cs'[k * 3]? = some (.int .i64 ((fl zs k).to : Int))) (hc1 : cs'[k * 3 + 1]? = some (.int .i64 ((fl zs k).due : Int))) (hc2 : cs'[k * 3 + 2]? = some (.slice (some ⟨g, 0, none⟩) (fl zs k).bytes.length c)) (hco : ∀ q, q < k * 3 → cs'[q]? = cs[q]?)
    (hown : w3.ownsRow base 5 1 (.slice (some ⟨g, 0, none⟩) (fl zs k).bytes.length c) (fl zs k).bytes.length ((fl zs k).bytes.map (Value.int .u8))) (hg : w.heap.size ≤ g) :
    FlAt w3 base fb (fun i => if i = k then g else cl i) (fun i => if i = k then c else cc i) zs (k + 1) := by
  have hfl := hB.lt
  have hV : ∀ i, i ≠ k → clV (fun i => if i = k then g else cl i) (fun i => if i = k then c else cc i) zs i = clV cl cc zs i := fun i hi => by simp [clV, hi]
  have hVk : clV (fun i => if i = k then g else cl i) (fun i => if i = k then c else cc i) zs k = .slice (some ⟨g, 0, none⟩) (fl zs k).bytes.length c := by simp [clV]
  refine ⟨⟨cs', hB3, by omega, fun i hi => ?_⟩, fun i hi => ?_, fun i j hi hj e => ?_, fun i hi => ?_⟩
  · by_cases e : i = k
    · subst e; rw [hVk]; exact ⟨hc0, hc1, hc2⟩
    · rw [hV i e, hco _ (by omega), hco _ (by omega), hco _ (by omega)]; exact hr i (by omega)
  · by_cases e : i = k
    · subst e; rw [hVk]; exact hown
    · rw [hV i e]
      refine owns_same (h.own i (by omega)) (fun q hq => ?_)
      have : cl i = q := by simpa [clV, Value.ownBlock] using hq
      subst this
      exact hold _ (h.lt i (by omega)).2 (h.off i (by omega))
  · by_cases e1 : i = k
    · by_cases e2 : j = k
      · rw [e1, e2]
      · simp only [if_pos e1, if_neg e2] at e
        have := (h.lt j (by omega)).2; omega
    · by_cases e2 : j = k
      · simp only [if_neg e1, if_pos e2] at e
        have := (h.lt i (by omega)).2; omega
      · simp only [if_neg e1, if_neg e2] at e
        exact h.apart i j (by omega) (by omega) e
  · by_cases e : i = k
    · simp only [if_pos e]; omega
    · simp only [if_neg e]; exact h.off i (by omega)
theorem Tryz.infoFl2 : (Tryz.prog.info? 66).map (fun i => (i.zero, i.size, i.bytes)) = some (some (.agg #[.int .i64 0, .int .i64 0, .slice none 0 0]), 3, 40) := by kernel_rfl
theorem Tryz.sizeFl2 : (Tryz.prog.info? 66).map (·.size) = some 3 := by kernel_rfl
theorem made_fl (n : Nat) (hn : n ≤ 1000000) :
    ∃ C : Array Value, C.size = n * 3 ∧ ∀ W : World, (Instr.makeSlice 52 (.int .i64 (n : Int)) (.int .i64 (n : Int))).run Tryz.prog W = .ok (.slice (some ⟨W.heap.size, 0, none⟩) n n) (W.alloc (.cells C 66)) := by
  obtain ⟨i8, hi8, hz0, hz1, hz2⟩ := info_parts Tryz.infoFl2
  refine ⟨madeCells (Value.agg #[.int .i64 0, .int .i64 0, .slice none 0 0]).cells (n * 3), size_madeCells _ _, fun W => ?_⟩
  rw [run_make W 52 66 i8 _ Tryz.underlying52 hi8 hz0 .i64 .i64 (n : Int) (n : Int) (by omega) (Int.le_refl _) (by rw [hz2]; omega) (by omega), hz1]
  simp
theorem cs_step (cs : Array Value) (k N : Nat) (hk : k < N) (hs : cs.size = N * 3) (a b c d : Value) : ((putA cs (k * 3) [a, b, c]).setIfInBounds (k * 3 + 2) d).size = cs.size ∧ ((putA cs (k * 3) [a, b, c]).setIfInBounds (k * 3 + 2) d)[k * 3]? = some a ∧ ((putA cs (k * 3) [a, b, c]).setIfInBounds (k * 3 + 2) d)[k * 3 + 1]? = some b ∧ ((putA cs (k * 3) [a, b, c]).setIfInBounds (k * 3 + 2) d)[k * 3 + 2]? = some d ∧ ∀ q, q < k * 3 → ((putA cs (k * 3) [a, b, c]).setIfInBounds (k * 3 + 2) d)[q]? = cs[q]? := by
  have hsz := putA_toList [a, b, c] (k * 3) cs
  have hg := putA_get [a, b, c] (k * 3) cs
  have hle : k * 3 + [a, b, c].length ≤ cs.size := by simp; omega
  refine ⟨by simp [hsz], ?_, ?_, ?_, fun q hq => ?_⟩
  · rw [Array.getElem?_setIfInBounds_ne (by omega), hg _ hle, if_pos (by simp)]; simp
  · rw [Array.getElem?_setIfInBounds_ne (by omega), hg _ hle, if_pos (by simp)]; simp
  · rw [Array.getElem?_setIfInBounds_self_of_lt (by omega)]
  · rw [Array.getElem?_setIfInBounds_ne (by omega), hg _ hle, if_neg (by omega)]
set_option maxRecDepth 10000 in
set_option maxHeartbeats 4000000 in
theorem wflights_any (nb : Nat) (pv : Value) (lags : List Int) (now sent : Nat) (lv wv : Value) (bl : Nat → Nat) (l : List FlyM) (w : World) (h : WireAt w nb pv lags now sent lv wv bl l) (hlen : l.length ≤ 1000000) (hby : ∀ f ∈ l, Blk w (bl f.num) (nums .u8 f.bytes) 5 ∧ f.bytes.length ≤ 100000) :
    Calls Tryz.prog 35 #[.pointer (some ⟨nb, 1, none⟩)] w fun e w' => ∃ fb cl cc ys, e = .returned (.slice (some ⟨fb, 0, none⟩) ys.length ys.length) ∧ ys.Perm l ∧ ys.Pairwise (fun a b => ¬ before b a) ∧ w.heap.size ≤ fb ∧ FlAt w' w.heap.size fb cl cc ys ys.length ∧ Below w.heap.size w w' := by
  have hQV := QV.ofOwn h.own
  have c4 : w.cell? ⟨nb, 4, none⟩ = some wv := h.blk.cell 4
  obtain ⟨wa, wm, wc, rfl⟩ : ∃ a m c, wv = .slice a m c := by
    rcases h.own.2 with ⟨h1, h2⟩ | ⟨g, cap, cur, h1, _⟩
    · exact ⟨none, 0, 0, h1⟩
    · exact ⟨_, _, _, h1⟩
  have hzp := Tryz.zeroPcl2
  have HY := hide hby
  have HQ := hide hQV
  clear h hby hQV
  go_enter Tryz.func35, Tryz.ntmps35
  go_wp2_with fail
  refine (vals_any wa wm wc w).mono ?_
  rintro e w1 ⟨rfl, rfl⟩
  have b1 : Below w.heap.size w (w.alloc (.cells #[.slice wa wm wc] 79)) := (Below.refl _ w).alloc (Nat.le_refl _) _
  have x1 : Blk (w.alloc (.cells #[.slice wa wm wc] 79)) w.heap.size #[.slice wa wm wc] 79 := Blk.new _ _ _
  have z1 : (w.alloc (.cells #[.slice wa wm wc] 79)).heap.size = w.heap.size + 1 := by simp
  generalize w.alloc (.cells #[.slice wa wm wc] 79) = W1 at *
  have hQ1 : QV W1.heap.size W1 (.slice wa wm wc) bl l := by
    rcases (unhide HQ).below b1 with h | ⟨b, cap, e, hl, hq⟩
    · exact .inl h
    · exact .inr ⟨b, cap, e, by omega, hq⟩
  have hso := sorted_any w.heap.size (.slice wa wm wc) bl l hlen W1 (by omega) (x1.cell 0) hQ1
  have HB := hide b1
  clear b1 x1 hQ1
  go_wp2_with fail
  refine hso.mono ?_
  clear hso
  rintro e w2 ⟨v, ys, rfl, hp, hs, hV, hb2⟩
  have hN : ys.length ≤ 1000000 := by rw [hp.length_eq]; exact hlen
  have hb02 : Below w.heap.size w w2 := (unhide HB).trans (hb2.mono (by omega))
  have hz2 := hb2.size
  have HP := hide (And.intro hp (And.intro hs hb02))
  clear hp hs hb2 hb02
  obtain ⟨C, hC, hmk⟩ := made_fl ys.length hN
  rcases hV with ⟨rfl, rfl⟩ | ⟨sb, scap, rfl, hsb, hsl, hPa⟩
  · have hmk0 : ∀ W : World, (Instr.makeSlice 52 (.int .i64 0) (.int .i64 0)).run Tryz.prog W = .ok (.slice (some ⟨W.heap.size, 0, none⟩) 0 0) (W.alloc (.cells C 66)) := hmk
    have HC := hide hC
    clear hmk hC hN
    go_wp2_with fail
    have x3 : Blk (w2.alloc (.cells C 66)) w2.heap.size C 66 := Blk.new _ _ _
    have b3 : Below w2.heap.size w2 (w2.alloc (.cells C 66)) := (Below.refl _ w2).alloc (Nat.le_refl _) _
    generalize w2.alloc (.cells C 66) = W3 at *
    have H3 := hide (And.intro x3 b3)
    clear x3 b3
    go_loopw [18] (fun i wr => i = .int .i64 0 ∧ wr = W3) (fun _ _ => 0)
    case atStart => exact ⟨rfl, rfl⟩
    case round =>
      obtain ⟨rfl, rfl⟩ := hrel
      go_wp2_with fail
      go_ret
      obtain ⟨hp, hs, hb⟩ := unhide HP
      obtain ⟨x3, b3⟩ := unhide H3
      exact ⟨w2.heap.size, fun _ => 0, fun _ => 0, [], rfl, hp, hs, by omega, ⟨⟨C, x3, unhide HC, fun i hi => by simp at hi⟩, fun i hi => by simp at hi, fun i j hi => by simp at hi, fun i hi => by simp at hi⟩, hb.trans (b3.mono (by omega))⟩
  · have HC := hide hC
    have HPa := hide hPa
    clear hC hPa
    obtain ⟨N, hNe⟩ : ∃ N, ys.length = N := ⟨_, rfl⟩
    rw [hNe] at hmk hN
    rw [hNe]
    have HN := hide hNe
    clear hNe
    go_wp2_with fail
    have x3 : Blk (w2.alloc (.cells C 66)) w2.heap.size C 66 := Blk.new _ _ _
    have b3 : Below w2.heap.size w2 (w2.alloc (.cells C 66)) := (Below.refl _ w2).alloc (Nat.le_refl _) _
    have z3 : (w2.alloc (.cells C 66)).heap.size = w2.heap.size + 1 := by simp
    generalize w2.alloc (.cells C 66) = W3 at *
    obtain ⟨fb, hfb⟩ : ∃ fb, w2.heap.size = fb := ⟨_, rfl⟩
    rw [hfb]
    rw [hfb] at x3 b3 z3 hsl hz2
    have H3 := hide (And.intro x3 b3)
    have HF := hide hfb
    clear x3 b3 hfb
    go_loopw [18] (fun i wr => ∃ (k : Nat) (cl cc : Nat → Nat), k ≤ N ∧ i = .int .i64 (k : Int) ∧ FlAt wr w.heap.size fb cl cc ys k ∧ Chg (fun q => q = fb) W3 wr) (fun i _ => N - (intOf i).toNat)
    case atStart =>
      obtain ⟨x3, b3⟩ := unhide H3
      exact ⟨0, fun _ => 0, fun _ => 0, by omega, rfl, ⟨⟨C, x3, unhide HC, fun i hi => by omega⟩, fun i hi => by omega, fun i j hi => by omega, fun i hi => by omega⟩, Chg.refl _ _⟩
    case round =>
      obtain ⟨k, cl, cc, hk, rfl, hFl, hCh⟩ := hrel
      by_cases hlt : k < N
      · have hPr : ParcAt wr sb bl ys := ((unhide HPa).same ((unhide H3).2.block sb hsl)).same (hCh.block sb (by omega) (by omega))
        have hky : k < ys.length := by rw [unhide HN]; exact hlt
        have c0 : wr.cell? ⟨sb, k * 4, none⟩ = some (.int .i64 ((fl ys k).to : Int)) := hPr k 0 hky (by omega)
        have c1 : wr.cell? ⟨sb, k * 4 + 1, none⟩ = some (.int .i64 ((fl ys k).due : Int)) := hPr k 1 hky (by omega)
        have c2 : wr.cell? ⟨sb, k * 4 + 2, none⟩ = some (.slice (some ⟨bl (fl ys k).num, 0, none⟩) (fl ys k).bytes.length (fl ys k).bytes.length) := hPr k 2 hky (by omega)
        have c3 : wr.cell? ⟨sb, k * 4 + 3, none⟩ = some (.int .i64 ((fl ys k).num : Int)) := hPr k 3 hky (by omega)
        have hmem : fl ys k ∈ ys := by
          simp only [fl, List.getD_eq_getElem?_getD, List.getElem?_eq_getElem hky]
          exact List.getElem_mem hky
        obtain ⟨hyB, hyL⟩ := unhide HY (fl ys k) ((unhide HP).1.mem_iff.1 hmem)
        have hyl := hyB.lt
        have hz02 := (unhide HP).2.2.size
        have hyW : Blk wr (bl (fl ys k).num) (nums .u8 (fl ys k).bytes) 5 := by
          have e1 := (unhide HP).2.2.block _ hyl
          have e2 := (unhide H3).2.block (bl (fl ys k).num) (by have := unhide HF; omega)
          have e3 := hCh.block (bl (fl ys k).num) (by have := unhide HF; omega) (by have := unhide HF; omega)
          exact ((e3.trans e2).trans e1).trans hyB
        obtain ⟨cs, hB, hs, hr⟩ := hFl.blk
        have hfl := hB.lt
        rw [unhide HN] at hs
        have hthere : (wr.alloc (.cells (pcA bl (fl ys k)) 127)).there fb (k * 3) 3 := (hB.alloc _).there (by omega)
        have HK := hide (And.intro hFl (And.intro hCh (And.intro hB (And.intro hs (And.intro hr (And.intro hyW hyL))))))
        clear hPr hmem hyB hyL hFl hCh hB hr hyW
        obtain ⟨x, hx⟩ : ∃ x, fl ys k = x := ⟨_, rfl⟩
        rw [hx] at c0 c1 c2 c3 hthere
        have HX := hide hx
        clear hx
        unfold pcA at hthere
        have k0 : (0 : Int) ≤ (k : Int) := by omega
        have h1c : (#[.int .i64 (x.to : Int), .int .i64 (x.due : Int), .slice (some ⟨bl x.num, 0, none⟩) x.bytes.length x.bytes.length] : Array Value).all (·.oneCell') = true := by simp [Value.oneCell']
        have hPB : Blk (wr.alloc (.cells #[.int .i64 (x.to : Int), .int .i64 (x.due : Int), .slice (some ⟨bl x.num, 0, none⟩) x.bytes.length x.bytes.length, .int .i64 (x.num : Int)] 127)) wr.heap.size #[.int .i64 (x.to : Int), .int .i64 (x.due : Int), .slice (some ⟨bl x.num, 0, none⟩) x.bytes.length x.bytes.length, .int .i64 (x.num : Int)] 127 := Blk.new _ _ _
        have hC2 : ∀ W4 : World, Blk W4 wr.heap.size #[.int .i64 (x.to : Int), .int .i64 (x.due : Int), .slice (some ⟨bl x.num, 0, none⟩) x.bytes.length x.bytes.length, .int .i64 (x.num : Int)] 127 → W4.cell? ⟨wr.heap.size, 2, none⟩ = some (.slice (some ⟨bl x.num, 0, none⟩) x.bytes.length x.bytes.length) := fun W4 h => h.cell 2
        go_wp2_with (refine wpList_store_mid rfl 66 (.tmp 27) (.tmp 26) rfl fb (k * 3) #[.int .i64 (x.to : Int), .int .i64 (x.due : Int), .slice (some ⟨bl x.num, 0, none⟩) x.bytes.length x.bytes.length] rfl rfl hthere Tryz.sizeFl2 h1c ?_; generalize hW4 : World.setCells (wr.alloc (.cells #[.int .i64 (x.to : Int), .int .i64 (x.due : Int), .slice (some ⟨bl x.num, 0, none⟩) x.bytes.length x.bytes.length, .int .i64 (x.num : Int)] 127)) fb (k * 3) (#[.int .i64 (x.to : Int), .int .i64 (x.due : Int), .slice (some ⟨bl x.num, 0, none⟩) x.bytes.length x.bytes.length] : Array Value).toList = W4; have hPB4 : Blk W4 wr.heap.size #[.int .i64 (x.to : Int), .int .i64 (x.due : Int), .slice (some ⟨bl x.num, 0, none⟩) x.bytes.length x.bytes.length, .int .i64 (x.num : Int)] 127 := (by rw [← hW4]; exact (heap_setCells_other (by omega) _ _ _).trans hPB); have c42 : W4.cell? ⟨wr.heap.size, 2, none⟩ = some (.slice (some ⟨bl x.num, 0, none⟩) x.bytes.length x.bytes.length) := hC2 W4 hPB4; have HW4 := hide hW4; clear hW4 hPB4 hPB hthere h1c hC2)
        obtain ⟨hFl, hCh, hB, hs, hr, hyW, hyL⟩ := unhide HK
        have hW4 := unhide HW4
        have hx := unhide HX
        rw [hx] at hyW hyL hyl
        have hB4 : Blk W4 fb (putA cs (k * 3) [.int .i64 (x.to : Int), .int .i64 (x.due : Int), .slice (some ⟨bl x.num, 0, none⟩) x.bytes.length x.bytes.length]) 66 := by
          rw [← hW4]; exact Blk.setCells _ _ _ _ (hB.alloc _)
        have hz4 : W4.heap.size = wr.heap.size + 1 := by rw [← hW4, size_setCells]; simp
        have hold4 : ∀ q, q < wr.heap.size → q ≠ fb → W4.heap[q]? = wr.heap[q]? := fun q hq hne => by
          rw [← hW4, heap_setCells_other hne]; exact heap_alloc_old wr _ hq
        have hyne : bl x.num ≠ fb := by
          have := unhide HF
          have := (unhide HP).2.2.size
          omega
        have hy4 : Blk W4 (bl x.num) (nums .u8 x.bytes) 5 := (hold4 _ hyW.lt hyne).trans hyW
        have hsrc : SrcAt W4 (some ⟨bl x.num, 0, none⟩) x.bytes := .inr ⟨_, _, rfl, hy4.lt, fun j hj => by rw [Nat.zero_add]; exact hy4.num j hj⟩
        refine (sclone_any (bl x.num) x.bytes.length x.bytes.length x.bytes W4 rfl hyL hsrc).mono ?_
        rintro e w5 ⟨g5, c5, rfl, hg5, hgl5, hown5, hb5⟩
        have hB5 : Blk w5 fb (putA cs (k * 3) [.int .i64 (x.to : Int), .int .i64 (x.due : Int), .slice (some ⟨bl x.num, 0, none⟩) x.bytes.length x.bytes.length]) 66 := (hb5.block fb hB4.lt).trans hB4
        obtain ⟨s1, s2, s3, s4, s5⟩ := cs_step cs k N hlt hs (.int .i64 (x.to : Int)) (.int .i64 (x.due : Int)) (.slice (some ⟨bl x.num, 0, none⟩) x.bytes.length x.bytes.length) (.slice (some ⟨g5, 0, none⟩) x.bytes.length c5)
        have hsp : (putA cs (k * 3) [.int .i64 (x.to : Int), .int .i64 (x.due : Int), .slice (some ⟨bl x.num, 0, none⟩) x.bytes.length x.bytes.length]).size = cs.size := putA_toList _ _ _
        have f5 : w5.frozen? ⟨fb, k * 3 + 2, none⟩ = false := hB5.frozen _
        obtain ⟨v5, hv5⟩ : ∃ v5, w5.cell? ⟨fb, k * 3 + 2, none⟩ = some v5 := ⟨_, (hB5.cell _).trans (Array.getElem?_eq_getElem (by omega))⟩
        have hold6 : ∀ q, q < wr.heap.size → q ≠ fb → (w5.setCell ⟨fb, k * 3 + 2, none⟩ (.slice (some ⟨g5, 0, none⟩) x.bytes.length c5)).heap[q]? = wr.heap[q]? := fun q hq hne => by
          rw [heap_setCell_other _ _ _ _ hne, hb5.block q (by omega)]; exact hold4 q hq hne
        have hgne : g5 ≠ fb := by omega
        have hown6 : (w5.setCell ⟨fb, k * 3 + 2, none⟩ (.slice (some ⟨g5, 0, none⟩) x.bytes.length c5)).ownsRow w.heap.size 5 1 (.slice (some ⟨g5, 0, none⟩) x.bytes.length c5) x.bytes.length (x.bytes.map (Value.int .u8)) := by
          refine owns_same (owns_mono hown5 ?_) (fun q hq => heap_setCell_other _ _ _ _ ?_)
          · have := (unhide HP).2.2.size
            have := unhide HF
            omega
          · have : g5 = q := by simpa [Value.ownBlock] using hq
            rw [← this]; exact hgne
        have hst := hFl.step (w3 := w5.setCell ⟨fb, k * 3 + 2, none⟩ (.slice (some ⟨g5, 0, none⟩) x.bytes.length c5)) (g := g5) (c := c5) (by rw [unhide HN]; exact hlt) hB (by rw [unhide HN]; exact hs) hr hold6 (hB5.set (k * 3 + 2) _) s1 (by rw [hx]; exact s2) (by rw [hx]; exact s3) (by rw [hx]; exact s4) s5 (by rw [hx]; exact hown6) (by omega)
        have hC6 : Chg (fun q => q = fb) W3 (w5.setCell ⟨fb, k * 3 + 2, none⟩ (.slice (some ⟨g5, 0, none⟩) x.bytes.length c5)) := by
          have e4 : Chg (fun q => q = fb) wr W4 := by rw [← hW4]; exact (Chg.alloc _ wr _).trans (Chg.setCells (F := fun q => q = fb) _ fb (k * 3) _ rfl) (fun _ _ h => h)
          have e5 : Chg (fun q => q = fb) W4 w5 := Chg.ofBelow hb5
          have e6 : Chg (fun q => q = fb) w5 (w5.setCell ⟨fb, k * 3 + 2, none⟩ (.slice (some ⟨g5, 0, none⟩) x.bytes.length c5)) := Chg.setCell w5 fb (k * 3 + 2) _ rfl
          exact ((hCh.trans e4 (fun _ _ h => h)).trans e5 (fun _ _ h => h)).trans e6 (fun _ _ h => h)
        have HS := hide (And.intro hst hC6)
        clear hst hC6 hown6 hold6 hgne s1 s2 s3 s4 s5 hsp hB5 hb5 hown5 hg5 hgl5 hsrc hy4 hyne hold4 hz4 hB4 hx hW4 hFl hCh hB hr hyW hyL HW4 HK hs
        go_wp2_with fail
        go_roundw
        case rel =>
          obtain ⟨hst, hC6⟩ := unhide HS
          exact ⟨k + 1, _, _, by omega, by go_num, hst, hC6⟩
        case measure => simp [intOf]; omega
      · have hd : decide (k < N) = false := by simp; omega
        have H := hide (And.intro hFl hCh)
        have hkN : k = N := by omega
        clear hFl hCh
        go_wp2_with fail
        go_ret
        obtain ⟨hp, hs, hb⟩ := unhide HP
        obtain ⟨hFl, hCh⟩ := unhide H
        obtain ⟨x3, b3⟩ := unhide H3
        refine ⟨fb, cl, cc, ys, by rw [unhide HN]; rfl, hp, hs, by have := hb.size; have := unhide HF; omega, by rw [unhide HN, ← hkN]; exact hFl, ?_⟩
        have hz := hb.size
        have hF := unhide HF
        exact (hb.trans (b3.mono (by omega))).trans (hCh.toBelow (by omega) (fun q hq => by omega))
end Go.Proofs.YtandblanpafjoabGreatDoor

namespace Go.Proofs.YtandblanpafjoabGreatDoor
open Go.RowKit

/-! How peers stand, compared. -/
def psA (a b c d0 d1 d2 d3 : Int) : Array Value := #[.int .i64 a, .int .i64 b, .int .i64 c, .int .i64 d0, .int .i64 d1, .int .i64 d2, .int .i64 d3]
theorem ps_int (w : World) (xs : Array Value) (i : Nat) (x : Int) (h : xs[i]? = some (.int .i64 x)) : (part 3 xs i).run Tryz.prog w = .ok (.int .i64 x) w := by
  have hagg := Tryz.isAgg3 w
  simp [part, hagg, h]
theorem ps_arr (w : World) (xs : Array Value) (i : Nat) : (part 36 xs i).run Tryz.prog w = .ok (.agg (xs.extract i (i + 4))) w := by
  have hagg := Tryz.isAgg36 w
  have hsz := Tryz.sizeOf36 w
  simp only [part, Sem.run_bind, hagg, Result.andThen_ok, if_true, hsz]
  rfl
theorem ps_arr_eq (w : World) (d0 d1 d2 d3 d0' d1' d2' d3' : Int) : (Op.equalIn 9999 36 (.agg #[.int .i64 d0, .int .i64 d1, .int .i64 d2, .int .i64 d3]) (.agg #[.int .i64 d0', .int .i64 d1', .int .i64 d2', .int .i64 d3'])).run Tryz.prog w = .ok (decide ([d0, d1, d2, d3] = [d0', d1', d2', d3'])) w := by
  have hi : (Tryz.prog.info? 3).map (·.size) = some 1 := by kernel_rfl
  cases hq : Tryz.prog.info? 3 with
  | none => simp [hq] at hi
  | some i =>
    have hc : Tryz.prog.cellsOf 3 = 1 := by simpa [Program.cellsOf, hq] using hi
    show (Op.equalIn (9998 + 1) 36 (.agg (nums .i64 [d0, d1, d2, d3])) (.agg (nums .i64 [d0', d1', d2', d3']))).run Tryz.prog w = _
    rw [run_equalIn_array w 9998 (nums .i64 [d0, d1, d2, d3]) (nums .i64 [d0', d1', d2', d3']) Tryz.underlying36 hq, hc, run_eqItems_nums w 9997 3 .i64 Tryz.underlying3 [d0, d1, d2, d3] [d0', d1', d2', d3'] (List.range 4) (fun i hi => by simp at hi; simp; omega), all_eq_iff _ _ 4 rfl rfl]
set_option maxRecDepth 10000 in
theorem psA_eq (w : World) (a b c d0 d1 d2 d3 a' b' c' d0' d1' d2' d3' : Int) : (Op.equalIn 10000 38 (.agg (psA a b c d0 d1 d2 d3)) (.agg (psA a' b' c' d0' d1' d2' d3'))).run Tryz.prog w = .ok (decide (a = a' ∧ b = b' ∧ c = c' ∧ [d0, d1, d2, d3] = [d0', d1', d2', d3'])) w := by
  rw [show (10000 : Nat) = 9999 + 1 from rfl, run_equalIn_struct w 9999 38 _ _ (by kernel_rfl) (by kernel_rfl)]
  simp only [Program.fieldsOf, Tryz.underlying38, Op.eqFields]
  have e1 : (psA a b c d0 d1 d2 d3).extract 3 7 = #[.int .i64 d0, .int .i64 d1, .int .i64 d2, .int .i64 d3] := by simp [psA]
  have e2 : (psA a' b' c' d0' d1' d2' d3').extract 3 7 = #[.int .i64 d0', .int .i64 d1', .int .i64 d2', .int .i64 d3'] := by simp [psA]
  have i0 := ps_int w (psA a b c d0 d1 d2 d3) 0 a rfl
  have i1 := ps_int w (psA a b c d0 d1 d2 d3) 1 b rfl
  have i2 := ps_int w (psA a b c d0 d1 d2 d3) 2 c rfl
  have i3 := ps_arr w (psA a b c d0 d1 d2 d3) 3
  have j0 := ps_int w (psA a' b' c' d0' d1' d2' d3') 0 a' rfl
  have j1 := ps_int w (psA a' b' c' d0' d1' d2' d3') 1 b' rfl
  have j2 := ps_int w (psA a' b' c' d0' d1' d2' d3') 2 c' rfl
  have j3 := ps_arr w (psA a' b' c' d0' d1' d2' d3') 3
  rw [e1] at i3
  rw [e2] at j3
  have q0 := run_equalIn_int w 9998 3 .i64 .i64 a a' Tryz.underlying3
  have q1 := run_equalIn_int w 9998 3 .i64 .i64 b b' Tryz.underlying3
  have q2 := run_equalIn_int w 9998 3 .i64 .i64 c c' Tryz.underlying3
  have q3 := ps_arr_eq w d0 d1 d2 d3 d0' d1' d2' d3'
  simp only [ne_eq, String.reduceEq, not_false_eq_true, if_true, Sem.run_bind, i0, j0, Result.andThen_ok, q0]
  by_cases h0 : a = a'
  · subst h0
    simp only [BEq.rfl, Bool.not_true, Bool.false_eq_true, if_false, Sem.run_bind, i1, j1, Result.andThen_ok, q1]
    by_cases h1 : b = b'
    · subst h1
      simp only [BEq.rfl, Bool.not_true, Bool.false_eq_true, if_false, Sem.run_bind, i2, j2, Result.andThen_ok, q2]
      by_cases h2 : c = c'
      · subst h2
        simp only [BEq.rfl, Bool.not_true, Bool.false_eq_true, if_false, Sem.run_bind, i3, j3, Result.andThen_ok, q3]
        by_cases h3 : [d0, d1, d2, d3] = [d0', d1', d2', d3']
        · simp [h3]
        · simp [h3]
      · simp [h2]
    · simp [h1]
  · simp [h0]
end Go.Proofs.YtandblanpafjoabGreatDoor

