import Derived.Test.YtandblanpafjoaaGreatDoorPack16
import Derived.Test.YtandblanpafjoaaGreatDoorPack08
import Derived.Test.YtandblanpafjoaaGreatDoorChecked
import Derived.Test.YtandblanpafjoaaGreatDoorPack01
import Derived.Test.YtandblanpafjoaaGreatDoorRows
import Derived.Test.YtandblanpafjoaaGreatDoorPack03
import Derived.ChangeSame
import Derived.ChangeVars
import Derived.JoinedOf
import Derived.RowKit
import Derived.RowKitTokens
import Derived.LaidLaws
import Derived.LaidHandle
import Derived.Stop.Joined
namespace Go.Proofs.YtandblanpafjoaaGreatDoor
open Go.RowKit Go.Shelf Go.Sort Go.Extern.Stop Go.Stop Go.Extern
def clV (cl cc : Nat → Nat) (zs : List FlyM) (i : Nat) : Value := .slice (some ⟨cl i, 0, none⟩) (fl zs i).bytes.length (cc i)
structure FlAt (w : World) (base fb : Nat) (cl cc : Nat → Nat) (zs : List FlyM) (k : Nat) : Prop where
  blk : ∃ cs, Blk w fb cs 91 ∧ cs.size = zs.length * 3 ∧ ∀ i, i < k → cs[i * 3]? = some (.int .i64 ((fl zs i).to : Int)) ∧ cs[i * 3 + 1]? = some (.int .i64 ((fl zs i).due : Int)) ∧ cs[i * 3 + 2]? = some (clV cl cc zs i)
  own : ∀ i, i < k → w.ownsRow base 5 1 (clV cl cc zs i) (fl zs i).bytes.length ((fl zs i).bytes.map (Value.int .u8))
  apart : ∀ i j, i < k → j < k → cl i = cl j → i = j
  off : ∀ i, i < k → cl i ≠ fb
theorem FlAt.lt {w : World} {base fb : Nat} {cl cc : Nat → Nat} {zs : List FlyM} {k : Nat} (h : FlAt w base fb cl cc zs k) (i : Nat) (hi : i < k) : base ≤ cl i ∧ cl i < w.heap.size := (h.own i hi).lt (cl i) rfl
theorem FlAt.same {w w' : World} {base fb : Nat} {cl cc : Nat → Nat} {zs : List FlyM} {k : Nat} (h : FlAt w base fb cl cc zs k) (h1 : w'.heap[fb]? = w.heap[fb]?) (h2 : ∀ i, i < k → w'.heap[cl i]? = w.heap[cl i]?) : FlAt w' base fb cl cc zs k where
  blk := by
    obtain ⟨cs, hB, hr⟩ := h.blk
    exact ⟨cs, h1.trans hB, hr⟩
  own := fun i hi => owns_same (h.own i hi) (fun q hq => by
    have : cl i = q := by simpa [clV, Value.ownBlock] using hq
    subst this; exact h2 i hi)
  apart := h.apart
  off := h.off
theorem FlAt.below {w w' : World} {base fb : Nat} {cl cc : Nat → Nat} {zs : List FlyM} {k : Nat} (h : FlAt w base fb cl cc zs k) (hb : Below w.heap.size w w') : FlAt w' base fb cl cc zs k :=
  h.same (by obtain ⟨cs, hB, _⟩ := h.blk; exact hb.block fb hB.lt) (fun i hi => hb.block _ (h.lt i hi).2)
theorem FlAt.cells {w : World} {base fb : Nat} {cl cc : Nat → Nat} {zs : List FlyM} {k : Nat} (h : FlAt w base fb cl cc zs k) (i : Nat) (hi : i < k) : w.cell? ⟨fb, i * 3, none⟩ = some (.int .i64 ((fl zs i).to : Int)) ∧ w.cell? ⟨fb, i * 3 + 1, none⟩ = some (.int .i64 ((fl zs i).due : Int)) ∧ w.cell? ⟨fb, i * 3 + 2, none⟩ = some (clV cl cc zs i) := by
  obtain ⟨cs, hB, _, hr⟩ := h.blk
  obtain ⟨r1, r2, r3⟩ := hr i hi
  exact ⟨(hB.cell _).trans r1, (hB.cell _).trans r2, (hB.cell _).trans r3⟩
theorem FlAt.byte {w : World} {base fb : Nat} {cl cc : Nat → Nat} {zs : List FlyM} {k : Nat} (h : FlAt w base fb cl cc zs k) (i j : Nat) (hi : i < k) (hj : j < (fl zs i).bytes.length) : w.cell? ⟨cl i, j, none⟩ = some (.int .u8 ((fl zs i).bytes.getD j 0)) := by
  have := (h.own i hi).cells (g := cl i) rfl j (.int .u8 ((fl zs i).bytes.getD j 0)) (by rw [List.getElem?_map, List.getElem?_eq_getElem hj, List.getD_eq_getElem?_getD, List.getElem?_eq_getElem hj]; rfl)
  rw [Addr.add_mid, Nat.zero_add] at this
  exact this
/-- One packet more. -/
theorem FlAt.step {w w3 : World} {base fb k g c : Nat} {cl cc : Nat → Nat} {zs : List FlyM} {cs : Array Value} (h : FlAt w base fb cl cc zs k) (hk : k < zs.length) (hB : Blk w fb cs 91) (hs : cs.size = zs.length * 3) (hr : ∀ i, i < k → cs[i * 3]? = some (.int .i64 ((fl zs i).to : Int)) ∧ cs[i * 3 + 1]? = some (.int .i64 ((fl zs i).due : Int)) ∧ cs[i * 3 + 2]? = some (clV cl cc zs i))
    (hold : ∀ q, q < w.heap.size → q ≠ fb → w3.heap[q]? = w.heap[q]?) {cs' : Array Value} (hB3 : Blk w3 fb cs' 91) (hs' : cs'.size = cs.size) (hc0 : cs'[k * 3]? = some (.int .i64 ((fl zs k).to : Int))) (hc1 : cs'[k * 3 + 1]? = some (.int .i64 ((fl zs k).due : Int))) (hc2 : cs'[k * 3 + 2]? = some (.slice (some ⟨g, 0, none⟩) (fl zs k).bytes.length c)) (hco : ∀ q, q < k * 3 → cs'[q]? = cs[q]?)
    (hown : w3.ownsRow base 5 1 (.slice (some ⟨g, 0, none⟩) (fl zs k).bytes.length c) (fl zs k).bytes.length ((fl zs k).bytes.map (Value.int .u8))) (hg : w.heap.size ≤ g) :
    FlAt w3 base fb (fun i => if i = k then g else cl i) (fun i => if i = k then c else cc i) zs (k + 1) := by
  have hfl := hB.lt
  have hV : ∀ i, i ≠ k → clV (fun i => if i = k then g else cl i) (fun i => if i = k then c else cc i) zs i = clV cl cc zs i := fun i hi => by simp [clV, hi]
  have hVk : clV (fun i => if i = k then g else cl i) (fun i => if i = k then c else cc i) zs k = .slice (some ⟨g, 0, none⟩) (fl zs k).bytes.length c := by simp [clV]
  refine ⟨⟨cs', hB3, by omega, fun i hi => ?_⟩, fun i hi => ?_, fun i j hi hj e => ?_, fun i hi => ?_⟩
  · by_cases e : i = k
    · subst e; rw [hVk]; exact ⟨hc0, hc1, hc2⟩
    · rw [hV i e, hco _ (by omega), hco _ (by omega), hco _ (by omega)]; exact hr i (by omega)
  · by_cases e : i = k
    · subst e; rw [hVk]; exact hown
    · rw [hV i e]
      refine owns_same (h.own i (by omega)) (fun q hq => ?_)
      have : cl i = q := by simpa [clV, Value.ownBlock] using hq
      subst this
      exact hold _ (h.lt i (by omega)).2 (h.off i (by omega))
  · by_cases e1 : i = k
    · by_cases e2 : j = k
      · rw [e1, e2]
      · simp only [if_pos e1, if_neg e2] at e
        have := (h.lt j (by omega)).2; omega
    · by_cases e2 : j = k
      · simp only [if_neg e1, if_pos e2] at e
        have := (h.lt i (by omega)).2; omega
      · simp only [if_neg e1, if_neg e2] at e
        exact h.apart i j (by omega) (by omega) e
  · by_cases e : i = k
    · simp only [if_pos e]; omega
    · simp only [if_neg e]; exact h.off i (by omega)
theorem Tryz.infoFl2 : (Tryz.prog.info? 91).map (fun i => (i.zero, i.size, i.bytes)) = some (some (.agg #[.int .i64 0, .int .i64 0, .slice none 0 0]), 3, 40) := by kernel_rfl
theorem Tryz.sizeFl2 : (Tryz.prog.info? 91).map (·.size) = some 3 := by kernel_rfl
theorem made_fl (n : Nat) (hn : n ≤ 1000000) :
    ∃ C : Array Value, C.size = n * 3 ∧ ∀ W : World, (Instr.makeSlice 88 (.int .i64 (n : Int)) (.int .i64 (n : Int))).run Tryz.prog W = .ok (.slice (some ⟨W.heap.size, 0, none⟩) n n) (W.alloc (.cells C 91)) := by
  obtain ⟨i8, hi8, hz0, hz1, hz2⟩ := info_parts Tryz.infoFl2
  refine ⟨madeCells (Value.agg #[.int .i64 0, .int .i64 0, .slice none 0 0]).cells (n * 3), size_madeCells _ _, fun W => ?_⟩
  rw [run_make W 88 91 i8 _ Tryz.underlying88 hi8 hz0 .i64 .i64 (n : Int) (n : Int) (by omega) (Int.le_refl _) (by rw [hz2]; omega) (by omega), hz1]
  simp
theorem cs_step (cs : Array Value) (k N : Nat) (hk : k < N) (hs : cs.size = N * 3) (a b c d : Value) : ((putA cs (k * 3) [a, b, c]).setIfInBounds (k * 3 + 2) d).size = cs.size ∧ ((putA cs (k * 3) [a, b, c]).setIfInBounds (k * 3 + 2) d)[k * 3]? = some a ∧ ((putA cs (k * 3) [a, b, c]).setIfInBounds (k * 3 + 2) d)[k * 3 + 1]? = some b ∧ ((putA cs (k * 3) [a, b, c]).setIfInBounds (k * 3 + 2) d)[k * 3 + 2]? = some d ∧ ∀ q, q < k * 3 → ((putA cs (k * 3) [a, b, c]).setIfInBounds (k * 3 + 2) d)[q]? = cs[q]? := by
  have hsz := putA_toList [a, b, c] (k * 3) cs
  have hg := putA_get [a, b, c] (k * 3) cs
  have hle : k * 3 + [a, b, c].length ≤ cs.size := by simp; omega
  refine ⟨by simp [hsz], ?_, ?_, ?_, fun q hq => ?_⟩
  · rw [Array.getElem?_setIfInBounds_ne (by omega), hg _ hle, if_pos (by simp)]; simp
  · rw [Array.getElem?_setIfInBounds_ne (by omega), hg _ hle, if_pos (by simp)]; simp
  · rw [Array.getElem?_setIfInBounds_self_of_lt (by omega)]
  · rw [Array.getElem?_setIfInBounds_ne (by omega), hg _ hle, if_neg (by omega)]
set_option maxRecDepth 10000 in
set_option maxHeartbeats 4000000 in
theorem wflights_any (nb : Nat) (pv : Value) (lags : List Int) (now sent : Nat) (lv wv : Value) (bl : Nat → Nat) (l : List FlyM) (w : World) (h : WireAt w nb pv lags now sent lv wv bl l) (hlen : l.length ≤ 1000000) (hby : ∀ f ∈ l, Blk w (bl f.num) (nums .u8 f.bytes) 5 ∧ f.bytes.length ≤ 100000) :
    Calls Tryz.prog 76 #[.pointer (some ⟨nb, 1, none⟩)] w fun e w' => ∃ fb cl cc ys, e = .returned (.slice (some ⟨fb, 0, none⟩) ys.length ys.length) ∧ ys.Perm l ∧ ys.Pairwise (fun a b => ¬ before b a) ∧ w.heap.size ≤ fb ∧ FlAt w' w.heap.size fb cl cc ys ys.length ∧ Below w.heap.size w w' := by
  have hQV := QV.ofOwn h.own
  have c4 : w.cell? ⟨nb, 4, none⟩ = some wv := h.blk.cell 4
  obtain ⟨wa, wm, wc, rfl⟩ : ∃ a m c, wv = .slice a m c := by
    rcases h.own.2 with ⟨h1, h2⟩ | ⟨g, cap, cur, h1, _⟩
    · exact ⟨none, 0, 0, h1⟩
    · exact ⟨_, _, _, h1⟩
  have hzp := Tryz.zeroPcl2
  have HY := hide hby
  have HQ := hide hQV
  clear h hby hQV
  go_enter Tryz.func76, Tryz.ntmps76
  go_wp2_with fail
  refine (vals_any wa wm wc w).mono ?_
  rintro e w1 ⟨rfl, rfl⟩
  have b1 : Below w.heap.size w (w.alloc (.cells #[.slice wa wm wc] 62)) := (Below.refl _ w).alloc (Nat.le_refl _) _
  have x1 : Blk (w.alloc (.cells #[.slice wa wm wc] 62)) w.heap.size #[.slice wa wm wc] 62 := Blk.new _ _ _
  have z1 : (w.alloc (.cells #[.slice wa wm wc] 62)).heap.size = w.heap.size + 1 := by simp
  generalize w.alloc (.cells #[.slice wa wm wc] 62) = W1 at *
  have hQ1 : QV W1.heap.size W1 (.slice wa wm wc) bl l := by
    rcases (unhide HQ).below b1 with h | ⟨b, cap, e, hl, hq⟩
    · exact .inl h
    · exact .inr ⟨b, cap, e, by omega, hq⟩
  have hso := sorted_any w.heap.size (.slice wa wm wc) bl l hlen W1 (by omega) (x1.cell 0) hQ1
  have HB := hide b1
  clear b1 x1 hQ1
  go_wp2_with fail
  refine hso.mono ?_
  clear hso
  rintro e w2 ⟨v, ys, rfl, hp, hs, hV, hb2⟩
  have hN : ys.length ≤ 1000000 := by rw [hp.length_eq]; exact hlen
  have hb02 : Below w.heap.size w w2 := (unhide HB).trans (hb2.mono (by omega))
  have hz2 := hb2.size
  have HP := hide (And.intro hp (And.intro hs hb02))
  clear hp hs hb2 hb02
  obtain ⟨C, hC, hmk⟩ := made_fl ys.length hN
  rcases hV with ⟨rfl, rfl⟩ | ⟨sb, scap, rfl, hsb, hsl, hPa⟩
  · have hmk0 : ∀ W : World, (Instr.makeSlice 88 (.int .i64 0) (.int .i64 0)).run Tryz.prog W = .ok (.slice (some ⟨W.heap.size, 0, none⟩) 0 0) (W.alloc (.cells C 91)) := hmk
    have HC := hide hC
    clear hmk hC hN
    go_wp2_with fail
    have x3 : Blk (w2.alloc (.cells C 91)) w2.heap.size C 91 := Blk.new _ _ _
    have b3 : Below w2.heap.size w2 (w2.alloc (.cells C 91)) := (Below.refl _ w2).alloc (Nat.le_refl _) _
    generalize w2.alloc (.cells C 91) = W3 at *
    have H3 := hide (And.intro x3 b3)
    clear x3 b3
    go_loopw [18] (fun i wr => i = .int .i64 0 ∧ wr = W3) (fun _ _ => 0)
    case atStart => exact ⟨rfl, rfl⟩
    case round =>
      obtain ⟨rfl, rfl⟩ := hrel
      go_wp2_with fail
      go_ret
      obtain ⟨hp, hs, hb⟩ := unhide HP
      obtain ⟨x3, b3⟩ := unhide H3
      exact ⟨w2.heap.size, fun _ => 0, fun _ => 0, [], rfl, hp, hs, by omega, ⟨⟨C, x3, unhide HC, fun i hi => by simp at hi⟩, fun i hi => by simp at hi, fun i j hi => by simp at hi, fun i hi => by simp at hi⟩, hb.trans (b3.mono (by omega))⟩
  · have HC := hide hC
    have HPa := hide hPa
    clear hC hPa
    obtain ⟨N, hNe⟩ : ∃ N, ys.length = N := ⟨_, rfl⟩
    rw [hNe] at hmk hN
    rw [hNe]
    have HN := hide hNe
    clear hNe
    go_wp2_with fail
    have x3 : Blk (w2.alloc (.cells C 91)) w2.heap.size C 91 := Blk.new _ _ _
    have b3 : Below w2.heap.size w2 (w2.alloc (.cells C 91)) := (Below.refl _ w2).alloc (Nat.le_refl _) _
    have z3 : (w2.alloc (.cells C 91)).heap.size = w2.heap.size + 1 := by simp
    generalize w2.alloc (.cells C 91) = W3 at *
    obtain ⟨fb, hfb⟩ : ∃ fb, w2.heap.size = fb := ⟨_, rfl⟩
    rw [hfb]
    rw [hfb] at x3 b3 z3 hsl hz2
    have H3 := hide (And.intro x3 b3)
    have HF := hide hfb
    clear x3 b3 hfb
    go_loopw [18] (fun i wr => ∃ (k : Nat) (cl cc : Nat → Nat), k ≤ N ∧ i = .int .i64 (k : Int) ∧ FlAt wr w.heap.size fb cl cc ys k ∧ Chg (fun q => q = fb) W3 wr) (fun i _ => N - (intOf i).toNat)
    case atStart =>
      obtain ⟨x3, b3⟩ := unhide H3
      exact ⟨0, fun _ => 0, fun _ => 0, by omega, rfl, ⟨⟨C, x3, unhide HC, fun i hi => by omega⟩, fun i hi => by omega, fun i j hi => by omega, fun i hi => by omega⟩, Chg.refl _ _⟩
    case round =>
      obtain ⟨k, cl, cc, hk, rfl, hFl, hCh⟩ := hrel
      by_cases hlt : k < N
      · have hPr : ParcAt wr sb bl ys := ((unhide HPa).same ((unhide H3).2.block sb hsl)).same (hCh.block sb (by omega) (by omega))
        have hky : k < ys.length := by rw [unhide HN]; exact hlt
        have c0 : wr.cell? ⟨sb, k * 4, none⟩ = some (.int .i64 ((fl ys k).to : Int)) := hPr k 0 hky (by omega)
        have c1 : wr.cell? ⟨sb, k * 4 + 1, none⟩ = some (.int .i64 ((fl ys k).due : Int)) := hPr k 1 hky (by omega)
        have c2 : wr.cell? ⟨sb, k * 4 + 2, none⟩ = some (.slice (some ⟨bl (fl ys k).num, 0, none⟩) (fl ys k).bytes.length (fl ys k).bytes.length) := hPr k 2 hky (by omega)
        have c3 : wr.cell? ⟨sb, k * 4 + 3, none⟩ = some (.int .i64 ((fl ys k).num : Int)) := hPr k 3 hky (by omega)
        have hmem : fl ys k ∈ ys := by
          simp only [fl, List.getD_eq_getElem?_getD, List.getElem?_eq_getElem hky]
          exact List.getElem_mem hky
        obtain ⟨hyB, hyL⟩ := unhide HY (fl ys k) ((unhide HP).1.mem_iff.1 hmem)
        have hyl := hyB.lt
        have hz02 := (unhide HP).2.2.size
        have hyW : Blk wr (bl (fl ys k).num) (nums .u8 (fl ys k).bytes) 5 := by
          have e1 := (unhide HP).2.2.block _ hyl
          have e2 := (unhide H3).2.block (bl (fl ys k).num) (by have := unhide HF; omega)
          have e3 := hCh.block (bl (fl ys k).num) (by have := unhide HF; omega) (by have := unhide HF; omega)
          exact ((e3.trans e2).trans e1).trans hyB
        obtain ⟨cs, hB, hs, hr⟩ := hFl.blk
        have hfl := hB.lt
        rw [unhide HN] at hs
        have hthere : (wr.alloc (.cells (pcA bl (fl ys k)) 126)).there fb (k * 3) 3 := (hB.alloc _).there (by omega)
        have HK := hide (And.intro hFl (And.intro hCh (And.intro hB (And.intro hs (And.intro hr (And.intro hyW hyL))))))
        clear hPr hmem hyB hyL hFl hCh hB hr hyW
        obtain ⟨x, hx⟩ : ∃ x, fl ys k = x := ⟨_, rfl⟩
        rw [hx] at c0 c1 c2 c3 hthere
        have HX := hide hx
        clear hx
        unfold pcA at hthere
        have k0 : (0 : Int) ≤ (k : Int) := by omega
        have h1c : (#[.int .i64 (x.to : Int), .int .i64 (x.due : Int), .slice (some ⟨bl x.num, 0, none⟩) x.bytes.length x.bytes.length] : Array Value).all (·.oneCell') = true := by simp [Value.oneCell']
        have hPB : Blk (wr.alloc (.cells #[.int .i64 (x.to : Int), .int .i64 (x.due : Int), .slice (some ⟨bl x.num, 0, none⟩) x.bytes.length x.bytes.length, .int .i64 (x.num : Int)] 126)) wr.heap.size #[.int .i64 (x.to : Int), .int .i64 (x.due : Int), .slice (some ⟨bl x.num, 0, none⟩) x.bytes.length x.bytes.length, .int .i64 (x.num : Int)] 126 := Blk.new _ _ _
        have hC2 : ∀ W4 : World, Blk W4 wr.heap.size #[.int .i64 (x.to : Int), .int .i64 (x.due : Int), .slice (some ⟨bl x.num, 0, none⟩) x.bytes.length x.bytes.length, .int .i64 (x.num : Int)] 126 → W4.cell? ⟨wr.heap.size, 2, none⟩ = some (.slice (some ⟨bl x.num, 0, none⟩) x.bytes.length x.bytes.length) := fun W4 h => h.cell 2
        go_wp2_with (refine wpList_store_mid rfl 91 (.tmp 27) (.tmp 26) rfl fb (k * 3) #[.int .i64 (x.to : Int), .int .i64 (x.due : Int), .slice (some ⟨bl x.num, 0, none⟩) x.bytes.length x.bytes.length] rfl rfl hthere Tryz.sizeFl2 h1c ?_; generalize hW4 : World.setCells (wr.alloc (.cells #[.int .i64 (x.to : Int), .int .i64 (x.due : Int), .slice (some ⟨bl x.num, 0, none⟩) x.bytes.length x.bytes.length, .int .i64 (x.num : Int)] 126)) fb (k * 3) (#[.int .i64 (x.to : Int), .int .i64 (x.due : Int), .slice (some ⟨bl x.num, 0, none⟩) x.bytes.length x.bytes.length] : Array Value).toList = W4; have hPB4 : Blk W4 wr.heap.size #[.int .i64 (x.to : Int), .int .i64 (x.due : Int), .slice (some ⟨bl x.num, 0, none⟩) x.bytes.length x.bytes.length, .int .i64 (x.num : Int)] 126 := (by rw [← hW4]; exact (heap_setCells_other (by omega) _ _ _).trans hPB); have c42 : W4.cell? ⟨wr.heap.size, 2, none⟩ = some (.slice (some ⟨bl x.num, 0, none⟩) x.bytes.length x.bytes.length) := hC2 W4 hPB4; have HW4 := hide hW4; clear hW4 hPB4 hPB hthere h1c hC2)
        obtain ⟨hFl, hCh, hB, hs, hr, hyW, hyL⟩ := unhide HK
        have hW4 := unhide HW4
        have hx := unhide HX
        rw [hx] at hyW hyL hyl
        have hB4 : Blk W4 fb (putA cs (k * 3) [.int .i64 (x.to : Int), .int .i64 (x.due : Int), .slice (some ⟨bl x.num, 0, none⟩) x.bytes.length x.bytes.length]) 91 := by
          rw [← hW4]; exact Blk.setCells _ _ _ _ (hB.alloc _)
        have hz4 : W4.heap.size = wr.heap.size + 1 := by rw [← hW4, size_setCells]; simp
        have hold4 : ∀ q, q < wr.heap.size → q ≠ fb → W4.heap[q]? = wr.heap[q]? := fun q hq hne => by
          rw [← hW4, heap_setCells_other hne]; exact heap_alloc_old wr _ hq
        have hyne : bl x.num ≠ fb := by
          have := unhide HF
          have := (unhide HP).2.2.size
          omega
        have hy4 : Blk W4 (bl x.num) (nums .u8 x.bytes) 5 := (hold4 _ hyW.lt hyne).trans hyW
        have hsrc : SrcAt W4 (some ⟨bl x.num, 0, none⟩) x.bytes := .inr ⟨_, _, rfl, hy4.lt, fun j hj => by rw [Nat.zero_add]; exact hy4.num j hj⟩
        refine (sclone_any (bl x.num) x.bytes.length x.bytes.length x.bytes W4 rfl hyL hsrc).mono ?_
        rintro e w5 ⟨g5, c5, rfl, hg5, hgl5, hown5, hb5⟩
        have hB5 : Blk w5 fb (putA cs (k * 3) [.int .i64 (x.to : Int), .int .i64 (x.due : Int), .slice (some ⟨bl x.num, 0, none⟩) x.bytes.length x.bytes.length]) 91 := (hb5.block fb hB4.lt).trans hB4
        obtain ⟨s1, s2, s3, s4, s5⟩ := cs_step cs k N hlt hs (.int .i64 (x.to : Int)) (.int .i64 (x.due : Int)) (.slice (some ⟨bl x.num, 0, none⟩) x.bytes.length x.bytes.length) (.slice (some ⟨g5, 0, none⟩) x.bytes.length c5)
        have hsp : (putA cs (k * 3) [.int .i64 (x.to : Int), .int .i64 (x.due : Int), .slice (some ⟨bl x.num, 0, none⟩) x.bytes.length x.bytes.length]).size = cs.size := putA_toList _ _ _
        have f5 : w5.frozen? ⟨fb, k * 3 + 2, none⟩ = false := hB5.frozen _
        obtain ⟨v5, hv5⟩ : ∃ v5, w5.cell? ⟨fb, k * 3 + 2, none⟩ = some v5 := ⟨_, (hB5.cell _).trans (Array.getElem?_eq_getElem (by omega))⟩
        have hold6 : ∀ q, q < wr.heap.size → q ≠ fb → (w5.setCell ⟨fb, k * 3 + 2, none⟩ (.slice (some ⟨g5, 0, none⟩) x.bytes.length c5)).heap[q]? = wr.heap[q]? := fun q hq hne => by
          rw [heap_setCell_other _ _ _ _ hne, hb5.block q (by omega)]; exact hold4 q hq hne
        have hgne : g5 ≠ fb := by omega
        have hown6 : (w5.setCell ⟨fb, k * 3 + 2, none⟩ (.slice (some ⟨g5, 0, none⟩) x.bytes.length c5)).ownsRow w.heap.size 5 1 (.slice (some ⟨g5, 0, none⟩) x.bytes.length c5) x.bytes.length (x.bytes.map (Value.int .u8)) := by
          refine owns_same (owns_mono hown5 ?_) (fun q hq => heap_setCell_other _ _ _ _ ?_)
          · have := (unhide HP).2.2.size
            have := unhide HF
            omega
          · have : g5 = q := by simpa [Value.ownBlock] using hq
            rw [← this]; exact hgne
        have hst := hFl.step (w3 := w5.setCell ⟨fb, k * 3 + 2, none⟩ (.slice (some ⟨g5, 0, none⟩) x.bytes.length c5)) (g := g5) (c := c5) (by rw [unhide HN]; exact hlt) hB (by rw [unhide HN]; exact hs) hr hold6 (hB5.set (k * 3 + 2) _) s1 (by rw [hx]; exact s2) (by rw [hx]; exact s3) (by rw [hx]; exact s4) s5 (by rw [hx]; exact hown6) (by omega)
        have hC6 : Chg (fun q => q = fb) W3 (w5.setCell ⟨fb, k * 3 + 2, none⟩ (.slice (some ⟨g5, 0, none⟩) x.bytes.length c5)) := by
          have e4 : Chg (fun q => q = fb) wr W4 := by rw [← hW4]; exact (Chg.alloc _ wr _).trans (Chg.setCells (F := fun q => q = fb) _ fb (k * 3) _ rfl) (fun _ _ h => h)
          have e5 : Chg (fun q => q = fb) W4 w5 := Chg.ofBelow hb5
          have e6 : Chg (fun q => q = fb) w5 (w5.setCell ⟨fb, k * 3 + 2, none⟩ (.slice (some ⟨g5, 0, none⟩) x.bytes.length c5)) := Chg.setCell w5 fb (k * 3 + 2) _ rfl
          exact ((hCh.trans e4 (fun _ _ h => h)).trans e5 (fun _ _ h => h)).trans e6 (fun _ _ h => h)
        have HS := hide (And.intro hst hC6)
        clear hst hC6 hown6 hold6 hgne s1 s2 s3 s4 s5 hsp hB5 hb5 hown5 hg5 hgl5 hsrc hy4 hyne hold4 hz4 hB4 hx hW4 hFl hCh hB hr hyW hyL HW4 HK hs
        go_wp2_with fail
        go_roundw
        case rel =>
          obtain ⟨hst, hC6⟩ := unhide HS
          exact ⟨k + 1, _, _, by omega, by go_num, hst, hC6⟩
        case measure => simp [intOf]; omega
      · have hd : decide (k < N) = false := by simp; omega
        have H := hide (And.intro hFl hCh)
        have hkN : k = N := by omega
        clear hFl hCh
        go_wp2_with fail
        go_ret
        obtain ⟨hp, hs, hb⟩ := unhide HP
        obtain ⟨hFl, hCh⟩ := unhide H
        obtain ⟨x3, b3⟩ := unhide H3
        refine ⟨fb, cl, cc, ys, by rw [unhide HN]; rfl, hp, hs, by have := hb.size; have := unhide HF; omega, by rw [unhide HN, ← hkN]; exact hFl, ?_⟩
        have hz := hb.size
        have hF := unhide HF
        exact (hb.trans (b3.mono (by omega))).trans (hCh.toBelow (by omega) (fun q hq => by omega))
end Go.Proofs.YtandblanpafjoaaGreatDoor

namespace Go.Proofs.YtandblanpafjoaaGreatDoor
open Go.RowKit Go.Extern.Stop Go.Stop Go.Extern
def pickN (c : Int) (n : Nat) : Nat := ((if c < 0 then -(c + 1) else c) % (n : Int)).toNat
theorem pickN_lt (c : Int) (n : Nat) (hn : 0 < n) : pickN c n < n := by
  unfold pickN
  have h1 := Int.emod_nonneg (if c < 0 then -(c + 1) else c) (show (n : Int) ≠ 0 by omega)
  have h2 := Int.emod_lt_of_pos (if c < 0 then -(c + 1) else c) (show (0 : Int) < n by omega)
  omega
set_option maxHeartbeats 400000 in
theorem pick_any (c : Int) (n : Nat) (w : World) (hc : -9223372036854775808 ≤ c ∧ c ≤ 9223372036854775807) (hn : 1 ≤ n) (hn2 : n ≤ 1000000) :
    Calls Tryz.prog 13 #[.int .i64 c, .int .i64 (n : Int)] w fun e w' => e = .returned (.int .i64 (pickN c n : Int)) ∧ w' = w := by
  obtain ⟨hc0, hc1⟩ := hc
  have hn0 : (1 : Int) ≤ (n : Int) := by omega
  have hn3 : (n : Int) ≤ 1000000 := by omega
  have hne : ((n : Int) == 0) = false := by rw [beq_eq_false_iff_ne]; omega
  by_cases h : c < 0
  · have e : ((pickN c n : Nat) : Int) = (-(c + 1)) % (n : Int) := by
      unfold pickN; rw [if_pos h]
      have := Int.emod_nonneg (-(c + 1)) (show (n : Int) ≠ 0 by omega)
      omega
    rw [e]
    have h1 : 0 ≤ -(c + 1) := by omega
    clear e
    go_enter Tryz.func13, Tryz.ntmps13
    go_wp2
    have et : -((c + 1).tmod (n : Int)) = (-(c + 1)) % (n : Int) := by rw [← Int.neg_tmod, Int.tmod_eq_emod_of_nonneg h1]
    rw [← et]
    go_ret
    exact ⟨rfl, rfl⟩
  · have e : ((pickN c n : Nat) : Int) = c % (n : Int) := by
      unfold pickN; rw [if_neg h]
      have := Int.emod_nonneg c (show (n : Int) ≠ 0 by omega)
      omega
    rw [e]
    have h1 : 0 ≤ c := by omega
    clear e
    go_enter Tryz.func13, Tryz.ntmps13
    go_wp2
    go_ret
    exact ⟨rfl, rfl⟩
end Go.Proofs.YtandblanpafjoaaGreatDoor

namespace Go.Proofs.YtandblanpafjoaaGreatDoor
open Go.ChangeShapes Go.WideShapes Go.RowKit
theorem Tryz.own : ownKnob Tryz.prog.godebug = none := by kernel_rfl
theorem Tryz.et : Tryz.prog.globalNamed "errors.errorType" = some 0 := by kernel_rfl
theorem Tryz.rt : (Tryz.prog.cutTypes.find? (·.1 == "internal/reflectlite.rtype")).map (·.2) = some 230 := by kernel_rfl
theorem Tryz.oneRow : ((List.range 329).filter fun t => Tryz.prog.rowNamed t [101, 114, 114, 111, 114]) = [109] := by kernel_rfl
theorem Tryz.tsize : Tryz.prog.types.size = 329 := by kernel_rfl
def theLaid : List (String × DataW Unit) := [("errors.errorType", Rows.laid_errors_errorType)]
theorem laid_of_met {W : World} (h : laidMetH Tryz.prog theLaid W) : Laid W := by
  have h' : laidMet Tryz.prog [] W ∧ handlesMet Tryz.prog theLaid W := h
  obtain ⟨name, u, ty, e1, e2, e3, e4, e5⟩ := h'.2 _ (List.mem_singleton.2 rfl)
  have en : name = [101, 114, 114, 111, 114] := (Option.some.inj e1).symm
  subst en
  obtain rfl := Option.some.inj (Tryz.rt.symm.trans e2)
  have hm : ty ∈ (List.range 329).filter fun t => Tryz.prog.rowNamed t [101, 114, 114, 111, 114] := List.mem_filter.2 ⟨List.mem_range.2 (by rw [← Tryz.tsize]; exact e3), e4⟩
  rw [Tryz.oneRow] at hm
  obtain rfl := List.mem_singleton.1 hm
  have hh : typeHandle Tryz.prog 109 = .pointer (some ⟨1, 109, none⟩) := by kernel_rfl
  rw [hh] at e5
  have := World.var?_cell Tryz.et e5 0
  unfold Laid
  simpa using this
noncomputable def laidWorld (os : Os) : World :=
  let w0 := World.holding Tryz.prog os ⟨#[], #[], []⟩
  { w0 with heap := w0.heap.modify 0 fun
      | .cells _ t frozen => .cells #[.iface 230 (.agg #[.pointer (some ⟨1, 109, none⟩)])] t frozen
      | o => o }
theorem laidWorld_met (os : Os) (args : Array Value) : laidMetH Tryz.prog theLaid ((laidWorld os).forCall (fun _ _ => 0) ⟨#[], args, []⟩).memory :=
  laidMetH_of_parts (laidMet_nil _ _) (by kernel_rfl)
end Go.Proofs.YtandblanpafjoaaGreatDoor

