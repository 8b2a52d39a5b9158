import Derived.Test.YtandblanpafjoaaGreatDoorPack27
import Derived.Test.YtandblanpafjoaaGreatDoorPack04
namespace Go.Proofs.YtandblanpafjoaaGreatDoor
open Go.RowKit Go.Extern.Stop Go.Stop Go.Extern
theorem Tryz.infoPP : (Tryz.prog.info? 67).map (fun i => (i.zero, i.size, i.bytes)) = some (some (.pointer none), 1, 8) := by kernel_rfl
def ptrs (pb : Nat → Nat) (k : Nat) : List Value := (List.range k).map fun p => Value.pointer (some ⟨pb p, 0, none⟩)
/-- The first k peers of a net that is being made; B: no block of theirs lies below it. -/
structure MadeN (w : World) (pv : Value) (k n win delay B : Nat) (pb : Nat → Nat) (Fp : Nat → Nat → Prop) : Prop where
  row : w.ownsRow 0 67 1 pv k (ptrs pb k)
  rowB : ∀ j, pv.ownBlock = some j → B ≤ j
  peers : ∀ p, p < k → ∃ FS v st, PeerAt w (pb p) (Fp p) FS p n win delay (peer0 delay) v st
  plt : ∀ p j, p < k → Fp p j → B ≤ j ∧ j < w.heap.size ∧ pv.ownBlock ≠ some j
  papart : ∀ p q j, p < k → q < k → Fp p j → Fp q j → p = q
theorem MadeN.step {w w1 w3 : World} {pv pv' : Value} {k n win delay B : Nat} {pb : Nat → Nat} {Fp : Nat → Nat → Prop} (h : MadeN w pv k n win delay B pb Fp) (hBw : B ≤ w.heap.size) (hb1 : Below w.heap.size w w1) {b : Nat} {F FS : Nat → Prop} {v : Nat → Value} {st : Value} (hP : PeerAt w1 b F FS k n win delay (peer0 delay) v st) (hF : ∀ j, F j → w.heap.size ≤ j ∧ j < w1.heap.size)
    (hg : ∀ j, j < w1.heap.size → pv.ownBlock ≠ some j → w3.heap[j]? = w1.heap[j]?) (hz : w1.heap.size ≤ w3.heap.size) (hrow : w3.ownsRow 0 67 1 pv' (k + 1) (ptrs pb k ++ [.pointer (some ⟨b, 0, none⟩)])) (hloc : pv'.ownBlock = pv.ownBlock ∨ ∃ j, pv'.ownBlock = some j ∧ w1.heap.size ≤ j) :
    MadeN w3 pv' (k + 1) n win delay B (fun i => if i = k then b else pb i) (fun i => if i = k then F else Fp i) := by
  have hz1 := hb1.size
  refine ⟨?_, fun j hj => ?_, fun p hp => ?_, fun p j hp hj => ?_, fun p q j hp hq h1 h2 => ?_⟩
  · have e : ptrs (fun i => if i = k then b else pb i) (k + 1) = ptrs pb k ++ [.pointer (some ⟨b, 0, none⟩)] := by
      unfold ptrs
      rw [List.range_succ, List.map_append]
      congr 1
      · apply List.map_congr_left
        intro p hp
        have : p < k := by simpa using hp
        simp only [if_neg (show ¬ p = k by omega)]
      · simp
    rw [e]; exact hrow
  · rcases hloc with e | ⟨j', e, hj'⟩
    · exact h.rowB j (by rw [← e]; exact hj)
    · rw [e] at hj; injection hj with hj; omega
  · by_cases e : p = k
    · subst e
      simp only [if_true]
      refine ⟨FS, v, st, hP.same (fun j hj => hg j (hF j hj).2 (fun e => ?_))⟩
      have h1 := (h.row.lt j e).2
      have h2 := hF j hj
      omega
    · obtain ⟨FS', v', st', hP'⟩ := h.peers p (by omega)
      simp only [if_neg e]
      refine ⟨FS', v', st', (hP'.same (w' := w1) (fun j hj => hb1.block j (h.plt p j (by omega) hj).2.1)).same (fun j hj => hg j ?_ (h.plt p j (by omega) hj).2.2)⟩
      have := (h.plt p j (by omega) hj).2.1
      omega
  · by_cases e : p = k
    · subst e
      simp only [if_true] at hj
      have h1 := hF j hj
      refine ⟨by omega, by omega, fun e => ?_⟩
      rcases hloc with e2 | ⟨j', e2, hj'⟩
      · rw [e2] at e
        have := (h.row.lt j e).2; omega
      · rw [e2] at e; injection e with e; omega
    · simp only [if_neg e] at hj
      have h1 := h.plt p j (by omega) hj
      refine ⟨h1.1, by omega, fun e => ?_⟩
      rcases hloc with e2 | ⟨j', e2, hj'⟩
      · rw [e2] at e; exact h1.2.2 e
      · rw [e2] at e; injection e with e; omega
  · by_cases e1 : p = k
    · by_cases e2 : q = k
      · omega
      · simp only [if_pos e1, if_neg e2] at h1 h2
        have := (hF j h1).1
        have := (h.plt q j (by omega) h2).2.1
        omega
    · by_cases e2 : q = k
      · simp only [if_neg e1, if_pos e2] at h1 h2
        have := (hF j h2).1
        have := (h.plt p j (by omega) h1).2.1
        omega
      · simp only [if_neg e1, if_neg e2] at h1 h2
        exact h.papart p q j (by omega) (by omega) h1 h2
theorem MadeN.same {w w' : World} {pv : Value} {k n win delay B : Nat} {pb : Nat → Nat} {Fp : Nat → Nat → Prop} (h : MadeN w pv k n win delay B pb Fp) (hs : ∀ j, B ≤ j → j < w.heap.size → w'.heap[j]? = w.heap[j]?) (hz : w.heap.size ≤ w'.heap.size) : MadeN w' pv k n win delay B pb Fp :=
  ⟨owns_same h.row (fun j hj => hs j (h.rowB j hj) (h.row.lt j hj).2), h.rowB, fun p hp => by
    obtain ⟨FS, v, st, hP⟩ := h.peers p hp
    exact ⟨FS, v, st, hP.same (fun j hj => hs j (h.plt p j hp hj).1 (h.plt p j hp hj).2.1)⟩, fun p j hp hj => ⟨(h.plt p j hp hj).1, Nat.lt_of_lt_of_le (h.plt p j hp hj).2.1 hz, (h.plt p j hp hj).2.2⟩, h.papart⟩
theorem net_made {w : World} {g n win delay B : Nat} {pv lv : Value} {lags : List Int} {pb : Nat → Nat} {Fp : Nat → Nat → Prop} (h : MadeN w pv n n win delay B pb Fp) (hB : Blk w g #[pv, lv, .int .i64 0, .int .i64 0, .slice none 0 0] 66) (hgB : g < B) (hlag : w.ownsRow 0 3 1 lv lags.length (lags.map (Value.int .i64))) (hlB : ∀ j, lv.ownBlock = some j → j < B ∧ j ≠ g) (hr : ∀ x ∈ lags, -1 ≤ x ∧ x ≤ 20) (hn2 : 2 ≤ n) (hn : n ≤ 4) :
    NetP w g pv lv (.slice none 0 0) (fun _ => 0) [] pb Fp (newM n win delay lags) where
  wire := ⟨hB, ⟨by simp [pcls], .inl ⟨rfl, rfl⟩⟩, by simp [Value.ownBlock], hlag, fun e => (hlB g e).2 rfl, fun k _ => by simp [Value.ownBlock]⟩
  perm := List.Perm.refl _
  heap := fun k _ h => by simp at h
  numb := Nums.new _ _ _ _
  row := h.row
  pvn := fun e => by have := h.rowB g e; omega
  pvl := fun k hk => ⟨fun e => by have := h.rowB k hk; have := hlB k e; omega, by simp [Value.ownBlock]⟩
  peers := fun p hp => h.peers p hp
  plt := fun p k hp hk => by
    have h1 := h.plt p k hp hk
    refine ⟨h1.2.1, ?_, fun ⟨f, hf, _⟩ => by simp [newM] at hf⟩
    rintro (e | e | e | e)
    · omega
    · exact h1.2.2 e
    · have := hlB k e; omega
    · simp [Value.ownBlock] at e
  papart := h.papart
  bytes := fun f hf => by simp [newM] at hf
  fly := fun f hf => by simp [newM] at hf
  lags := hr
  hp := ⟨hn2, hn⟩
set_option maxRecDepth 10000 in
set_option maxHeartbeats 4000000 in
theorem nnew_any (n win delay kind : Nat) (lv : Value) (lags : List Int) (w : World) (h : LagSrc w lv lags) (hl : lags.length ≤ 8) (hr : ∀ x ∈ lags, -1 ≤ x ∧ x ≤ 20) (hn2 : 2 ≤ n) (hn : n ≤ 4) (hw1 : 1 ≤ win) (hw : win ≤ 8) (hd : delay ≤ 3) (hk : kind ≤ 1) (hlc : ∃ ao m c, lv = .slice ao m c) :
    Calls Tryz.prog 55 #[.agg #[.int .i64 (n : Int), .int .i64 (win : Int), .int .i64 (delay : Int), .int .i64 (kind : Int), lv]] w fun e w' => ∃ g pv pb F, e = .returned (.tuple #[.pointer (some ⟨g, 0, none⟩), .nilIface]) ∧ NetQ w' g pv pb F (newM n win delay lags) ∧ (∀ k, F k → w.heap.size ≤ k) ∧ Below w.heap.size w w' := by
  obtain ⟨ao0, m0', c0', elv⟩ := hlc
  have bB : Below w.heap.size w (w.alloc (.cells #[.int .i64 (n : Int), .int .i64 (win : Int), .int .i64 (delay : Int), .int .i64 (kind : Int), lv] 50)) := (Below.refl _ w).alloc (Nat.le_refl _) _
  have xB : Blk (w.alloc (.cells #[.int .i64 (n : Int), .int .i64 (win : Int), .int .i64 (delay : Int), .int .i64 (kind : Int), lv] 50)) w.heap.size #[.int .i64 (n : Int), .int .i64 (win : Int), .int .i64 (delay : Int), .int .i64 (kind : Int), lv] 50 := Blk.new _ _ _
  subst elv
  go_enter Tryz.func55, Tryz.ntmps55
  go_wp2_with fail
  generalize w.alloc (.cells #[.int .i64 (n : Int), .int .i64 (win : Int), .int .i64 (delay : Int), .int .i64 (kind : Int), .slice ao0 m0' c0'] 50) = W1 at *
  have hL1 := h.below bB
  have HX := hide (And.intro bB xB)
  have hxl := xB.lt
  clear bB xB h
  refine (possible_yes n win delay kind _ lags W1 hL1 hl hr hn2 hn hw1 hw hd hk).mono ?_
  rintro e w2 ⟨rfl, hb2⟩
  have m0 : w2.cell? ⟨w.heap.size, 0, none⟩ = some (.int .i64 (n : Int)) := (hb2.cell (p := ⟨w.heap.size, 0, none⟩) hxl).trans ((unhide HX).2.cell 0)
  have m4 : w2.cell? ⟨w.heap.size, 4, none⟩ = some (.slice ao0 m0' c0') := (hb2.cell (p := ⟨w.heap.size, 4, none⟩) hxl).trans ((unhide HX).2.cell 4)
  have hL2 := hL1.below hb2
  have HR := hide hr
  have H2 := hide (And.intro hb2 hL2)
  clear hL1 hr hb2 hL2
  go_wp2_with fail
  refine (wnew_any _ lags w2 (unhide H2).2 hl).mono ?_
  rintro e w3 ⟨lv', rfl, hown, hlB, ⟨ao, nn, cc, rfl⟩, hb3⟩
  have H3 := hide (And.intro hown (And.intro hlB hb3))
  have hx2 : w.heap.size < w2.heap.size := World.block_lt_of_cell? w2 _ m0
  have b4 : Below w3.heap.size w3 (w3.alloc (.cells #[.slice none 0 0, .slice ao nn cc, .int .i64 0, .int .i64 0, .slice none 0 0] 66)) := (Below.refl _ w3).alloc (Nat.le_refl _) _
  have x4 : Blk (w3.alloc (.cells #[.slice none 0 0, .slice ao nn cc, .int .i64 0, .int .i64 0, .slice none 0 0] 66)) w3.heap.size #[.slice none 0 0, .slice ao nn cc, .int .i64 0, .int .i64 0, .slice none 0 0] 66 := Blk.new _ _ _
  have m03 : (w3.alloc (.cells #[.slice none 0 0, .slice ao nn cc, .int .i64 0, .int .i64 0, .slice none 0 0] 66)).cell? ⟨w.heap.size, 0, none⟩ = some (.int .i64 (n : Int)) := (b4.cell (p := ⟨w.heap.size, 0, none⟩) (by show w.heap.size < w3.heap.size; have := hb3.size; omega)).trans ((hb3.cell (p := ⟨w.heap.size, 0, none⟩) hx2).trans m0)
  clear hown hlB hb3 m0 m4
  go_wp2_with fail
  generalize w3.alloc (.cells #[.slice none 0 0, .slice ao nn cc, .int .i64 0, .int .i64 0, .slice none 0 0] 66) = W4 at *
  have H4 := hide (And.intro b4 x4)
  clear b4 x4 m03
  have xc : Blk w3 w.heap.size #[.int .i64 (n : Int), .int .i64 (win : Int), .int .i64 (delay : Int), .int .i64 (kind : Int), .slice ao0 m0' c0'] 50 := by
    have h1 := (unhide HX).2
    have h2 : Blk w2 w.heap.size #[.int .i64 (n : Int), .int .i64 (win : Int), .int .i64 (delay : Int), .int .i64 (kind : Int), .slice ao0 m0' c0'] 50 := ((unhide H2).1.block _ hxl).trans h1
    exact ((unhide H3).2.2.block _ hx2).trans h2
  have hx3 : w.heap.size < w3.heap.size := xc.lt
  have HXC := hide xc
  clear xc
  obtain ⟨i8, hi8, hz0, hz1, hz2⟩ := info_parts Tryz.infoPP
  go_loopw [17] (fun s wr => ∃ (k : Nat) (pv : Value) (pb : Nat → Nat) (Fp : Nat → Nat → Prop), k ≤ n ∧ s = .int .i64 (k : Int) ∧ Below w3.heap.size w3 wr ∧ w3.heap.size + 1 ≤ wr.heap.size ∧ Blk wr w3.heap.size #[pv, .slice ao nn cc, .int .i64 0, .int .i64 0, .slice none 0 0] 66 ∧ MadeN wr pv k n win delay (w3.heap.size + 1) pb Fp) (fun s _ => n - (intOf s).toNat)
  case atStart =>
    obtain ⟨b4, x4⟩ := unhide H4
    exact ⟨0, .slice none 0 0, fun _ => 0, fun _ _ => False, by omega, rfl, b4, x4.lt, x4, ⟨⟨rfl, .inl ⟨rfl, rfl⟩⟩, fun j hj => by simp [Value.ownBlock] at hj, fun p hp => by omega, fun p j hp => by omega, fun p q j hp => by omega⟩⟩
  case round =>
    obtain ⟨k, pv, pb, Fp, hkn, rfl, hb, hsz, hx, hM⟩ := hrel
    by_cases hlt : k < n
    · have hdk : decide (k < n) = true := by simp; omega
      have hadd := i64_id ((k : Int) + 1) (by omega) (by omega)
      obtain ⟨ao1, c1, rfl⟩ := own_nil hM.row
      have hS : ∀ W, Below wr.heap.size wr W → W.cell? ⟨w3.heap.size, 0, none⟩ = some (.slice ao1 k c1) ∧ W.cell? ⟨w.heap.size, 0, none⟩ = some (.int .i64 (n : Int)) ∧ W.cell? ⟨w.heap.size, 1, none⟩ = some (.int .i64 (win : Int)) ∧ W.cell? ⟨w.heap.size, 2, none⟩ = some (.int .i64 (delay : Int)) ∧ W.cell? ⟨w.heap.size, 3, none⟩ = some (.int .i64 (kind : Int)) ∧ W.cell? ⟨w.heap.size, 4, none⟩ = some (.slice ao0 m0' c0') := fun W hW => by
        have h1 : Blk W w3.heap.size #[.slice ao1 k c1, .slice ao nn cc, .int .i64 0, .int .i64 0, .slice none 0 0] 66 := (hW.block _ (by omega)).trans hx
        have h2 : Blk W w.heap.size #[.int .i64 (n : Int), .int .i64 (win : Int), .int .i64 (delay : Int), .int .i64 (kind : Int), .slice ao0 m0' c0'] 50 := (hW.block _ (by omega)).trans ((hb.block _ hx3).trans (unhide HXC))
        exact ⟨h1.cell 0, h2.cell 0, h2.cell 1, h2.cell 2, h2.cell 3, h2.cell 4⟩
      have HS := hide hS
      have hS0 := hS wr.drew (Below.refl _ wr).drew
      have HM := hide (And.intro hb (And.intro hx hM))
      clear hS hb hx hM
      go_wp2_with fail
      refine wp_region_noPanic ?_
      refine wp_held_tail 7 10 (fun W' => W'.cell? ⟨w3.heap.size, 0, none⟩ = some (.slice ao1 k c1) ∧ W'.cell? ⟨w.heap.size, 0, none⟩ = some (.int .i64 (n : Int)) ∧ W'.cell? ⟨w.heap.size, 1, none⟩ = some (.int .i64 (win : Int)) ∧ W'.cell? ⟨w.heap.size, 2, none⟩ = some (.int .i64 (delay : Int)) ∧ W'.cell? ⟨w.heap.size, 3, none⟩ = some (.int .i64 (kind : Int)) ∧ W'.cell? ⟨w.heap.size, 4, none⟩ = some (.slice ao0 m0' c0')) (by kernel_rfl) (by decide) (by kernel_rfl) (by kernel_rfl) (by kernel_rfl) (fun _ _ _ _ _ h => h) hS0 ?_
      simp only [List.take_succ_cons, List.take_zero, List.drop_succ_cons, List.drop_zero]
      refine wpHeld_op ?y0 rfl ?z0 ?_
      case z0 => intro w' hS; obtain ⟨hS0, hS1, hS2, hS3, hS4, hS5⟩ := hS; go_simp; rfl
      refine wpHeld_op ?y1 rfl ?z1 ?_
      case z1 => intro w' hS; obtain ⟨hS0, hS1, hS2, hS3, hS4, hS5⟩ := hS; go_simp; rfl
      refine wpHeld_op ?y2 rfl ?z2 ?_
      case z2 => intro w' hS; obtain ⟨hS0, hS1, hS2, hS3, hS4, hS5⟩ := hS; go_simp; rfl
      refine wpHeld_op ?y3 rfl ?z3 ?_
      case z3 => intro w' hS; obtain ⟨hS0, hS1, hS2, hS3, hS4, hS5⟩ := hS; go_simp; rfl
      refine wpHeld_op ?y4 rfl ?z4 ?_
      case z4 => intro w' hS; obtain ⟨hS0, hS1, hS2, hS3, hS4, hS5⟩ := hS; go_simp; rfl
      refine wpHeld_op ?y5 rfl ?z5 ?_
      case z5 => intro w' hS; obtain ⟨hS0, hS1, hS2, hS3, hS4, hS5⟩ := hS; go_simp; rfl
      refine wpHeld_op ?y6 rfl ?z6 ?_
      case z6 => intro w' hS; obtain ⟨hS0, hS1, hS2, hS3, hS4, hS5⟩ := hS; go_simp; rfl
      unfold wpHeld
      refine wpAnyH_all (rs := [7]) (by kernel_rfl) (by simp) ?_
      intro j hj
      obtain rfl : j = 7 := by simpa using hj
      refine wpOp_of_list _ rfl rfl ?_
      go_wp2_with fail
      refine (pNew_any k n win delay kind (.slice ao0 m0' c0') wr.drew hn2 hn hw1 hw hd hlt).mono ?_
      rintro e w6 ⟨b6, F6, FS6, v6, st6, rfl, hP6, hF6, hb6⟩
      have hB6 : Below wr.heap.size wr w6 := ⟨hb6.os, hb6.tape, hb6.output, hb6.size, hb6.block⟩
      have hS6 := unhide HS w6 hB6
      have hz6 := hB6.size
      have H6 := hide (And.intro hP6 (And.intro hF6 hB6))
      clear hP6 hF6 hb6
      go_wp2_with fail
      refine ⟨hS6, ?_⟩
      refine wpAnyH_all (rs := [8]) (by kernel_rfl) (by simp) ?_
      intro j hj
      obtain rfl : j = 8 := by simpa using hj
      refine wpOp_of_list _ rfl rfl ?_
      go_wp2_with fail
      have hBA : Below w6.heap.size w6 (w6.alloc (.cells #[.pointer (some ⟨b6, 0, none⟩)] 67)) := (Below.refl _ w6).alloc (Nat.le_refl _) _
      have hzA : (w6.alloc (.cells #[.pointer (some ⟨b6, 0, none⟩)] 67)).heap.size = w6.heap.size + 1 := by simp
      refine ⟨unhide HS _ (hB6.trans (hBA.mono hz6)), ?_⟩
      refine wpAnyH_all (rs := [9]) (by kernel_rfl) (by simp) ?_
      intro j hj
      obtain rfl : j = 9 := by simpa using hj
      refine wpOp_of_list _ rfl rfl ?_
      go_simp
      obtain ⟨hb, hx, hM⟩ := unhide HM
      have hownA : (w6.alloc (.cells #[.pointer (some ⟨b6, 0, none⟩)] 67)).ownsRow 0 67 1 (.slice ao1 k c1) k (ptrs pb k) := owns_same hM.row (fun q hq => ((hB6.trans (hBA.mono hz6)).block q (hM.row.lt q hq).2))
      refine wpList_append_own_at (w6.alloc (.cells #[.pointer (some ⟨b6, 0, none⟩)] 67)) rfl (.tmp 24) (.tmp 28) 60 rfl 0 67 i8 (.pointer none) 1 8 Tryz.underlying60 hi8 hz0 hz1 hz2 rfl (by decide) (.slice ao1 k c1) _ _ rfl hownA ⟨w6.heap.size, 0, none⟩ 1 1 [.pointer (some ⟨b6, 0, none⟩)] rfl rfl (cell_one_new _ _ _) (by simp [Value.oneCell']) (by unfold maxLen; omega) (by omega) (Nat.zero_le _) ?_
      intro v' w7 hown7 hg7 hnil7 hloc7
      obtain ⟨ao7, c7, rfl⟩ := own_nil hown7
      have hrowne : (Value.slice ao1 k c1).ownBlock ≠ some w3.heap.size := fun e => by have := hM.rowB _ e; omega
      have hrowne2 : (Value.slice ao1 k c1).ownBlock ≠ some w.heap.size := fun e => by have := hM.rowB _ e; omega
      have hsm7 : ∀ q, q < w6.heap.size + 1 → (Value.slice ao1 k c1).ownBlock ≠ some q → w7.heap[q]? = (w6.alloc (.cells #[.pointer (some ⟨b6, 0, none⟩)] 67)).heap[q]? := fun q hq hne => hg7.block q (by omega) (fun e => hne e.symm)
      have hsm : ∀ q, q < wr.heap.size → (Value.slice ao1 k c1).ownBlock ≠ some q → w7.heap[q]? = wr.heap[q]? := fun q hq hne => (hsm7 q (by omega) hne).trans ((hB6.trans (hBA.mono hz6)).block q hq)
      have x7 : Blk w7 w3.heap.size #[.slice ao1 k c1, .slice ao nn cc, .int .i64 0, .int .i64 0, .slice none 0 0] 66 := (hsm _ (by omega) hrowne).trans hx
      have xc7 : Blk w7 w.heap.size #[.int .i64 (n : Int), .int .i64 (win : Int), .int .i64 (delay : Int), .int .i64 (kind : Int), .slice ao0 m0' c0'] 50 := (hsm _ (by omega) hrowne2).trans ((hb.block _ hx3).trans (unhide HXC))
      have c70 : w7.cell? ⟨w3.heap.size, 0, none⟩ = some (.slice ao1 k c1) := x7.cell 0
      have f70 : w7.frozen? ⟨w3.heap.size, 0, none⟩ = false := x7.frozen 0
      refine ⟨⟨c70, xc7.cell 0, xc7.cell 1, xc7.cell 2, xc7.cell 3, xc7.cell 4⟩, ⟨by kernel_rfl, ?_⟩⟩
      have hM7 : MadeN w7 (.slice ao7 (k + 1) c7) (k + 1) n win delay (w3.heap.size + 1) (fun i => if i = k then b6 else pb i) (fun i => if i = k then F6 else Fp i) := by
        obtain ⟨hP6, hF6, _⟩ := unhide H6
        refine hM.step hsz (hB6.trans (hBA.mono hz6)) (hP6.same (fun q hq => hBA.block q (hF6 q hq).2)) (fun q hq => ⟨(hF6 q hq).1, by have := (hF6 q hq).2; omega⟩) (fun q hq hne => hsm7 q (by omega) hne) hg7.size hown7 ?_
        rcases hloc7 with e | e
        · exact .inl e
        · exact .inr ⟨_, e, Nat.le_refl _⟩
      have hb7 : Below w3.heap.size w3 w7 := ⟨(hg7.os.trans hBA.os).trans (hB6.os.trans hb.os), (hg7.tape.trans hBA.tape).trans (hB6.tape.trans hb.tape), (hg7.output.trans hBA.output).trans (hB6.output.trans hb.output), by have := hg7.size; omega, fun q hq => (hsm q (by omega) (fun e => by have := hM.rowB _ e; omega)).trans (hb.block q hq)⟩
      have hz7 := hg7.size
      have H7 := hide (And.intro hM7 (And.intro hb7 x7))
      clear hown7 hg7 hnil7 hloc7 hownA hM hb hx x7 xc7 hM7 hb7 hsm hsm7 hBA hB6 hS0 hS6
      change wpList _ _ _ _ _ _
      go_wp2_with fail
      refine NoPanic.normal ?_
      go_wp2
      obtain ⟨hM7, hb7, x7⟩ := unhide H7
      have x8 := x7.set 0 (.slice ao7 (k + 1) c7)
      refine ⟨⟨k + 1, .slice ao7 (k + 1) c7, _, _, by omega, by go_num, hb7.setCell (p := ⟨w3.heap.size, 0, none⟩) (Nat.le_refl _) _, by simp; omega, by simpa using x8, hM7.same (fun q h1 h2 => heap_setCell_other _ _ _ _ (fun e => by have : q = w3.heap.size := e; omega)) (by simp)⟩, by simp [intOf]; omega⟩
    · have hdk : decide (k < n) = false := by simp; omega
      have hke : k = n := by omega
      have HM := hide (And.intro hb (And.intro hx (And.intro hM hke)))
      clear hb hx hM hke
      go_wp2
      go_ret2
      obtain ⟨hb, hx, hM, hke⟩ := unhide HM
      obtain ⟨hown, hlB, hb3⟩ := unhide H3
      obtain ⟨bB, xB⟩ := unhide HX
      obtain ⟨hb2, _⟩ := unhide H2
      rw [hke] at hM
      have z1 := bB.size
      have z2 := hb2.size
      have z3 := hb3.size
      have hNP := net_made hM hx (by omega) (owns_same hown (fun q hq => hb.block q (hown.lt q hq).2)) (fun q hq => by have := (hown.lt q hq).2; exact ⟨by omega, by omega⟩) (unhide HR) hn2 hn
      refine ⟨w3.heap.size, pv, pb, _, rfl, ⟨_, _, _, _, _, hNP, fun _ => Iff.rfl⟩, fun q hq => ?_, ((bB.trans (hb2.mono z1)).trans (hb3.mono (by omega))).trans (hb.mono (by omega))⟩
      rcases hq with (e | e | e | e) | ⟨f, hf, _⟩ | ⟨p, hp, e⟩
      · omega
      · have := hM.rowB q e; omega
      · have := hlB q e; omega
      · simp [Value.ownBlock] at e
      · simp [newM] at hf
      · have := (hM.plt p q hp e).1; omega
end Go.Proofs.YtandblanpafjoaaGreatDoor

namespace Go.Proofs.YtandblanpafjoaaGreatDoor
open Go.RowKit Go.Extern.Stop Go.Stop Go.Extern
set_option maxHeartbeats 800000 in
theorem ppnew_any (n win delay kind : Nat) (lv : Value) (lags : List Int) (w : World) (h : LagSrc w lv lags) (hl : lags.length ≤ 8) (hr : ∀ x ∈ lags, -1 ≤ x ∧ x ≤ 20) (hn2 : 2 ≤ n) (hn : n ≤ 4) (hw1 : 1 ≤ win) (hw : win ≤ 8) (hd : delay ≤ 3) (hk : kind ≤ 1) (hlc : ∃ ao m c, lv = .slice ao m c) :
    Calls Tryz.prog 25 #[.agg #[.int .i64 (n : Int), .int .i64 (win : Int), .int .i64 (delay : Int), .int .i64 (kind : Int), lv]] w fun e w' => ∃ g pv pb F, e = .returned (.tuple #[.pointer (some ⟨g, 0, none⟩), .int .i64 0]) ∧ NetQ w' g pv pb F (newM n win delay lags) ∧ (∀ k, F k → w.heap.size ≤ k) ∧ Below w.heap.size w w' := by
  have hlc2 := hlc
  obtain ⟨ao0, m0', c0', rfl⟩ := hlc2
  have bB : Below w.heap.size w (w.alloc (.cells #[.int .i64 (n : Int), .int .i64 (win : Int), .int .i64 (delay : Int), .int .i64 (kind : Int), .slice ao0 m0' c0'] 50)) := (Below.refl _ w).alloc (Nat.le_refl _) _
  have HL := hide (And.intro bB (And.intro (h.below bB) hr))
  clear h bB hr
  go_enter Tryz.func25, Tryz.ntmps25
  go_wp2_with fail
  refine (nnew_any n win delay kind _ lags _ (unhide HL).2.1 hl (unhide HL).2.2 hn2 hn hw1 hw hd hk ⟨_, _, _, rfl⟩).mono ?_
  rintro e w2 ⟨g, pv, pb, F, rfl, hQ, hF, hb2⟩
  have H2 := hide (And.intro hQ (And.intro hF hb2))
  clear hQ hF hb2
  go_wp2_with fail
  refine (told_nil w2).mono ?_
  rintro e w3 ⟨rfl, hb3⟩
  go_wp2
  go_ret2
  obtain ⟨hQ, hF, hb2⟩ := unhide H2
  have z1 := (unhide HL).1.size
  have z2 := hb2.size
  exact ⟨g, pv, pb, F, rfl, hQ.below hb3, fun k hk => Nat.le_trans z1 (hF k hk), ((unhide HL).1.trans (hb2.mono z1)).trans (hb3.mono (by omega))⟩
set_option maxHeartbeats 800000 in
theorem ppadv_yes (g p : Nat) (i : Int) (pv : Value) (pb : Nat → Nat) (F : Nat → Prop) (m : NetM) (w : World) (h : NetQ w g pv pb F m) (hp : p < m.players) (hi : 0 ≤ i ∧ i ≤ 255) (hs : m.sent + 4 ≤ 900000) (hnow : m.now ≤ 900000) (h0 : (m.advance p i).1 = 0) :
    Calls Tryz.prog 27 #[.pointer (some ⟨g, 0, none⟩), .int .i64 (p : Int), .int .u8 i] w fun e w' => e = .returned (.tuple #[.int .i64 0, .int .i64 (-1)]) ∧ Chg F w w' ∧ ∃ F', NetQ w' g pv pb F' (m.advance p i).2 ∧ ∀ k, F' k → F k ∨ w.heap.size ≤ k := by
  have hfr : (m.peers p).frame ≤ 200 := by
    obtain ⟨_, _, _, _, hP⟩ := h.at hp
    exact hP.ok.frame
  have hadv : (m.peers p).frame < 200 ∧ (m.peers p).frame < m.conf p + m.window ∧ (m.advance p i).2 = sendTo (m.stepped p i) p m.players := by
    unfold NetM.advance at h0 ⊢
    by_cases h1 : (m.peers p).frame = 200
    · rw [if_pos h1] at h0; simp at h0
    · rw [if_neg h1] at h0 ⊢
      by_cases h2 : m.window ≤ (m.peers p).frame - m.conf p
      · rw [if_pos h2] at h0; simp at h0
      · rw [if_neg h2]
        exact ⟨by omega, by omega, rfl⟩
  rw [hadv.2.2]
  have HN := hide (And.intro h hadv)
  clear h hadv h0 hfr
  go_enter Tryz.func27, Tryz.ntmps27
  go_wp2_with fail
  refine (nadvance_yes g p i pv pb F m w (unhide HN).1 hp hi hs hnow (unhide HN).2.1 (unhide HN).2.2.1).mono ?_
  rintro e w2 ⟨rfl, hC, F2, hQ, hF2⟩
  have H2 := hide (And.intro hC (And.intro hQ hF2))
  clear hC hQ hF2
  go_wp2_with fail
  refine (told_nil w2).mono ?_
  rintro e w3 ⟨rfl, hb3⟩
  go_wp2
  go_ret2
  obtain ⟨hC, hQ, hF2⟩ := unhide H2
  exact ⟨rfl, hC.thenBelow (hb3.mono hC.size), F2, hQ.below hb3, hF2⟩
set_option maxHeartbeats 800000 in
theorem ppadv_no (g p : Nat) (i : Int) (k : Nat) (pv : Value) (pb : Nat → Nat) (F : Nat → Prop) (m : NetM) (w : World) (hgL : Laid w) (h : NetQ w g pv pb F m) (hp : p < m.players) (hk : (m.advance p i).1 = k) (hk0 : k ≠ 0) :
    Calls Tryz.prog 27 #[.pointer (some ⟨g, 0, none⟩), .int .i64 (p : Int), .int .u8 i] w fun e w' => e = .returned (.tuple #[.int .i64 (k : Int), .int .i64 (p : Int)]) ∧ Below w.heap.size w w' := by
  have HN := hide h
  clear h
  go_enter Tryz.func27, Tryz.ntmps27
  go_wp2_with fail
  refine (nadvance_no g p i k pv pb F m w (unhide HN) hp hk hk0).mono ?_
  rintro e w2 ⟨⟨g2, rfl, hg2, c0, c1⟩, hb2⟩
  go_wp2_with fail
  refine (told_peer g2 (p : Int) (k : Int) w2 (hgL.below hgL.lt hb2) c0 c1).mono ?_
  rintro e w3 ⟨rfl, hb3⟩
  go_wp2
  go_ret2
  exact ⟨rfl, hb2.trans (hb3.mono hb2.size)⟩
set_option maxHeartbeats 800000 in
theorem ppmem_any (g p : Nat) (pv : Value) (pb : Nat → Nat) (F : Nat → Prop) (m : NetM) (w : World) (h : NetQ w g pv pb F m) (hp : p < m.players) :
    Calls Tryz.prog 44 #[.pointer (some ⟨g, 0, none⟩), .int .i64 (p : Int)] w fun e w' => ∃ g2, e = .returned (.tuple #[.slice (some ⟨g2, 0, none⟩) 288 288, .int .i64 0, .int .i64 (-1)]) ∧ w.heap.size ≤ g2 ∧ Blk w' g2 (nums .u8 (stF m.players (insM (m.peers p) m.players) (m.peers p).frame)) 5 ∧ Below w.heap.size w w' := by
  have HN := hide h
  clear h
  go_enter Tryz.func44, Tryz.ntmps44
  go_wp2_with fail
  refine (nmemory_any g p pv pb F m w (unhide HN) hp).mono ?_
  rintro e w2 ⟨g2, rfl, hg2, hB2, hb2⟩
  have H2 := hide (And.intro hB2 hb2)
  clear hB2 hb2
  go_wp2_with fail
  refine (told_nil w2).mono ?_
  rintro e w3 ⟨rfl, hb3⟩
  go_wp2
  go_ret3
  obtain ⟨hB2, hb2⟩ := unhide H2
  exact ⟨g2, rfl, hg2, (hb3.block g2 hB2.lt).trans hB2, hb2.trans (hb3.mono hb2.size)⟩
end Go.Proofs.YtandblanpafjoaaGreatDoor

