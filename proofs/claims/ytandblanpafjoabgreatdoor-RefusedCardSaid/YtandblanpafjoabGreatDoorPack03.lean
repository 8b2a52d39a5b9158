import Derived.Test.YtandblanpafjoabGreatDoorPack01
import Derived.StillTail
import Derived.StillTailTactics
import Derived.Deep.MidRow
import Derived.OrdersHeld
namespace Go.Proofs.YtandblanpafjoabGreatDoor
open Go.RowKit

/-! A region whose last operations wait for all the others: the others in whatever order, then the last ones in theirs. -/
section
variable {P : Program}
/-- m: how many of the first ones are done; each of the others up to n is waited for, n by the end of the chain. -/
def tailB (l : List Oper) (m n : Nat) : Bool :=
  decide (n < l.length) && l.all (fun o => o.guard.isNone) &&
  (List.range n).all (fun i => match l[i]? with
    | some o => o.after.all fun e => decide (e.on < i)
    | none => false) &&
  (List.range n).all (fun i => decide (i < m) || (List.range (n + 1)).any fun j => decide (i < j) && Region.waitsFor .any l.toArray j i) && Region.chainB .any l.toArray n &&
  Region.seqB .any l.toArray (l.length - n) n (List.replicate n true ++ List.replicate (l.length - n) false).toArray
def tailQ (T : Act → World → Prop) (Q : Exit → Act → World → Prop) : Exit → Act → World → Prop
  | .normal, a, w => T a w
  | e, a, w => Q e a w

theorem upon_post {o : Oper} {a : Act} {K K' : Act → World → Prop} {Q Q' : Exit → Act → World → Prop} (hK : ∀ a w, K a w → K' a w) (hp : ∀ c a w, Q (.panic c) a w → Q' (.panic c) a w) (ho : LetsOut Q → LetsOut Q') {r : Result Next} (h : o.upon P a K Q r) : o.upon P a K' Q' r := by
  cases r with
  | ok nx w' =>
    cases nx with
    | value v => exact hK _ _ h
    | skip => exact hK _ _ h
    | defer d => exact hK _ _ h
    | enter f args =>
      refine Calls.mono (show Calls P f args w' _ from h) fun e w'' he => ?_
      cases e with
      | returned v => exact hK _ _ he
      | panicked c => exact hp _ _ _ he
      | outgrown => exact ho he
    | row rw args => exact Rows.mono (show Rows P rw args w' _ from h) fun v w'' hv => hK _ _ hv
    | _ => exact (h : False).elim
  | halt x w' =>
    cases x with
    | panic v => exact hp _ _ _ h
    | _ => exact (h : False).elim

theorem mem_ready {ops : Array Oper} {listed : Array Bool} {i : Nat} : i ∈ Region.ready .any ops listed ↔ i < ops.size ∧ listed.getD i true = false ∧ ((ops[i]?).map (·.after.all fun e => !Region.binds .any e || listed.getD e.on false)).getD false = true := by
  simp [Region.ready]
theorem getD_app (L : List Bool) (m i : Nat) (d : Bool) (hi : i < L.length) : (L ++ List.replicate m false).toArray.getD i d = L.toArray.getD i d := by
  simp [Array.getD, hi, Nat.lt_add_right m hi, List.getElem_append_left]
theorem getD_tail (L : List Bool) (m i : Nat) (hi : L.length ≤ i) : (L ++ List.replicate m false).toArray.getD i false = false := by
  by_cases h : i < L.length + m
  · simp [Array.getD, h, List.getElem_append_right hi]
  · simp [Array.getD, h]
theorem set_app (L : List Bool) (m i : Nat) (hi : i < L.length) : (L ++ List.replicate m false).toArray.setIfInBounds i true = (L.set i true ++ List.replicate m false).toArray := by
  simp [List.set_append_left _ _ hi]
/-- The first that is not yet listed. -/
theorem first_false : ∀ (L : List Bool), L.count false ≠ 0 → ∃ i, i < L.length ∧ L.toArray.getD i true = false ∧ ∀ j, j < i → L.toArray.getD j false = true
  | [], h => by simp at h
  | false :: L, _ => ⟨0, by simp, by simp [Array.getD], fun j hj => by omega⟩
  | true :: L, h => by
    obtain ⟨i, h1, h2, h3⟩ := first_false L (by simpa using h)
    refine ⟨i + 1, by simpa using h1, ?_, ?_⟩
    · simpa [Array.getD] using h2
    · intro j hj
      cases j with
      | zero => simp [Array.getD]
      | succ j => have := h3 j (by omega); simpa [Array.getD] using this
theorem count_set : ∀ (L : List Bool) (i : Nat), i < L.length → L.toArray.getD i true = false → (L.set i true).count false + 1 = L.count false
  | [], _, h, _ => by simp at h
  | b :: L, 0, _, h => by
    have : b = false := by simpa [Array.getD] using h
    subst this
    simp
  | b :: L, i + 1, hi, h => by
    have := count_set L i (by simpa using hi) (by simpa [Array.getD] using h)
    cases b <;> simp <;> omega
theorem all_true : ∀ (L : List Bool), L.count false = 0 → L = List.replicate L.length true
  | [], _ => rfl
  | true :: L, h => by
    have := all_true L (by simpa using h)
    rw [List.length_cons, List.replicate_succ, ← this]
  | false :: L, h => by simp at h

/-- What is done lies behind what it waited for. -/
def shutL (l : List Oper) (m : Nat) (L : List Bool) : Prop := (∀ i, i < m → L.toArray.getD i true = true) ∧ ∀ j oj, j < L.length → l[j]? = some oj → L.toArray.getD j false = true → ∀ e ∈ oj.after, Region.binds .any e = true → L.toArray.getD e.on false = true
theorem getD_same (L : List Bool) (i : Nat) (hi : i < L.length) : L.toArray.getD i false = L.toArray.getD i true := by simp [Array.getD, hi]
theorem getD_setT (L : List Bool) (i j : Nat) (d : Bool) : (L.set i true).toArray.getD j d = if j = i ∧ i < L.length then true else L.toArray.getD j d := by
  by_cases h : j < L.length
  · simp only [Array.getD, List.size_toArray, List.length_set, h, dif_pos, Array.getInternal_eq_getElem, List.getElem_toArray, List.getElem_set]
    by_cases e : i = j
    · subst e; simp [h]
    · simp [e, Ne.symm e]
  · have : ¬ (j = i ∧ i < L.length) := by omega
    simp [Array.getD, h, this]
theorem n_waits {l : List Oper} {m n : Nat} {L : List Bool} (hs : ∀ i, i < n → m ≤ i → ∃ j, i < j ∧ j ≤ n ∧ Region.waitsFor .any l.toArray j i = true) (hL : L.length = n) (hc : shutL l m L) (R : List Bool) (hR : ∀ k, k < n → R.toArray.getD k false = L.toArray.getD k false) (oj : Oper) (hoj : l.toArray[n]? = some oj)
    (hall : (oj.after.all fun e => !Region.binds .any e || R.toArray.getD e.on false) = true) : ∀ d i, n - i = d → i < n → L.toArray.getD i true = false → False := by
  intro d
  induction d using Nat.strongRecOn with
  | _ d ih =>
    intro i hd hi hu
    have him : m ≤ i := by
      apply Nat.le_of_not_lt
      intro h
      rw [hc.1 i h] at hu; cases hu
    obtain ⟨j, h1, h2, h3⟩ := hs i hi him
    obtain ⟨o, ho, e, he, hb, hon⟩ := Region.waitsFor_spec h3
    have hui : L.toArray.getD i false = false := by rw [getD_same L i (by omega)]; exact hu
    by_cases hjn : j = n
    · subst hjn
      rw [hoj] at ho
      cases ho
      rw [Array.all_eq_true_iff_forall_mem] at hall
      have := hall e he
      rw [hb, hon, hR i hi, hui] at this
      simp at this
    · have hjn' : j < n := by omega
      cases hl : L.toArray.getD j false with
      | true =>
        have := hc.2 j o (by omega) (by simpa using ho) hl e he hb
        rw [hon, hui] at this; cases this
      | false => exact ih (n - j) (by omega) j rfl hjn' (by rw [← getD_same L j (by omega)]; exact hl)

theorem tail_aux {l : List Oper} {m n : Nat} {Q : Exit → Act → World → Prop} (hB : tailB l m n = true) : ∀ (k : Nat) (L : List Bool) (a : Act) (w : World), L.length = n → L.count false = k → shutL l m L →
    wpAny P .any (l.take n).toArray (tailQ (wpList P l.toArray Q (l.drop n)) Q) k L.toArray a w → wpAny P .any l.toArray Q (k + (l.length - n)) (L ++ List.replicate (l.length - n) false).toArray a w
  | 0, L, a, w, hL, hk, _, h => by
    simp only [tailB, Bool.and_eq_true, decide_eq_true_eq] at hB
    obtain ⟨⟨⟨⟨⟨hn, _⟩, _⟩, _⟩, _⟩, hs⟩ := hB
    have e := all_true L hk
    rw [hL] at e
    subst e
    have := wpAny_of_seq (P := P) (md := .any) (ops := l.toArray) (Q' := Q) (l.drop n) n (List.replicate n true ++ List.replicate (l.length - n) false).toArray a w (fun j => by simp [List.getElem?_drop]) (by simpa using hs) h.2
    rw [List.length_drop] at this
    rw [Nat.zero_add]
    exact this
  | k + 1, L, a, w, hL, hk, hc, h => by
    have hB' := hB
    simp only [tailB, Bool.and_eq_true, decide_eq_true_eq] at hB'
    obtain ⟨⟨⟨⟨⟨hn, hgd⟩, hlex⟩, hall⟩, hch⟩, hs⟩ := hB'
    have hop : ∀ i, i < n → (l.take n).toArray[i]? = l.toArray[i]? := fun i hi => by simp [hi]
    obtain ⟨i0, hi0, hu0, hf0⟩ := first_false L (by omega)
    rw [hL] at hi0
    -- what is ready of the whole is ready of the head
    have hr : ∀ i, i ∈ Region.ready .any l.toArray (L ++ List.replicate (l.length - n) false).toArray → i < n ∧ i ∈ Region.ready .any (l.take n).toArray L.toArray := by
      intro i hi
      rw [mem_ready] at hi
      obtain ⟨h1, h2, h3⟩ := hi
      have hin : i < n := by
        rcases Nat.lt_trichotomy i n with hin | hin | hin
        · exact hin
        · subst hin
          exfalso
          have hin2 : i < l.toArray.size := by simpa using h1
          obtain ⟨oj, hoj⟩ : ∃ oj, l.toArray[i]? = some oj := ⟨_, Array.getElem?_eq_getElem hin2⟩
          rw [hoj] at h3
          simp only [Option.map_some, Option.getD_some] at h3
          refine n_waits (m := m) (fun q hq hmq => ?_) hL hc (L ++ List.replicate (l.length - i) false) (fun q hq => getD_app L _ q false (by omega)) oj hoj h3 (i - i0) i0 rfl hi0 hu0
          have := (List.all_eq_true.1 hall) q (by simpa using hq)
          simp only [Bool.or_eq_true, decide_eq_true_eq, List.any_eq_true, List.mem_range, Bool.and_eq_true] at this
          rcases this with h | ⟨j, hj, hj1, hj2⟩
          · omega
          · exact ⟨j, hj1, by omega, hj2⟩
        · have := (List.all_eq_true.1 hch) i (by simpa using h1)
          simp only [Bool.or_eq_true, decide_eq_true_eq] at this
          rcases this with h | h
          · omega
          obtain ⟨oj, hoj, e, he, hb, hon⟩ := Region.waitsFor_spec h
          rw [hoj] at h3
          simp only [Option.map_some, Option.getD_some, Array.all_eq_true_iff_forall_mem] at h3
          have := h3 e he
          rw [hb, hon, getD_tail L _ (i - 1) (by omega)] at this
          simp at this
      refine ⟨hin, ?_⟩
      rw [mem_ready, hop i hin]
      refine ⟨by simp; omega, by rw [← getD_app L (l.length - n) i true (by omega)]; exact h2, ?_⟩
      have hlx := (List.all_eq_true.1 hlex) i (by simpa using hin)
      cases ho : l[i]? with
      | none => simp [ho] at hlx
      | some o =>
        rw [ho] at hlx
        have ho' : l.toArray[i]? = some o := by simpa using ho
        rw [ho'] at h3 ⊢
        simp only [Option.map_some, Option.getD_some, Array.all_eq_true_iff_forall_mem] at h3 hlx ⊢
        intro e he
        have hlt := hlx e he
        simp only [decide_eq_true_eq] at hlt
        rw [← getD_app L (l.length - n) e.on false (by omega)]
        exact h3 e he
    have hr' : i0 ∈ Region.ready .any l.toArray (L ++ List.replicate (l.length - n) false).toArray := by
      rw [mem_ready]
      refine ⟨by simp; omega, by rw [getD_app L _ i0 true (by omega)]; exact hu0, ?_⟩
      have hlx := (List.all_eq_true.1 hlex) i0 (by simpa using hi0)
      cases ho : l[i0]? with
      | none => simp [ho] at hlx
      | some o =>
        rw [ho] at hlx
        have ho' : l.toArray[i0]? = some o := by simpa using ho
        rw [ho']
        simp only [Option.map_some, Option.getD_some, Array.all_eq_true_iff_forall_mem] at hlx ⊢
        intro e he
        have hlt := hlx e he
        simp only [decide_eq_true_eq] at hlt
        rw [getD_app L _ e.on false (by omega), hf0 e.on hlt]
        simp
    rw [show k + 1 + (l.length - n) = (k + (l.length - n)) + 1 by omega]
    refine ⟨fun h0 => (by rw [h0] at hr'; cases hr'), fun i hi => ?_⟩
    obtain ⟨hin, hi'⟩ := hr i hi
    have hw := h.2 i hi'
    have hset : L.toArray.setIfInBounds i true = (L.set i true).toArray := by simp
    rw [set_app L _ i (by omega)]
    rw [hset] at hw
    have hui : L.toArray.getD i true = false := (mem_ready.1 hi').2.1
    have ih : ∀ a' w', wpAny P .any (l.take n).toArray (tailQ (wpList P l.toArray Q (l.drop n)) Q) k (L.set i true).toArray a' w' → wpAny P .any l.toArray Q (k + (l.length - n)) (L.set i true ++ List.replicate (l.length - n) false).toArray a' w' := fun a' w' h' =>
      tail_aux hB k (L.set i true) a' w' (by simpa using hL) (by have := count_set L i (by omega) hui; omega) ⟨fun q hq => by rw [getD_setT]; split <;> first | rfl | exact hc.1 q hq, fun j oj hj hoj hl e he hb => by
        rw [getD_setT] at hl ⊢
        rw [List.length_set] at hj
        split
        · rfl
        · split at hl
          · rename_i hji
            obtain ⟨rfl, _⟩ := hji
            have h3 := (mem_ready.1 hi').2.2
            rw [hop j hin, show l.toArray[j]? = some oj by simpa using hoj] at h3
            simp only [Option.map_some, Option.getD_some, Array.all_eq_true_iff_forall_mem] at h3
            have := h3 e he
            rw [hb] at this
            simpa using this
          · exact hc.2 j oj hj hoj hl e he hb⟩ h'
    unfold wpOp at hw ⊢
    rw [hop i hin] at hw
    cases ho : l.toArray[i]? with
    | none => rw [ho] at hw; exact ih _ _ hw
    | some o =>
      rw [ho] at hw
      have hog : o.guard = none := by
        have : o ∈ l := by
          have : l[i]? = some o := by simpa using ho
          exact List.mem_of_getElem? this
        simpa using (List.all_eq_true.1 hgd) o this
      have hwt : ∀ y, Region.wanted o y = true := fun y => by simp [Region.wanted, hog]
      simp only [hwt, if_true] at hw ⊢
      rcases hw with hw | ⟨h1, h2⟩
      · exact .inl (upon_post ih (fun c a w h => h) (fun ⟨a, w, h⟩ => ⟨a, w, h⟩) hw)
      · exact .inr ⟨h1, by obtain ⟨a, w, h⟩ := h2; exact ⟨a, w, h⟩⟩

theorem shut_start (l : List Oper) (m n : Nat) (hl : ∀ j oj, j < m → l[j]? = some oj → oj.after = #[]) : shutL l m (List.replicate m true ++ List.replicate (n - m) false) := by
  constructor
  · intro i hi
    simp [Array.getD, hi, show i < m + (n - m) by omega, List.getElem_append_left]
  · intro j oj hj hoj ht e he
    by_cases h : j < m
    · rw [hl j oj h hoj] at he; simp at he
    · rw [getD_tail _ _ j (by simp; omega)] at ht; cases ht
/-- m moves are done; then what only reads, in the order of the text; then the end of the chain. -/
theorem wpAny_still_tail {l : List Oper} (m n : Nat) {Q : Exit → Act → World → Prop} {a : Act} {w : World} (hB : tailB l m n = true) (hmn : m ≤ n) (hz : (l.take m).all (fun o => o.after.isEmpty) = true) (hs : Region.noSelect (l.take n).toArray = true)
    (hx : Region.lexFrom .any (l.take n).toArray (n - m) m (List.replicate m true ++ List.replicate (n - m) false).toArray = true)
    (h : wpStill P (l.take n).toArray w (fun a' => wpList P l.toArray Q (l.drop n) a' w) ((l.take n).drop m) a) :
    wpAny P .any l.toArray Q (l.length - m) (List.replicate m true ++ List.replicate (l.length - m) false).toArray a w := by
  have hB' := hB
  simp only [tailB, Bool.and_eq_true, decide_eq_true_eq] at hB'
  have hn := hB'.1.1.1.1.1
  have hd : ((l.take n).drop m).length = n - m := by simp; omega
  have h1 := wpAnyS_lex (P := P) (md := .any) (w := w) (Q := fun a' => wpList P l.toArray Q (l.drop n) a' w) hs ((l.take n).drop m) m (List.replicate m true ++ List.replicate (n - m) false).toArray a (fun j => by simp [List.getElem?_drop]) (by rw [hd]; exact hx) h
  rw [hd] at h1
  have h2 := wpAny_of_still (Q' := tailQ (wpList P l.toArray Q (l.drop n)) Q) (fun _ h => h) _ _ _ h1
  have h3 := tail_aux hB (n - m) (List.replicate m true ++ List.replicate (n - m) false) a w (by simp; omega) (by simp [List.count_replicate]) (shut_start l m n (fun j oj hj hoj => by
    have : oj ∈ l.take m := List.mem_of_getElem? (i := j) (by simp [hj, hoj])
    have := (List.all_eq_true.1 hz) oj this
    simpa using this)) h2
  rw [show n - m + (l.length - n) = l.length - m by omega, List.append_assoc, List.replicate_append_replicate, show n - m + (l.length - n) = l.length - m by omega] at h3
  exact h3
/-- A region of m moves, of reads, and of a chain at its end. -/
theorem wp_moves_reads_tail0 {id : Nat} {l : List Oper} (n : Nat) {Q : Exit → Act → World → Prop} {a : Act} {w : World} (hm : P.follows .mixedOrders = true) (hB : tailB l 0 n = true) (hs : Region.noSelect (l.take n).toArray = true)
    (hx : Region.lexFrom .any (l.take n).toArray n 0 (List.replicate n false).toArray = true)
    (h : wpStill P (l.take n).toArray w.drew (fun a' => wpList P l.toArray Q (l.drop n) a' w.drew) (l.take n) a) : (Code.region id l.toArray true).wp P Q a w := by
  refine wp_region_any hm ?_
  have := wpAny_still_tail (P := P) (l := l) 0 n (Q := Q) (a := a) (w := w.drew) hB (Nat.zero_le _) (by simp) hs (by simpa using hx) (by simpa using h)
  simpa using this
/-- A region whose first operation is a move, then reads, then a chain. -/
theorem wp_move_reads_tail {id : Nat} {l : List Oper} (n : Nat) {Q : Exit → Act → World → Prop} {a : Act} {w : World} (o0 : Oper) (x : Operand) (h0 : l.toArray[0]? = some o0) (ho : o0.op = .move x) (hg : o0.guard = none) (hm : P.follows .mixedOrders = true) (hB : tailB l 1 n = true) (hn : 1 ≤ n)
    (hs0 : Region.noSelect l.toArray = true) (hf : Region.free .any l.toArray (Array.replicate l.toArray.size false) 0 = true) (hr : (Region.ready .any l.toArray (Array.replicate l.toArray.size false)).contains 0 = true)
    (hz : (l.take 1).all (fun o => o.after.isEmpty) = true) (hs : Region.noSelect (l.take n).toArray = true) (hx : Region.lexFrom .any (l.take n).toArray (n - 1) 1 (List.replicate 1 true ++ List.replicate (n - 1) false).toArray = true)
    (hQ : ∀ c a w v, Q (.panic c) (a.put o0.dst v) w → Q (.panic c) a w)
    (h : wpStill P (l.take n).toArray w.drew (fun a' => wpList P l.toArray Q (l.drop n) a' w.drew) ((l.take n).drop 1) (a.put o0.dst (a.eval x))) : (Code.region id l.toArray true).wp P Q a w := by
  refine wp_region_any hm ?_
  have hB' := hB
  simp only [tailB, Bool.and_eq_true, decide_eq_true_eq] at hB'
  have hn' := hB'.1.1.1.1.1
  have h1 := wpAny_still_tail (P := P) (l := l) 1 n (Q := Q) (a := a.put o0.dst (a.eval x)) (w := w.drew) hB hn hz hs hx h
  obtain ⟨o, l', rfl⟩ : ∃ o l', l = o :: l' := by
    cases l with
    | nil => simp at hn'
    | cons o l' => exact ⟨o, l', rfl⟩
  have hsz : (o :: l').toArray.size = l'.length + 1 := by simp
  rw [hsz] at hf hr ⊢
  refine wpAny_take (i := 0) (v := a.eval x) h0 hs0 hf hr (fun c a' w' => hQ c a' w' _) (Or.inl ⟨by simp [Region.wanted, hg], fun w' => by simp [execOp, ho]⟩) ?_
  have e : (Array.replicate (l'.length + 1) false).setIfInBounds 0 true = (List.replicate 1 true ++ List.replicate l'.length false).toArray := by
    simp [← List.toArray_replicate, List.replicate_succ]
  rw [e]
  simpa using h1
/-! Reads that may come on either side of one call: they read the same there. -/
def wpHeld (P : Program) (ops : Array Oper) (S : World → Prop) (Q : Act → Prop) : List Oper → Act → Prop
  | [], a => Q a
  | o :: rest, a => ∃ v, YieldsIf P ops S o v a ∧ wpHeld P ops S Q rest (a.put o.dst v)
def heldB (ops : Array Oper) : Nat → Nat → Array Bool → Bool
  | 0, k, listed => decide (Region.ready .any ops listed = [k]) && decide (Region.ready .any ops (listed.setIfInBounds k true) = [])
  | f + 1, k, listed => (Region.ready .any ops listed).contains k && Region.free .any ops listed k && heldB ops f (k + 1) (listed.setIfInBounds k true)
theorem held_lex {ops : Array Oper} {S : World → Prop} {Q : Exit → Act → World → Prop} {w : World} {K : Act → Prop} (hs : Region.noSelect ops = true) (hQ : ∀ (o : Oper) (v : Value) c a w, Q (.panic c) (a.put o.dst v) w → Q (.panic c) a w) (hS : S w) (N : Nat)
    (hK : ∀ a, K a → wpOp P ops Q N (fun a' w' => S w' ∧ Q .normal a' w') a w) : ∀ (r : List Oper) (k : Nat) (listed : Array Bool) (a : Act), (∀ j, j < r.length → r[j]? = ops[k + j]?) → k + r.length = N → heldB ops r.length k listed = true →
    wpHeld P ops S K r a → wpAnyH P .any ops Q S (r.length + 1) listed a w
  | [], k, listed, a, _, hk, hB, h => by
    simp only [List.length_nil, heldB, Bool.and_eq_true, decide_eq_true_eq] at hB
    have e : k = N := by simpa using hk
    subst e
    refine wpAnyH_all hB.1 (by simp) ?_
    intro i hi
    have : i = k := by simpa using hi
    subst this
    exact wpOp_mono (fun a' w' h => ⟨h.1, hB.2, h.2⟩) (hK a h)
  | o :: r, k, listed, a, hl, hk, hB, h => by
    simp only [List.length_cons, heldB, Bool.and_eq_true] at hB
    obtain ⟨v, hy, h'⟩ := h
    have h0 : ops[k]? = some o := by simpa using (hl 0 (by simp)).symm
    exact wpAnyH_take h0 hs hB.1.2 hB.1.1 (hQ o v) hy hS (held_lex hs hQ hS N hK r (k + 1) _ _ (fun j hj => by have := hl (j + 1) (by simp; omega); simpa [Nat.add_assoc, Nat.add_comm 1 j] using this) (by simp only [List.length_cons] at hk; omega) hB.2 h')
/-- Reads, one call, a chain. -/
theorem wp_held_call_tail {id : Nat} {l : List Oper} (n : Nat) {Q : Exit → Act → World → Prop} {a : Act} {w : World} (S : World → Prop) (o : Oper) (ho : l[n]? = some o) (hg : o.guard = none) (hm : P.follows .mixedOrders = true) (hB : tailB l 0 (n + 1) = true) (hs : Region.noSelect (l.take (n + 1)).toArray = true)
    (hb : heldB (l.take (n + 1)).toArray n 0 (List.replicate (n + 1) false).toArray = true) (hQ : ∀ (o : Oper) (v : Value) c a w, Q (.panic c) (a.put o.dst v) w → Q (.panic c) a w) (hS : S w.drew)
    (h : wpHeld P (l.take (n + 1)).toArray S (fun a' => wpList P (l.take (n + 1)).toArray (tailQ (fun a'' w'' => S w'' ∧ wpList P l.toArray Q (l.drop (n + 1)) a'' w'') Q) [o] a' w.drew) (l.take n) a) : (Code.region id l.toArray true).wp P Q a w := by
  refine wp_region_any hm ?_
  have hB' := hB
  simp only [tailB, Bool.and_eq_true, decide_eq_true_eq] at hB'
  have hn := hB'.1.1.1.1.1
  have hK : ∀ a', wpList P (l.take (n + 1)).toArray (tailQ (fun a'' w'' => S w'' ∧ wpList P l.toArray Q (l.drop (n + 1)) a'' w'') Q) [o] a' w.drew →
      wpOp P (l.take (n + 1)).toArray (tailQ (wpList P l.toArray Q (l.drop (n + 1))) Q) n (fun a'' w'' => S w'' ∧ tailQ (wpList P l.toArray Q (l.drop (n + 1))) Q .normal a'' w'') a' w.drew := fun a' h' => by
    have hoo : (l.take (n + 1)).toArray[n]? = some o := by simpa using ho
    unfold wpOp
    simp only [hoo]
    have hwt : ∀ y, Region.wanted o y = true := fun y => by simp [Region.wanted, hg]
    simp only [wpList, hwt, if_true] at h' ⊢
    rcases h' with h' | ⟨h1, h2⟩
    · exact .inl (upon_post (fun a w h => h) (fun c a w h => h) (fun ⟨a, w, h⟩ => ⟨a, w, h⟩) h')
    · exact .inr ⟨h1, by obtain ⟨a, w, h⟩ := h2; exact ⟨a, w, h⟩⟩
  have hd : (l.take n).length = n := by simp; omega
  have h1 := held_lex (P := P) (ops := (l.take (n + 1)).toArray) (S := S) (Q := tailQ (wpList P l.toArray Q (l.drop (n + 1))) Q) (w := w.drew) hs (fun o v c a w h => hQ o v c a w h) hS n hK (l.take n) 0 (List.replicate (n + 1) false).toArray a
    (fun j hj => by rw [hd] at hj; simp [hj, Nat.lt_succ_of_lt hj]) (by rw [hd]; omega) (by rw [hd]; exact hb) h
  rw [hd] at h1
  have h2 := tail_aux hB (n + 1) (List.replicate (n + 1) false) a w.drew (by simp) (by simp) (by simpa using shut_start l 0 (n + 1) (by simp)) (wpAny_of_held _ _ _ _ h1)
  rw [List.replicate_append_replicate, show n + 1 + (l.length - (n + 1)) = l.length by omega] at h2
  simpa using h2
def heldP (ops : Array Oper) : Nat → Nat → Array Bool → Bool
  | 0, _, _ => true
  | f + 1, k, listed => (Region.ready .any ops listed).contains k && Region.free .any ops listed k && heldP ops f (k + 1) (listed.setIfInBounds k true)
theorem held_pre {ops : Array Oper} {S : World → Prop} {Q : Exit → Act → World → Prop} {w : World} (hs : Region.noSelect ops = true) (hQ : ∀ (o : Oper) (v : Value) c a w, Q (.panic c) (a.put o.dst v) w → Q (.panic c) a w) (hS : S w) (fuel : Nat) : ∀ (r : List Oper) (L : List Bool) (m : Nat) (a : Act), (∀ j, j < r.length → r[j]? = ops[L.length + j]?) → heldP ops r.length L.length (L ++ List.replicate (r.length + m) false).toArray = true →
    wpHeld P ops S (fun a' => wpAnyH P .any ops Q S fuel (L ++ (List.replicate r.length true ++ List.replicate m false)).toArray a' w) r a → wpAnyH P .any ops Q S (r.length + fuel) (L ++ List.replicate (r.length + m) false).toArray a w
  | [], L, m, a, _, _, h => by simpa [wpHeld] using h
  | o :: r, L, m, a, hl, hB, h => by
    simp only [List.length_cons, heldP, Bool.and_eq_true] at hB
    obtain ⟨v, hy, h'⟩ := h
    have h0 : ops[L.length]? = some o := by simpa using (hl 0 (by simp)).symm
    have e : (L ++ List.replicate (r.length + 1 + m) false).toArray.setIfInBounds L.length true = ((L ++ [true]) ++ List.replicate (r.length + m) false).toArray := by
      rw [show r.length + 1 + m = (r.length + m) + 1 by omega, List.replicate_succ]
      simp [List.set_append_right]
    rw [List.length_cons, show r.length + 1 + fuel = (r.length + fuel) + 1 by omega]
    refine wpAnyH_take h0 hs hB.1.2 hB.1.1 (hQ o v) hy hS ?_
    have hB2 := hB.2
    rw [e] at hB2 ⊢
    refine held_pre hs hQ hS fuel r (L ++ [true]) m _ (fun j hj => by have := hl (j + 1) (by simp; omega); simpa [Nat.add_assoc, Nat.add_comm 1 j] using this) (by simpa using hB2) ?_
    have e2 : L ++ [true] ++ (List.replicate r.length true ++ List.replicate m false) = L ++ (List.replicate (r.length + 1) true ++ List.replicate m false) := by simp [List.replicate_succ]
    rw [e2]
    exact h'
/-- Reads that hold wherever they come; the rest, whichever comes up. -/
theorem wp_held_reads {id : Nat} {l : List Oper} (n : Nat) {Q : Exit → Act → World → Prop} {a : Act} {w : World} (S : World → Prop) (hm : P.follows .mixedOrders = true) (hn : n ≤ l.length) (hs : Region.noSelect l.toArray = true)
    (hb : heldP l.toArray n 0 (List.replicate l.length false).toArray = true) (hQ : ∀ (o : Oper) (v : Value) c a w, Q (.panic c) (a.put o.dst v) w → Q (.panic c) a w) (hS : S w.drew)
    (h : wpHeld P l.toArray S (fun a' => wpAnyH P .any l.toArray Q S (l.length - n) (List.replicate n true ++ List.replicate (l.length - n) false).toArray a' w.drew) (l.take n) a) : (Code.region id l.toArray true).wp P Q a w := by
  refine wp_region_any hm (wpAny_of_held (S := S) _ _ _ _ ?_)
  have hd : (l.take n).length = n := by simp; omega
  have h1 := held_pre (P := P) (ops := l.toArray) (S := S) (Q := Q) (w := w.drew) hs hQ hS (l.length - n) (l.take n) [] (l.length - n) a (fun j hj => by rw [hd] at hj; simp [hj]) (by rw [hd]; simpa [show n + (l.length - n) = l.length by omega] using hb) (by rw [hd]; simpa using h)
  rw [hd] at h1
  simpa [show n + (l.length - n) = l.length by omega] using h1
/-- Reads that hold wherever they come, then some more; behind all of them a chain. -/
theorem wp_held_tail {id : Nat} {l : List Oper} (R n : Nat) {Q : Exit → Act → World → Prop} {a : Act} {w : World} (S : World → Prop) (hm : P.follows .mixedOrders = true) (hR : R ≤ n) (hB : tailB l 0 n = true) (hs : Region.noSelect (l.take n).toArray = true)
    (hb : heldP (l.take n).toArray R 0 (List.replicate n false).toArray = true) (hQ : ∀ (o : Oper) (v : Value) c a w, Q (.panic c) (a.put o.dst v) w → Q (.panic c) a w) (hS : S w.drew)
    (h : wpHeld P (l.take n).toArray S (fun a' => wpAnyH P .any (l.take n).toArray (tailQ (wpList P l.toArray Q (l.drop n)) Q) S (n - R) (List.replicate R true ++ List.replicate (n - R) false).toArray a' w.drew) (l.take R) a) : (Code.region id l.toArray true).wp P Q a w := by
  refine wp_region_any hm ?_
  have hB' := hB
  simp only [tailB, Bool.and_eq_true, decide_eq_true_eq] at hB'
  have hn := hB'.1.1.1.1.1
  have hd : (l.take R).length = R := by simp; omega
  have h1 := held_pre (P := P) (ops := (l.take n).toArray) (S := S) (Q := tailQ (wpList P l.toArray Q (l.drop n)) Q) (w := w.drew) hs (fun o v c a w h => hQ o v c a w h) hS (n - R) (l.take R) [] (n - R) a (fun j hj => by rw [hd] at hj; simp [hj, show j < n by omega]) (by rw [hd]; simpa [show R + (n - R) = n by omega] using hb) (by rw [hd]; simpa using h)
  rw [hd] at h1
  have h1' : wpAnyH P .any (l.take n).toArray (tailQ (wpList P l.toArray Q (l.drop n)) Q) S n (List.replicate n false).toArray a w.drew := by simpa [show R + (n - R) = n by omega] using h1
  have h2 := tail_aux hB n (List.replicate n false) a w.drew (by simp) (by simp) (by simpa using shut_start l 0 n (by simp)) (wpAny_of_held _ _ _ _ h1')
  rw [List.replicate_append_replicate, show n + (l.length - n) = l.length by omega] at h2
  simpa using h2
theorem wpOp_of_list {ops : Array Oper} {Q : Exit → Act → World → Prop} {K : Act → World → Prop} {i : Nat} {a : Act} {w : World} (o : Oper) (ho : ops[i]? = some o) (hg : o.guard = none) (h : wpList P ops (tailQ K Q) [o] a w) : wpOp P ops Q i K a w := by
  unfold wpOp
  simp only [ho]
  have hwt : ∀ y, Region.wanted o y = true := fun y => by simp [Region.wanted, hg]
  simp only [wpList, hwt, if_true] at h ⊢
  rcases h with h' | ⟨h1, h2⟩
  · exact .inl (upon_post (fun a w h => h) (fun c a w h => h) (fun ⟨a, w, h⟩ => ⟨a, w, h⟩) h')
  · exact .inr ⟨h1, by obtain ⟨a, w, h⟩ := h2; exact ⟨a, w, h⟩⟩
theorem put_defers (a : Act) (d : Option Tmp) (v : Value) : (a.put d v).defers = a.defers := by cases d <;> rfl
theorem wpHeld_op {ops : Array Oper} {S : World → Prop} {Q : Act → Prop} {o : Oper} {rest : List Oper} {a : Act} (v : Value) (hg : o.guard = none) (hy : ∀ w, S w → (execOp a.eval o).run P w = .ok (.value v) w) (h : wpHeld P ops S Q rest (a.put o.dst v)) : wpHeld P ops S Q (o :: rest) a :=
  ⟨v, .inl ⟨by simp [Region.wanted, hg], hy⟩, h⟩

theorem wpHeld_load_mid {ops : Array Oper} {S : World → Prop} {Q : Act → Prop} {o : Oper} {rest : List Oper} {a : Act} (hgd : o.guard = none) (ty : TypeId) (x : Operand) (ho : o.op = .load ty x) (b off : Nat) (hx : a.eval x = .pointer (some ⟨b, off, none⟩)) (cs : List Value) (d : TypeDesc) (hc : ∀ w, S w → w.rangeAt b off cs)
    (hu : P.underlying ty = some d) (hd : d.isRow = true) (hi : (P.info? ty).map (·.size) = some cs.length) (h : wpHeld P ops S Q rest (a.put o.dst (.agg cs.toArray))) : wpHeld P ops S Q (o :: rest) a :=
  wpHeld_op _ hgd (fun w hw => by
    unfold execOp
    simp only [ho, hx, Instr.loadAt, Instr.sureAddr, Sem.run_bind, Sem.run_pure, Result.andThen_ok, run_loadVar_mid w b off ty cs d (hc w hw) hu hd hi]) h
theorem wpStill_load_mid {ops : Array Oper} {o : Oper} {rest : List Oper} {a : Act} {w : World} {Q : Act → Prop} (hgd : o.guard = none) (ty : TypeId) (x : Operand) (ho : o.op = .load ty x) (b off : Nat) (hx : a.eval x = .pointer (some ⟨b, off, none⟩)) (cs : List Value) (d : TypeDesc) (hc : w.rangeAt b off cs)
    (hu : P.underlying ty = some d) (hd : d.isRow = true) (hi : (P.info? ty).map (·.size) = some cs.length) (h : wpStill P ops w Q rest (a.put o.dst (.agg cs.toArray))) : wpStill P ops w Q (o :: rest) a := by
  unfold wpStill
  rw [if_pos (by simp [Region.wanted, hgd])]
  unfold Oper.still execOp
  simp only [ho, hx, Instr.loadAt, Instr.sureAddr, Sem.run_bind, Sem.run_pure, Result.andThen_ok, run_loadVar_mid w b off ty cs d hc hu hd hi, Oper.stillUpon_value]
  exact h
end
end Go.Proofs.YtandblanpafjoabGreatDoor

