import Derived.Test.YtandblanpafjoaaGreatDoorPack01
import Derived.StillTail
import Derived.StillTailTactics
import Derived.Deep.MidRow
import Derived.OrdersHeld
import Derived.OwnWalk
import Derived.Laws.OwnMore
import Derived.Laws.BitsAllLaws
namespace Go.Proofs.YtandblanpafjoaaGreatDoor
open Go.RowKit
section
variable {P : Program}
/-- m: how many of the first ones are done; each of the others up to n is waited for, n by the end of the chain. -/
def tailB (l : List Oper) (m n : Nat) : Bool :=
  decide (n < l.length) && l.all (fun o => o.guard.isNone) &&
  (List.range n).all (fun i => match l[i]? with
    | some o => o.after.all fun e => decide (e.on < i)
    | none => false) &&
  (List.range n).all (fun i => decide (i < m) || (List.range (n + 1)).any fun j => decide (i < j) && Region.waitsFor .any l.toArray j i) && Region.chainB .any l.toArray n &&
  Region.seqB .any l.toArray (l.length - n) n (List.replicate n true ++ List.replicate (l.length - n) false).toArray
def tailQ (T : Act → World → Prop) (Q : Exit → Act → World → Prop) : Exit → Act → World → Prop
  | .normal, a, w => T a w
  | e, a, w => Q e a w
theorem upon_post {o : Oper} {a : Act} {K K' : Act → World → Prop} {Q Q' : Exit → Act → World → Prop} (hK : ∀ a w, K a w → K' a w) (hp : ∀ c a w, Q (.panic c) a w → Q' (.panic c) a w) (ho : LetsOut Q → LetsOut Q') {r : Result Next} (h : o.upon P a K Q r) : o.upon P a K' Q' r := by
  cases r with
  | ok nx w' =>
    cases nx with
    | value v => exact hK _ _ h
    | skip => exact hK _ _ h
    | defer d => exact hK _ _ h
    | enter f args =>
      refine Calls.mono (show Calls P f args w' _ from h) fun e w'' he => ?_
      cases e with
      | returned v => exact hK _ _ he
      | panicked c => exact hp _ _ _ he
      | outgrown => exact ho he
    | row rw args => exact Rows.mono (show Rows P rw args w' _ from h) fun v w'' hv => hK _ _ hv
    | _ => exact (h : False).elim
  | halt x w' =>
    cases x with
    | panic v => exact hp _ _ _ h
    | _ => exact (h : False).elim
theorem mem_ready {ops : Array Oper} {listed : Array Bool} {i : Nat} : i ∈ Region.ready .any ops listed ↔ i < ops.size ∧ listed.getD i true = false ∧ ((ops[i]?).map (·.after.all fun e => !Region.binds .any e || listed.getD e.on false)).getD false = true := by
  simp [Region.ready]
theorem getD_app (L : List Bool) (m i : Nat) (d : Bool) (hi : i < L.length) : (L ++ List.replicate m false).toArray.getD i d = L.toArray.getD i d := by
  simp [Array.getD, hi, Nat.lt_add_right m hi, List.getElem_append_left]
theorem getD_tail (L : List Bool) (m i : Nat) (hi : L.length ≤ i) : (L ++ List.replicate m false).toArray.getD i false = false := by
  by_cases h : i < L.length + m
  · simp [Array.getD, h, List.getElem_append_right hi]
  · simp [Array.getD, h]
theorem set_app (L : List Bool) (m i : Nat) (hi : i < L.length) : (L ++ List.replicate m false).toArray.setIfInBounds i true = (L.set i true ++ List.replicate m false).toArray := by
  simp [List.set_append_left _ _ hi]
/-- The first that is not yet listed. -/
theorem first_false : ∀ (L : List Bool), L.count false ≠ 0 → ∃ i, i < L.length ∧ L.toArray.getD i true = false ∧ ∀ j, j < i → L.toArray.getD j false = true
  | [], h => by simp at h
  | false :: L, _ => ⟨0, by simp, by simp [Array.getD], fun j hj => by omega⟩
  | true :: L, h => by
    obtain ⟨i, h1, h2, h3⟩ := first_false L (by simpa using h)
    refine ⟨i + 1, by simpa using h1, ?_, ?_⟩
    · simpa [Array.getD] using h2
    · intro j hj
      cases j with
      | zero => simp [Array.getD]
      | succ j => have := h3 j (by omega); simpa [Array.getD] using this
theorem count_set : ∀ (L : List Bool) (i : Nat), i < L.length → L.toArray.getD i true = false → (L.set i true).count false + 1 = L.count false
  | [], _, h, _ => by simp at h
  | b :: L, 0, _, h => by
    have : b = false := by simpa [Array.getD] using h
    subst this
    simp
  | b :: L, i + 1, hi, h => by
    have := count_set L i (by simpa using hi) (by simpa [Array.getD] using h)
    cases b <;> simp <;> omega
theorem all_true : ∀ (L : List Bool), L.count false = 0 → L = List.replicate L.length true
  | [], _ => rfl
  | true :: L, h => by
    have := all_true L (by simpa using h)
    rw [List.length_cons, List.replicate_succ, ← this]
  | false :: L, h => by simp at h
/-- What is done lies behind what it waited for. -/
def shutL (l : List Oper) (m : Nat) (L : List Bool) : Prop := (∀ i, i < m → L.toArray.getD i true = true) ∧ ∀ j oj, j < L.length → l[j]? = some oj → L.toArray.getD j false = true → ∀ e ∈ oj.after, Region.binds .any e = true → L.toArray.getD e.on false = true
theorem getD_same (L : List Bool) (i : Nat) (hi : i < L.length) : L.toArray.getD i false = L.toArray.getD i true := by simp [Array.getD, hi]
theorem getD_setT (L : List Bool) (i j : Nat) (d : Bool) : (L.set i true).toArray.getD j d = if j = i ∧ i < L.length then true else L.toArray.getD j d := by
  by_cases h : j < L.length
  · simp only [Array.getD, List.size_toArray, List.length_set, h, dif_pos, Array.getInternal_eq_getElem, List.getElem_toArray, List.getElem_set]
    by_cases e : i = j
    · subst e; simp [h]
    · simp [e, Ne.symm e]
  · have : ¬ (j = i ∧ i < L.length) := by omega
    simp [Array.getD, h, this]
theorem n_waits {l : List Oper} {m n : Nat} {L : List Bool} (hs : ∀ i, i < n → m ≤ i → ∃ j, i < j ∧ j ≤ n ∧ Region.waitsFor .any l.toArray j i = true) (hL : L.length = n) (hc : shutL l m L) (R : List Bool) (hR : ∀ k, k < n → R.toArray.getD k false = L.toArray.getD k false) (oj : Oper) (hoj : l.toArray[n]? = some oj)
    (hall : (oj.after.all fun e => !Region.binds .any e || R.toArray.getD e.on false) = true) : ∀ d i, n - i = d → i < n → L.toArray.getD i true = false → False := by
  intro d
  induction d using Nat.strongRecOn with
  | _ d ih =>
    intro i hd hi hu
    have him : m ≤ i := by
      apply Nat.le_of_not_lt
      intro h
      rw [hc.1 i h] at hu; cases hu
    obtain ⟨j, h1, h2, h3⟩ := hs i hi him
    obtain ⟨o, ho, e, he, hb, hon⟩ := Region.waitsFor_spec h3
    have hui : L.toArray.getD i false = false := by rw [getD_same L i (by omega)]; exact hu
    by_cases hjn : j = n
    · subst hjn
      rw [hoj] at ho
      cases ho
      rw [Array.all_eq_true_iff_forall_mem] at hall
      have := hall e he
      rw [hb, hon, hR i hi, hui] at this
      simp at this
    · have hjn' : j < n := by omega
      cases hl : L.toArray.getD j false with
      | true =>
        have := hc.2 j o (by omega) (by simpa using ho) hl e he hb
        rw [hon, hui] at this; cases this
      | false => exact ih (n - j) (by omega) j rfl hjn' (by rw [← getD_same L j (by omega)]; exact hl)
theorem tail_aux {l : List Oper} {m n : Nat} {Q : Exit → Act → World → Prop} (hB : tailB l m n = true) : ∀ (k : Nat) (L : List Bool) (a : Act) (w : World), L.length = n → L.count false = k → shutL l m L →
    wpAny P .any (l.take n).toArray (tailQ (wpList P l.toArray Q (l.drop n)) Q) k L.toArray a w → wpAny P .any l.toArray Q (k + (l.length - n)) (L ++ List.replicate (l.length - n) false).toArray a w
  | 0, L, a, w, hL, hk, _, h => by
    simp only [tailB, Bool.and_eq_true, decide_eq_true_eq] at hB
    obtain ⟨⟨⟨⟨⟨hn, _⟩, _⟩, _⟩, _⟩, hs⟩ := hB
    have e := all_true L hk
    rw [hL] at e
    subst e
    have := wpAny_of_seq (P := P) (md := .any) (ops := l.toArray) (Q' := Q) (l.drop n) n (List.replicate n true ++ List.replicate (l.length - n) false).toArray a w (fun j => by simp [List.getElem?_drop]) (by simpa using hs) h.2
    rw [List.length_drop] at this
    rw [Nat.zero_add]
    exact this
  | k + 1, L, a, w, hL, hk, hc, h => by
    have hB' := hB
    simp only [tailB, Bool.and_eq_true, decide_eq_true_eq] at hB'
    obtain ⟨⟨⟨⟨⟨hn, hgd⟩, hlex⟩, hall⟩, hch⟩, hs⟩ := hB'
    have hop : ∀ i, i < n → (l.take n).toArray[i]? = l.toArray[i]? := fun i hi => by simp [hi]
    obtain ⟨i0, hi0, hu0, hf0⟩ := first_false L (by omega)
    rw [hL] at hi0
    -- what is ready of the whole is ready of the head
    have hr : ∀ i, i ∈ Region.ready .any l.toArray (L ++ List.replicate (l.length - n) false).toArray → i < n ∧ i ∈ Region.ready .any (l.take n).toArray L.toArray := by
      intro i hi
      rw [mem_ready] at hi
      obtain ⟨h1, h2, h3⟩ := hi
      have hin : i < n := by
        rcases Nat.lt_trichotomy i n with hin | hin | hin
        · exact hin
        · subst hin
          exfalso
          have hin2 : i < l.toArray.size := by simpa using h1
          obtain ⟨oj, hoj⟩ : ∃ oj, l.toArray[i]? = some oj := ⟨_, Array.getElem?_eq_getElem hin2⟩
          rw [hoj] at h3
          simp only [Option.map_some, Option.getD_some] at h3
          refine n_waits (m := m) (fun q hq hmq => ?_) hL hc (L ++ List.replicate (l.length - i) false) (fun q hq => getD_app L _ q false (by omega)) oj hoj h3 (i - i0) i0 rfl hi0 hu0
          have := (List.all_eq_true.1 hall) q (by simpa using hq)
          simp only [Bool.or_eq_true, decide_eq_true_eq, List.any_eq_true, List.mem_range, Bool.and_eq_true] at this
          rcases this with h | ⟨j, hj, hj1, hj2⟩
          · omega
          · exact ⟨j, hj1, by omega, hj2⟩
        · have := (List.all_eq_true.1 hch) i (by simpa using h1)
          simp only [Bool.or_eq_true, decide_eq_true_eq] at this
          rcases this with h | h
          · omega
          obtain ⟨oj, hoj, e, he, hb, hon⟩ := Region.waitsFor_spec h
          rw [hoj] at h3
          simp only [Option.map_some, Option.getD_some, Array.all_eq_true_iff_forall_mem] at h3
          have := h3 e he
          rw [hb, hon, getD_tail L _ (i - 1) (by omega)] at this
          simp at this
      refine ⟨hin, ?_⟩
      rw [mem_ready, hop i hin]
      refine ⟨by simp; omega, by rw [← getD_app L (l.length - n) i true (by omega)]; exact h2, ?_⟩
      have hlx := (List.all_eq_true.1 hlex) i (by simpa using hin)
      cases ho : l[i]? with
      | none => simp [ho] at hlx
      | some o =>
        rw [ho] at hlx
        have ho' : l.toArray[i]? = some o := by simpa using ho
        rw [ho'] at h3 ⊢
        simp only [Option.map_some, Option.getD_some, Array.all_eq_true_iff_forall_mem] at h3 hlx ⊢
        intro e he
        have hlt := hlx e he
        simp only [decide_eq_true_eq] at hlt
        rw [← getD_app L (l.length - n) e.on false (by omega)]
        exact h3 e he
    have hr' : i0 ∈ Region.ready .any l.toArray (L ++ List.replicate (l.length - n) false).toArray := by
      rw [mem_ready]
      refine ⟨by simp; omega, by rw [getD_app L _ i0 true (by omega)]; exact hu0, ?_⟩
      have hlx := (List.all_eq_true.1 hlex) i0 (by simpa using hi0)
      cases ho : l[i0]? with
      | none => simp [ho] at hlx
      | some o =>
        rw [ho] at hlx
        have ho' : l.toArray[i0]? = some o := by simpa using ho
        rw [ho']
        simp only [Option.map_some, Option.getD_some, Array.all_eq_true_iff_forall_mem] at hlx ⊢
        intro e he
        have hlt := hlx e he
        simp only [decide_eq_true_eq] at hlt
        rw [getD_app L _ e.on false (by omega), hf0 e.on hlt]
        simp
    rw [show k + 1 + (l.length - n) = (k + (l.length - n)) + 1 by omega]
    refine ⟨fun h0 => (by rw [h0] at hr'; cases hr'), fun i hi => ?_⟩
    obtain ⟨hin, hi'⟩ := hr i hi
    have hw := h.2 i hi'
    have hset : L.toArray.setIfInBounds i true = (L.set i true).toArray := by simp
    rw [set_app L _ i (by omega)]
    rw [hset] at hw
    have hui : L.toArray.getD i true = false := (mem_ready.1 hi').2.1
    have ih : ∀ a' w', wpAny P .any (l.take n).toArray (tailQ (wpList P l.toArray Q (l.drop n)) Q) k (L.set i true).toArray a' w' → wpAny P .any l.toArray Q (k + (l.length - n)) (L.set i true ++ List.replicate (l.length - n) false).toArray a' w' := fun a' w' h' =>
      tail_aux hB k (L.set i true) a' w' (by simpa using hL) (by have := count_set L i (by omega) hui; omega) ⟨fun q hq => by rw [getD_setT]; split <;> first | rfl | exact hc.1 q hq, fun j oj hj hoj hl e he hb => by
        rw [getD_setT] at hl ⊢
        rw [List.length_set] at hj
        split
        · rfl
        · split at hl
          · rename_i hji
            obtain ⟨rfl, _⟩ := hji
            have h3 := (mem_ready.1 hi').2.2
            rw [hop j hin, show l.toArray[j]? = some oj by simpa using hoj] at h3
            simp only [Option.map_some, Option.getD_some, Array.all_eq_true_iff_forall_mem] at h3
            have := h3 e he
            rw [hb] at this
            simpa using this
          · exact hc.2 j oj hj hoj hl e he hb⟩ h'
    unfold wpOp at hw ⊢
    rw [hop i hin] at hw
    cases ho : l.toArray[i]? with
    | none => rw [ho] at hw; exact ih _ _ hw
    | some o =>
      rw [ho] at hw
      have hog : o.guard = none := by
        have : o ∈ l := by
          have : l[i]? = some o := by simpa using ho
          exact List.mem_of_getElem? this
        simpa using (List.all_eq_true.1 hgd) o this
      have hwt : ∀ y, Region.wanted o y = true := fun y => by simp [Region.wanted, hog]
      simp only [hwt, if_true] at hw ⊢
      rcases hw with hw | ⟨h1, h2⟩
      · exact .inl (upon_post ih (fun c a w h => h) (fun ⟨a, w, h⟩ => ⟨a, w, h⟩) hw)
      · exact .inr ⟨h1, by obtain ⟨a, w, h⟩ := h2; exact ⟨a, w, h⟩⟩
theorem shut_start (l : List Oper) (m n : Nat) (hl : ∀ j oj, j < m → l[j]? = some oj → oj.after = #[]) : shutL l m (List.replicate m true ++ List.replicate (n - m) false) := by
  constructor
  · intro i hi
    simp [Array.getD, hi, show i < m + (n - m) by omega, List.getElem_append_left]
  · intro j oj hj hoj ht e he
    by_cases h : j < m
    · rw [hl j oj h hoj] at he; simp at he
    · rw [getD_tail _ _ j (by simp; omega)] at ht; cases ht
/-- m moves are done; then what only reads, in the order of the text; then the end of the chain. -/
theorem wpAny_still_tail {l : List Oper} (m n : Nat) {Q : Exit → Act → World → Prop} {a : Act} {w : World} (hB : tailB l m n = true) (hmn : m ≤ n) (hz : (l.take m).all (fun o => o.after.isEmpty) = true) (hs : Region.noSelect (l.take n).toArray = true)
    (hx : Region.lexFrom .any (l.take n).toArray (n - m) m (List.replicate m true ++ List.replicate (n - m) false).toArray = true)
    (h : wpStill P (l.take n).toArray w (fun a' => wpList P l.toArray Q (l.drop n) a' w) ((l.take n).drop m) a) :
    wpAny P .any l.toArray Q (l.length - m) (List.replicate m true ++ List.replicate (l.length - m) false).toArray a w := by
  have hB' := hB
  simp only [tailB, Bool.and_eq_true, decide_eq_true_eq] at hB'
  have hn := hB'.1.1.1.1.1
  have hd : ((l.take n).drop m).length = n - m := by simp; omega
  have h1 := wpAnyS_lex (P := P) (md := .any) (w := w) (Q := fun a' => wpList P l.toArray Q (l.drop n) a' w) hs ((l.take n).drop m) m (List.replicate m true ++ List.replicate (n - m) false).toArray a (fun j => by simp [List.getElem?_drop]) (by rw [hd]; exact hx) h
  rw [hd] at h1
  have h2 := wpAny_of_still (Q' := tailQ (wpList P l.toArray Q (l.drop n)) Q) (fun _ h => h) _ _ _ h1
  have h3 := tail_aux hB (n - m) (List.replicate m true ++ List.replicate (n - m) false) a w (by simp; omega) (by simp [List.count_replicate]) (shut_start l m n (fun j oj hj hoj => by
    have : oj ∈ l.take m := List.mem_of_getElem? (i := j) (by simp [hj, hoj])
    have := (List.all_eq_true.1 hz) oj this
    simpa using this)) h2
  rw [show n - m + (l.length - n) = l.length - m by omega, List.append_assoc, List.replicate_append_replicate, show n - m + (l.length - n) = l.length - m by omega] at h3
  exact h3
/-- A region of m moves, of reads, and of a chain at its end. -/
theorem wp_moves_reads_tail0 {id : Nat} {l : List Oper} (n : Nat) {Q : Exit → Act → World → Prop} {a : Act} {w : World} (hm : P.follows .mixedOrders = true) (hB : tailB l 0 n = true) (hs : Region.noSelect (l.take n).toArray = true)
    (hx : Region.lexFrom .any (l.take n).toArray n 0 (List.replicate n false).toArray = true)
    (h : wpStill P (l.take n).toArray w.drew (fun a' => wpList P l.toArray Q (l.drop n) a' w.drew) (l.take n) a) : (Code.region id l.toArray true).wp P Q a w := by
  refine wp_region_any hm ?_
  have := wpAny_still_tail (P := P) (l := l) 0 n (Q := Q) (a := a) (w := w.drew) hB (Nat.zero_le _) (by simp) hs (by simpa using hx) (by simpa using h)
  simpa using this
/-- A region whose first operation is a move, then reads, then a chain. -/
theorem wp_move_reads_tail {id : Nat} {l : List Oper} (n : Nat) {Q : Exit → Act → World → Prop} {a : Act} {w : World} (o0 : Oper) (x : Operand) (h0 : l.toArray[0]? = some o0) (ho : o0.op = .move x) (hg : o0.guard = none) (hm : P.follows .mixedOrders = true) (hB : tailB l 1 n = true) (hn : 1 ≤ n)
    (hs0 : Region.noSelect l.toArray = true) (hf : Region.free .any l.toArray (Array.replicate l.toArray.size false) 0 = true) (hr : (Region.ready .any l.toArray (Array.replicate l.toArray.size false)).contains 0 = true)
    (hz : (l.take 1).all (fun o => o.after.isEmpty) = true) (hs : Region.noSelect (l.take n).toArray = true) (hx : Region.lexFrom .any (l.take n).toArray (n - 1) 1 (List.replicate 1 true ++ List.replicate (n - 1) false).toArray = true)
    (hQ : ∀ c a w v, Q (.panic c) (a.put o0.dst v) w → Q (.panic c) a w)
    (h : wpStill P (l.take n).toArray w.drew (fun a' => wpList P l.toArray Q (l.drop n) a' w.drew) ((l.take n).drop 1) (a.put o0.dst (a.eval x))) : (Code.region id l.toArray true).wp P Q a w := by
  refine wp_region_any hm ?_
  have hB' := hB
  simp only [tailB, Bool.and_eq_true, decide_eq_true_eq] at hB'
  have hn' := hB'.1.1.1.1.1
  have h1 := wpAny_still_tail (P := P) (l := l) 1 n (Q := Q) (a := a.put o0.dst (a.eval x)) (w := w.drew) hB hn hz hs hx h
  obtain ⟨o, l', rfl⟩ : ∃ o l', l = o :: l' := by
    cases l with
    | nil => simp at hn'
    | cons o l' => exact ⟨o, l', rfl⟩
  have hsz : (o :: l').toArray.size = l'.length + 1 := by simp
  rw [hsz] at hf hr ⊢
  refine wpAny_take (i := 0) (v := a.eval x) h0 hs0 hf hr (fun c a' w' => hQ c a' w' _) (Or.inl ⟨by simp [Region.wanted, hg], fun w' => by simp [execOp, ho]⟩) ?_
  have e : (Array.replicate (l'.length + 1) false).setIfInBounds 0 true = (List.replicate 1 true ++ List.replicate l'.length false).toArray := by
    simp [← List.toArray_replicate, List.replicate_succ]
  rw [e]
  simpa using h1
def wpHeld (P : Program) (ops : Array Oper) (S : World → Prop) (Q : Act → Prop) : List Oper → Act → Prop
  | [], a => Q a
  | o :: rest, a => ∃ v, YieldsIf P ops S o v a ∧ wpHeld P ops S Q rest (a.put o.dst v)
def heldB (ops : Array Oper) : Nat → Nat → Array Bool → Bool
  | 0, k, listed => decide (Region.ready .any ops listed = [k]) && decide (Region.ready .any ops (listed.setIfInBounds k true) = [])
  | f + 1, k, listed => (Region.ready .any ops listed).contains k && Region.free .any ops listed k && heldB ops f (k + 1) (listed.setIfInBounds k true)
def heldP (ops : Array Oper) : Nat → Nat → Array Bool → Bool
  | 0, _, _ => true
  | f + 1, k, listed => (Region.ready .any ops listed).contains k && Region.free .any ops listed k && heldP ops f (k + 1) (listed.setIfInBounds k true)
theorem held_pre {ops : Array Oper} {S : World → Prop} {Q : Exit → Act → World → Prop} {w : World} (hs : Region.noSelect ops = true) (hQ : ∀ (o : Oper) (v : Value) c a w, Q (.panic c) (a.put o.dst v) w → Q (.panic c) a w) (hS : S w) (fuel : Nat) : ∀ (r : List Oper) (L : List Bool) (m : Nat) (a : Act), (∀ j, j < r.length → r[j]? = ops[L.length + j]?) → heldP ops r.length L.length (L ++ List.replicate (r.length + m) false).toArray = true →
    wpHeld P ops S (fun a' => wpAnyH P .any ops Q S fuel (L ++ (List.replicate r.length true ++ List.replicate m false)).toArray a' w) r a → wpAnyH P .any ops Q S (r.length + fuel) (L ++ List.replicate (r.length + m) false).toArray a w
  | [], L, m, a, _, _, h => by simpa [wpHeld] using h
  | o :: r, L, m, a, hl, hB, h => by
    simp only [List.length_cons, heldP, Bool.and_eq_true] at hB
    obtain ⟨v, hy, h'⟩ := h
    have h0 : ops[L.length]? = some o := by simpa using (hl 0 (by simp)).symm
    have e : (L ++ List.replicate (r.length + 1 + m) false).toArray.setIfInBounds L.length true = ((L ++ [true]) ++ List.replicate (r.length + m) false).toArray := by
      rw [show r.length + 1 + m = (r.length + m) + 1 by omega, List.replicate_succ]
      simp [List.set_append_right]
    rw [List.length_cons, show r.length + 1 + fuel = (r.length + fuel) + 1 by omega]
    refine wpAnyH_take h0 hs hB.1.2 hB.1.1 (hQ o v) hy hS ?_
    have hB2 := hB.2
    rw [e] at hB2 ⊢
    refine held_pre hs hQ hS fuel r (L ++ [true]) m _ (fun j hj => by have := hl (j + 1) (by simp; omega); simpa [Nat.add_assoc, Nat.add_comm 1 j] using this) (by simpa using hB2) ?_
    have e2 : L ++ [true] ++ (List.replicate r.length true ++ List.replicate m false) = L ++ (List.replicate (r.length + 1) true ++ List.replicate m false) := by simp [List.replicate_succ]
    rw [e2]
    exact h'
/-- Reads that hold wherever they come; the rest, whichever comes up. -/
theorem wp_held_reads {id : Nat} {l : List Oper} (n : Nat) {Q : Exit → Act → World → Prop} {a : Act} {w : World} (S : World → Prop) (hm : P.follows .mixedOrders = true) (hn : n ≤ l.length) (hs : Region.noSelect l.toArray = true)
    (hb : heldP l.toArray n 0 (List.replicate l.length false).toArray = true) (hQ : ∀ (o : Oper) (v : Value) c a w, Q (.panic c) (a.put o.dst v) w → Q (.panic c) a w) (hS : S w.drew)
    (h : wpHeld P l.toArray S (fun a' => wpAnyH P .any l.toArray Q S (l.length - n) (List.replicate n true ++ List.replicate (l.length - n) false).toArray a' w.drew) (l.take n) a) : (Code.region id l.toArray true).wp P Q a w := by
  refine wp_region_any hm (wpAny_of_held (S := S) _ _ _ _ ?_)
  have hd : (l.take n).length = n := by simp; omega
  have h1 := held_pre (P := P) (ops := l.toArray) (S := S) (Q := Q) (w := w.drew) hs hQ hS (l.length - n) (l.take n) [] (l.length - n) a (fun j hj => by rw [hd] at hj; simp [hj]) (by rw [hd]; simpa [show n + (l.length - n) = l.length by omega] using hb) (by rw [hd]; simpa using h)
  rw [hd] at h1
  simpa [show n + (l.length - n) = l.length by omega] using h1
/-- Reads that hold wherever they come, then some more; behind all of them a chain. -/
theorem wp_held_tail {id : Nat} {l : List Oper} (R n : Nat) {Q : Exit → Act → World → Prop} {a : Act} {w : World} (S : World → Prop) (hm : P.follows .mixedOrders = true) (hR : R ≤ n) (hB : tailB l 0 n = true) (hs : Region.noSelect (l.take n).toArray = true)
    (hb : heldP (l.take n).toArray R 0 (List.replicate n false).toArray = true) (hQ : ∀ (o : Oper) (v : Value) c a w, Q (.panic c) (a.put o.dst v) w → Q (.panic c) a w) (hS : S w.drew)
    (h : wpHeld P (l.take n).toArray S (fun a' => wpAnyH P .any (l.take n).toArray (tailQ (wpList P l.toArray Q (l.drop n)) Q) S (n - R) (List.replicate R true ++ List.replicate (n - R) false).toArray a' w.drew) (l.take R) a) : (Code.region id l.toArray true).wp P Q a w := by
  refine wp_region_any hm ?_
  have hB' := hB
  simp only [tailB, Bool.and_eq_true, decide_eq_true_eq] at hB'
  have hn := hB'.1.1.1.1.1
  have hd : (l.take R).length = R := by simp; omega
  have h1 := held_pre (P := P) (ops := (l.take n).toArray) (S := S) (Q := tailQ (wpList P l.toArray Q (l.drop n)) Q) (w := w.drew) hs (fun o v c a w h => hQ o v c a w h) hS (n - R) (l.take R) [] (n - R) a (fun j hj => by rw [hd] at hj; simp [hj, show j < n by omega]) (by rw [hd]; simpa [show R + (n - R) = n by omega] using hb) (by rw [hd]; simpa using h)
  rw [hd] at h1
  have h1' : wpAnyH P .any (l.take n).toArray (tailQ (wpList P l.toArray Q (l.drop n)) Q) S n (List.replicate n false).toArray a w.drew := by simpa [show R + (n - R) = n by omega] using h1
  have h2 := tail_aux hB n (List.replicate n false) a w.drew (by simp) (by simp) (by simpa using shut_start l 0 n (by simp)) (wpAny_of_held _ _ _ _ h1')
  rw [List.replicate_append_replicate, show n + (l.length - n) = l.length by omega] at h2
  simpa using h2
theorem wpOp_of_list {ops : Array Oper} {Q : Exit → Act → World → Prop} {K : Act → World → Prop} {i : Nat} {a : Act} {w : World} (o : Oper) (ho : ops[i]? = some o) (hg : o.guard = none) (h : wpList P ops (tailQ K Q) [o] a w) : wpOp P ops Q i K a w := by
  unfold wpOp
  simp only [ho]
  have hwt : ∀ y, Region.wanted o y = true := fun y => by simp [Region.wanted, hg]
  simp only [wpList, hwt, if_true] at h ⊢
  rcases h with h' | ⟨h1, h2⟩
  · exact .inl (upon_post (fun a w h => h) (fun c a w h => h) (fun ⟨a, w, h⟩ => ⟨a, w, h⟩) h')
  · exact .inr ⟨h1, by obtain ⟨a, w, h⟩ := h2; exact ⟨a, w, h⟩⟩
theorem wpHeld_op {ops : Array Oper} {S : World → Prop} {Q : Act → Prop} {o : Oper} {rest : List Oper} {a : Act} (v : Value) (hg : o.guard = none) (hy : ∀ w, S w → (execOp a.eval o).run P w = .ok (.value v) w) (h : wpHeld P ops S Q rest (a.put o.dst v)) : wpHeld P ops S Q (o :: rest) a :=
  ⟨v, .inl ⟨by simp [Region.wanted, hg], hy⟩, h⟩
theorem wpHeld_load_mid {ops : Array Oper} {S : World → Prop} {Q : Act → Prop} {o : Oper} {rest : List Oper} {a : Act} (hgd : o.guard = none) (ty : TypeId) (x : Operand) (ho : o.op = .load ty x) (b off : Nat) (hx : a.eval x = .pointer (some ⟨b, off, none⟩)) (cs : List Value) (d : TypeDesc) (hc : ∀ w, S w → w.rangeAt b off cs)
    (hu : P.underlying ty = some d) (hd : d.isRow = true) (hi : (P.info? ty).map (·.size) = some cs.length) (h : wpHeld P ops S Q rest (a.put o.dst (.agg cs.toArray))) : wpHeld P ops S Q (o :: rest) a :=
  wpHeld_op _ hgd (fun w hw => by
    unfold execOp
    simp only [ho, hx, Instr.loadAt, Instr.sureAddr, Sem.run_bind, Sem.run_pure, Result.andThen_ok, run_loadVar_mid w b off ty cs d (hc w hw) hu hd hi]) h
theorem wpStill_load_mid {ops : Array Oper} {o : Oper} {rest : List Oper} {a : Act} {w : World} {Q : Act → Prop} (hgd : o.guard = none) (ty : TypeId) (x : Operand) (ho : o.op = .load ty x) (b off : Nat) (hx : a.eval x = .pointer (some ⟨b, off, none⟩)) (cs : List Value) (d : TypeDesc) (hc : w.rangeAt b off cs)
    (hu : P.underlying ty = some d) (hd : d.isRow = true) (hi : (P.info? ty).map (·.size) = some cs.length) (h : wpStill P ops w Q rest (a.put o.dst (.agg cs.toArray))) : wpStill P ops w Q (o :: rest) a := by
  unfold wpStill
  rw [if_pos (by simp [Region.wanted, hgd])]
  unfold Oper.still execOp
  simp only [ho, hx, Instr.loadAt, Instr.sureAddr, Sem.run_bind, Sem.run_pure, Result.andThen_ok, run_loadVar_mid w b off ty cs d hc hu hd hi, Oper.stillUpon_value]
  exact h
end
end Go.Proofs.YtandblanpafjoaaGreatDoor

namespace Go.Proofs.YtandblanpafjoaaGreatDoor
open Go.RowKit
def SrcAt (w : World) (ao : Option Addr) (l : List Int) : Prop :=
  (ao = none ∧ l = []) ∨ ∃ b o, ao = some ⟨b, o, none⟩ ∧ b < w.heap.size ∧ ∀ j, j < l.length → w.cell? ⟨b, o + j, none⟩ = some (.int .u8 (l.getD j 0))
theorem SrcAt.below {B : Nat} {w w' : World} {ao : Option Addr} {l : List Int} (h : SrcAt w ao l) (hB : w.heap.size ≤ B) (hb : Below B w w') : SrcAt w' ao l := by
  rcases h with h | ⟨b, o, h1, h2, h3⟩
  · exact .inl h
  · exact .inr ⟨b, o, h1, Nat.lt_of_lt_of_le h2 hb.size, fun j hj => by rw [hb.cell (p := ⟨b, o + j, none⟩) (Nat.lt_of_lt_of_le h2 hB)]; exact h3 j hj⟩
theorem SrcAt.alloc {w : World} {ao : Option Addr} {l : List Int} (h : SrcAt w ao l) (x : Obj) : SrcAt (w.alloc x) ao l :=
  h.below (Nat.le_refl _) ((Below.refl _ _).alloc (Nat.le_refl _) _)
theorem SrcAt.grown {w w' : World} {ao : Option Addr} {l : List Int} {g : Nat} (h : SrcAt w ao l) (hg : w.grownBy w' (some g)) (hne : ∀ b, ao.map (·.block) = some b → b ≠ g) : SrcAt w' ao l := by
  rcases h with h | ⟨b, o, h1, h2, h3⟩
  · exact .inl h
  · refine .inr ⟨b, o, h1, Nat.lt_of_lt_of_le h2 hg.size, fun j hj => ?_⟩
    rw [World.cell?_of_block (hg.block b h2 (fun e => hne b (by rw [h1]; rfl) (by injection e)))]; exact h3 j hj
theorem SrcAt.lt {w : World} {ao : Option Addr} {l : List Int} (h : SrcAt w ao l) : ∀ b, ao.map (·.block) = some b → b < w.heap.size := by
  rcases h with ⟨rfl, _⟩ | ⟨b, o, rfl, h2, _⟩
  · intro b hb; simp at hb
  · intro b' hb; simp at hb; omega
theorem src_new1 (W : World) (x : Int) (t : TypeId) (g : Nat) (hg : W.heap.size = g) : SrcAt (W.alloc (.cells #[.int .u8 x] t)) (some ⟨g, 0, none⟩) [x] := by
  subst hg
  refine .inr ⟨W.heap.size, 0, rfl, by simp, fun j hj => ?_⟩
  obtain rfl : j = 0 := by simpa using hj
  rw [World.cell?_alloc_new]; rfl
theorem src_new2 (W : World) (x y : Int) (t : TypeId) (g : Nat) (hg : W.heap.size = g) : SrcAt (W.alloc (.cells #[.int .u8 x, .int .u8 y] t)) (some ⟨g, 0, none⟩) [x, y] := by
  subst hg
  refine .inr ⟨W.heap.size, 0, rfl, by simp, fun j hj => ?_⟩
  match j, hj with
  | 0, _ => rw [World.cell?_alloc_new]; rfl
  | 1, _ => rw [World.cell?_alloc_new]; rfl
  | n + 2, h => exact absurd h (by simp)
theorem SrcAt.mid {w : World} {b o : Nat} {l : List Int} {a n : Nat} (h : ∀ j, j < l.length → w.cell? ⟨b, o + j, none⟩ = some (.int .u8 (l.getD j 0))) (hb : b < w.heap.size) (hn : a + n ≤ l.length) : SrcAt w (some ⟨b, o + a, none⟩) ((l.drop a).take n) := by
  refine .inr ⟨b, o + a, rfl, hb, fun j hj => ?_⟩
  have hj' : j < n := by simp at hj; omega
  rw [Nat.add_assoc, h (a + j) (by omega)]
  rw [List.getD_eq_getElem?_getD, List.getD_eq_getElem?_getD, List.getElem?_take, if_pos hj', List.getElem?_drop]
section
variable {P : Program}
theorem wpList_append_fits {w : World} {ops : Array Oper} {rest : List Oper} {o : Oper} {a : Act} {Q : Exit → Act → World → Prop}
    (hgd : o.guard = none) (s x : Operand) (t : TypeId) (hop : o.op = Op.call { callee := Callee.builtin Builtin.append, args := #[s, x], argTypes := #[t, t] })
    (base : Nat) (e : TypeId) (i : TypeInfo) (h1 : P.underlying t = some (.slice e)) (h2 : P.info? e = some i) (h4 : i.size = 1)
    (g n cap : Nat) (xs : List Value) (hs : a.eval s = .slice (some ⟨g, 0, none⟩) n cap) (hown : w.ownsRow base e 1 (.slice (some ⟨g, 0, none⟩) n cap) n xs)
    (ao : Option Addr) (m c : Nat) (l : List Int) (hx : a.eval x = .slice ao m c) (hc0 : ao = none → c = 0) (hm : l.length = m) (hsrc : SrcAt w ao l) (hroom : n + m ≤ cap)
    (hK : ∀ w', w'.ownsRow base e 1 (.slice (some ⟨g, 0, none⟩) (n + m) cap) (n + m) (xs ++ l.map (Value.int .u8)) → w.grownBy w' (some g) → wpList P ops Q rest (a.put o.dst (.slice (some ⟨g, 0, none⟩) (n + m) cap)) w') :
    wpList P ops Q (o :: rest) a w := by
  refine wpList_plain hgd fun K hK' => ?_
  subst hm
  rcases hsrc with ⟨rfl, rfl⟩ | ⟨b, of, rfl, hb, hcells⟩
  · obtain rfl := hc0 rfl
    have hrun := run_append_owned_none (P := P) w base t o.type e i 1 h1 h2 _ n xs hown
    have hk := hK w (by simpa using hown) ⟨rfl, rfl, rfl, Nat.le_refl _, fun _ _ _ => rfl⟩
    unfold Oper.wp
    simp only [List.length_nil] at hx
    simp [execOp, hop, resolve, invoke, builtin, hs, hx, hrun, Result.andThen]
    exact hK' _ _ (by simpa using hk)
  · obtain ⟨w', hrun, r1, r2⟩ := run_append_fits (P := P) w base t o.type e i 1 h1 h2 h4 g n cap xs hown ⟨b, of, none⟩ l.length c (l.map (Value.int .u8)) (by simp) (fun j u hu => by
      rw [List.getElem?_map] at hu
      have hj : j < l.length := by
        rcases Nat.lt_or_ge j l.length with h | h
        · exact h
        · rw [List.getElem?_eq_none h] at hu; cases hu
      have := hcells j hj
      rw [List.getElem?_eq_getElem hj] at hu
      rw [Addr.add_lit, this, List.getD_eq_getElem?_getD, List.getElem?_eq_getElem hj]
      simpa using hu) (nums_ones _ _) hroom
    unfold Oper.wp
    simp [execOp, hop, resolve, invoke, builtin, hs, hx, hrun, Result.andThen]
    exact hK' _ _ (hK w' r1 r2)
/-- Appended to a row of the call's own, with room or without. -/
theorem wpList_append_src {w : World} {ops : Array Oper} {rest : List Oper} {o : Oper} {a : Act} {Q : Exit → Act → World → Prop}
    (hgd : o.guard = none) (s x : Operand) (t : TypeId) (hop : o.op = Op.call { callee := Callee.builtin Builtin.append, args := #[s, x], argTypes := #[t, t] })
    (base : Nat) (e : TypeId) (i : TypeInfo) (z : Value) (h1 : P.underlying t = some (.slice e)) (h2 : P.info? e = some i) (h3 : i.zero = some z) (h4 : i.size = 1) (h5 : i.bytes = 1) (h6 : z.cells.size = 1)
    (v : Value) (n : Nat) (xs : List Value) (hs : a.eval s = v) (hown : w.ownsRow base e 1 v n xs)
    (ao : Option Addr) (m c : Nat) (l : List Int) (hx : a.eval x = .slice ao m c) (hc0 : ao = none → c = 0) (hm : l.length = m) (hsrc : SrcAt w ao l) (hle : n + m ≤ 1000000000) (hbase : base ≤ w.heap.size)
    (hK : ∀ v' w', w'.ownsRow base e 1 v' (n + m) (xs ++ l.map (Value.int .u8)) → w.grownBy w' v.ownBlock → (v' = .slice none 0 0 ↔ v = .slice none 0 0 ∧ m = 0) → wpList P ops Q rest (a.put o.dst v') w') :
    wpList P ops Q (o :: rest) a w := by
  refine wpList_plain hgd fun K hK' => ?_
  subst hm
  rcases hsrc with ⟨rfl, rfl⟩ | ⟨b, of, rfl, hb, hcells⟩
  · obtain rfl := hc0 rfl
    have hrun := run_append_owned_none (P := P) w base t o.type e i 1 h1 h2 v n xs hown
    have hk := hK v w (by simpa using hown) ⟨rfl, rfl, rfl, Nat.le_refl _, fun _ _ _ => rfl⟩ (by simp)
    unfold Oper.wp
    simp only [List.length_nil] at hx
    simp [execOp, hop, resolve, invoke, builtin, hs, hx, hrun, Result.andThen]
    exact hK' _ _ hk
  · obtain ⟨v', w', hrun, r1, r2, r3⟩ := run_append_own (P := P) w base t o.type e i z 1 1 h1 h2 h3 h4 h5 h6 (by decide) v n xs hown ⟨b, of, none⟩ l.length c (l.map (Value.int .u8)) (by simp) (fun j u hu => by
      rw [List.getElem?_map] at hu
      have hj : j < l.length := by
        rcases Nat.lt_or_ge j l.length with h | h
        · exact h
        · rw [List.getElem?_eq_none h] at hu; cases hu
      have := hcells j hj
      rw [List.getElem?_eq_getElem hj] at hu
      rw [Addr.add_lit, this, List.getD_eq_getElem?_getD, List.getElem?_eq_getElem hj]
      simpa using hu) (nums_ones _ _) (by unfold maxLen; omega) (by omega) hbase
    unfold Oper.wp
    simp [execOp, hop, resolve, invoke, builtin, hs, hx, hrun, Result.andThen]
    exact hK' _ _ (hK v' w' r1 r2 r3)
end
/-- A row of the call's own that is full is a block. -/
theorem own_blk {w : World} {base g n : Nat} {e : TypeId} {l : List Int} (h : w.ownsRow base e 1 (.slice (some ⟨g, 0, none⟩) n n) n (l.map (Value.int .u8))) : base ≤ g ∧ Blk w g (nums .u8 l) e := by
  rcases h.2 with ⟨h', _⟩ | ⟨g', cap', cur, h', hbg, hg, _, _, hcs, htake⟩
  · simp at h'
  · simp only [Value.slice.injEq, Option.some.injEq, Addr.mk.injEq, and_true, true_and] at h'
    obtain ⟨rfl, rfl⟩ := h'
    refine ⟨hbg, ?_⟩
    have : cur = nums .u8 l := by
      apply Array.ext'
      rw [List.take_of_length_le (by rw [Array.length_toList, hcs]; exact Nat.le_refl _)] at htake
      rw [htake]; simp [nums]
    unfold Blk
    rw [hg, this]
theorem own_num {w : World} {base g n cap : Nat} {e : TypeId} {l : List Int} (h : w.ownsRow base e 1 (.slice (some ⟨g, 0, none⟩) n cap) n (l.map (Value.int .u8))) (hl : l.length = n) (j : Nat) (hj : j < n) : w.cell? ⟨g, 0 + j, none⟩ = some (.int .u8 (l.getD j 0)) := by
  rw [Nat.zero_add, h.cellAt j (by omega), List.getElem?_map, List.getD_eq_getElem?_getD, List.getElem?_eq_getElem (show j < l.length by omega)]; rfl
def xstep (v x : Int) : Int := bits .xor .u8 v x
def xorL (l : List Int) : Int := l.foldl xstep 90
theorem xorL_snoc (l : List Int) (k : Nat) (h : k < l.length) : xorL (l.take (k + 1)) = xstep (xorL (l.take k)) l[k] := by
  unfold xorL
  rw [List.take_succ_eq_append_getElem h, List.foldl_append]; rfl
theorem xstep_range (v x : Int) : 0 ≤ xstep v x ∧ xstep v x ≤ 255 := by
  unfold xstep bits
  simp only [IntKind.wrap_u8]
  omega
theorem xorL_range (l : List Int) : 0 ≤ xorL l ∧ xorL l ≤ 255 := by
  unfold xorL
  rcases List.eq_nil_or_concat l with rfl | ⟨r, x, rfl⟩
  · decide
  · rw [List.concat_eq_append, List.foldl_append]
    exact xstep_range _ _
def headL (f st ak : Int) (l : List Int) : List Int := [82, f, st / 256, st % 256, ak / 256, ak % 256, (l.length : Int)] ++ l
def packL (f st ak : Int) (l : List Int) : List Int := headL f st ak l ++ [xorL (headL f st ak l)]
def GoodP (f st ak : Int) (n : Nat) : Prop := (0 ≤ f ∧ f ≤ 3) ∧ (0 ≤ st ∧ st ≤ 65535) ∧ (0 ≤ ak ∧ ak ≤ 65535) ∧ n ≤ 64
instance (f st ak : Int) (n : Nat) : Decidable (GoodP f st ak n) := by unfold GoodP; infer_instance
theorem headL_len (f st ak : Int) (l : List Int) : (headL f st ak l).length = 7 + l.length := by simp [headL]; omega
theorem packL_len (f st ak : Int) (l : List Int) : (packL f st ak l).length = 8 + l.length := by simp [packL, headL_len]; omega
end Go.Proofs.YtandblanpafjoaaGreatDoor

