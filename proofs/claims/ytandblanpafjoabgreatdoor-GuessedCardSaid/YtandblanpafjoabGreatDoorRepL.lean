import Derived.Test.YtandblanpafjoabGreatDoorPkZ
namespace Go.Proofs.YtandblanpafjoabGreatDoor
open Go.RowKit

/-! What is packed is unpacked as it was; with a bit turned, a byte more or less it is no packet: in lists of bytes. -/
def InB (l : List Int) : Prop := ∀ x ∈ l, 0 ≤ x ∧ x ≤ 255
theorem InB.get {l : List Int} (h : InB l) (j : Nat) : 0 ≤ l.getD j 0 ∧ l.getD j 0 ≤ 255 := by
  rw [List.getD_eq_getElem?_getD]
  by_cases hj : j < l.length
  · rw [List.getElem?_eq_getElem hj]; exact h _ (List.getElem_mem hj)
  · rw [List.getElem?_eq_none (by omega)]; exact ⟨by decide, by decide⟩
theorem InB.bytes (s : ByteArray) : InB (bytesOf s) := by
  intro x hx
  simp only [bytesOf, List.mem_map] at hx
  obtain ⟨b, _, rfl⟩ := hx
  have := UInt8.toNat_lt b
  omega
theorem InB.app {a b : List Int} (ha : InB a) (hb : InB b) : InB (a ++ b) := by
  intro x hx
  rcases List.mem_append.1 hx with h | h
  · exact ha x h
  · exact hb x h
theorem InB.take {a : List Int} (ha : InB a) (n : Nat) : InB (a.take n) := fun x hx => ha x (List.mem_of_mem_take hx)
theorem InB.set {a : List Int} (ha : InB a) (n : Nat) (v : Int) (hv : 0 ≤ v ∧ v ≤ 255) : InB (a.set n v) := by
  intro x hx
  rcases List.mem_or_eq_of_mem_set hx with h | h
  · exact ha x h
  · rw [h]; exact hv
theorem InB.pack {f st ak : Int} {l : List Int} (h : GoodP f st ak l.length) (hl : InB l) : InB (packL f st ak l) := by
  obtain ⟨⟨h1, h2⟩, ⟨h3, h4⟩, ⟨h5, h6⟩, h7⟩ := h
  refine InB.app (InB.app ?_ hl) ?_
  · intro x hx
    simp only [List.mem_cons, List.not_mem_nil, or_false] at hx
    rcases hx with rfl | rfl | rfl | rfl | rfl | rfl | rfl <;> omega
  · intro x hx
    simp only [List.mem_cons, List.not_mem_nil, or_false] at hx
    rw [hx]
    exact xorL_range _

theorem pack_len7 (f st ak : Int) (l : List Int) : (packL f st ak l).take (7 + l.length) = headL f st ak l := by
  unfold packL
  rw [← headL_len f st ak l, List.take_left']
  rfl
theorem pack_last (f st ak : Int) (l : List Int) : (packL f st ak l).getD (7 + l.length) 0 = xorL (headL f st ak l) := by
  unfold packL
  rw [← headL_len f st ak l]
  simp
theorem pack_six (f st ak : Int) (l : List Int) : (packL f st ak l).getD 6 0 = (l.length : Int) := by simp [packL, headL]
theorem pack_ok {f st ak : Int} {l : List Int} (h : GoodP f st ak l.length) : OkP (packL f st ak l) ∧ fromL (packL f st ak l) = f ∧ startL (packL f st ak l) = st ∧ ackL (packL f st ak l) = ak ∧ inputsL (packL f st ak l) = l := by
  have e1 : fromL (packL f st ak l) = f := by simp [fromL, packL, headL]
  have e2 : startL (packL f st ak l) = st := by simp [startL, numL, packL, headL]; omega
  have e3 : ackL (packL f st ak l) = ak := by simp [ackL, numL, packL, headL]; omega
  have e4 : inputsL (packL f st ak l) = l := by
    unfold inputsL
    rw [packL_len]
    simp [packL, headL]
  refine ⟨⟨⟨?_, ?_, ?_, ?_⟩, ?_⟩, e1, e2, e3, e4⟩
  · rw [packL_len]; omega
  · rw [packL_len, pack_six]; omega
  · simp [packL, headL]
  · rw [packL_len, show 8 + l.length - 1 = 7 + l.length by omega, pack_last, pack_len7]
  · rw [e1, e2, e3, packL_len, show 8 + l.length - 8 = l.length by omega]; exact h

theorem less_no (f st ak : Int) (l : List Int) : ¬ OkP ((packL f st ak l).take (7 + l.length)) := by
  intro h
  have h2 := h.1.2.1
  rw [pack_len7, headL_len] at h2
  have : (headL f st ak l).getD 6 0 = (l.length : Int) := by simp [headL]
  rw [this] at h2
  omega
theorem more_no (f st ak : Int) (l : List Int) (y : Int) : ¬ OkP (packL f st ak l ++ [y]) := by
  intro h
  have h2 := h.1.2.1
  have : (packL f st ak l ++ [y]).getD 6 0 = (l.length : Int) := by simp [packL, headL]
  rw [this, List.length_append, packL_len] at h2
  simp at h2
  omega

/-! Exclusive or. -/
theorem xstep_nat (a b : Int) (ha : 0 ≤ a ∧ a ≤ 255) (hb : 0 ≤ b ∧ b ≤ 255) : xstep a b = ((a.toNat ^^^ b.toNat : Nat) : Int) := u8_xor a b ha.1 (by omega) hb.1 (by omega)
theorem xstep_toNat (a b : Int) (ha : 0 ≤ a ∧ a ≤ 255) (hb : 0 ≤ b ∧ b ≤ 255) : (xstep a b).toNat = a.toNat ^^^ b.toNat := by rw [xstep_nat a b ha hb]; simp
theorem toNat_inj {a b : Int} (ha : 0 ≤ a) (hb : 0 ≤ b) (h : a.toNat = b.toNat) : a = b := by omega
theorem xstep_back (a p : Int) (ha : 0 ≤ a ∧ a ≤ 255) (hp : 0 ≤ p ∧ p ≤ 255) : xstep (xstep a p) p = a := by
  refine toNat_inj (xstep_range _ _).1 ha.1 ?_
  rw [xstep_toNat _ _ (xstep_range _ _) hp, xstep_toNat _ _ ha hp, Nat.xor_assoc, Nat.xor_self, Nat.xor_zero]
theorem xstep_self (a : Int) (ha : 0 ≤ a ∧ a ≤ 255) : xstep a a = 0 := by
  refine toNat_inj (xstep_range _ _).1 (by decide) ?_
  rw [xstep_toNat _ _ ha ha, Nat.xor_self]; rfl
theorem xstep_swap (v p a : Int) (hv : 0 ≤ v ∧ v ≤ 255) (hp : 0 ≤ p ∧ p ≤ 255) (ha : 0 ≤ a ∧ a ≤ 255) : xstep (xstep v p) a = xstep (xstep v a) p := by
  refine toNat_inj (xstep_range _ _).1 (xstep_range _ _).1 ?_
  rw [xstep_toNat _ _ (xstep_range _ _) ha, xstep_toNat _ _ hv hp, xstep_toNat _ _ (xstep_range _ _) hp, xstep_toNat _ _ hv ha, Nat.xor_assoc, Nat.xor_assoc, Nat.xor_comm p.toNat]
theorem xstep_in (v a p : Int) (hv : 0 ≤ v ∧ v ≤ 255) (hp : 0 ≤ p ∧ p ≤ 255) (ha : 0 ≤ a ∧ a ≤ 255) : xstep v (xstep a p) = xstep (xstep v a) p := by
  refine toNat_inj (xstep_range _ _).1 (xstep_range _ _).1 ?_
  rw [xstep_toNat _ _ hv (xstep_range _ _), xstep_toNat _ _ ha hp, xstep_toNat _ _ (xstep_range _ _) hp, xstep_toNat _ _ hv ha, Nat.xor_assoc]
theorem fold_off (l : List Int) (hl : InB l) (p : Int) (hp : 0 ≤ p ∧ p ≤ 255) : ∀ v : Int, 0 ≤ v ∧ v ≤ 255 → l.foldl xstep (xstep v p) = xstep (l.foldl xstep v) p := by
  induction l with
  | nil => intro v _; rfl
  | cons a r ih =>
    intro v hv
    rw [List.foldl_cons, List.foldl_cons, xstep_swap v p a hv hp (hl a List.mem_cons_self)]
    exact ih (fun x hx => hl x (List.mem_cons_of_mem _ hx)) _ (xstep_range _ _)
theorem xorL_set (l : List Int) (hl : InB l) (q : Nat) (hq : q < l.length) (p : Int) (hp : 0 ≤ p ∧ p ≤ 255) : xorL (l.set q (xstep (l.getD q 0) p)) = xstep (xorL l) p := by
  have hg : l.getD q 0 = l[q] := by rw [List.getD_eq_getElem?_getD, List.getElem?_eq_getElem hq]; rfl
  rw [hg]
  have e1 : l = l.take q ++ l[q] :: l.drop (q + 1) := by rw [List.getElem_cons_drop, List.take_append_drop]
  have e2 : l.set q (xstep l[q] p) = l.take q ++ xstep l[q] p :: l.drop (q + 1) := by rw [List.set_eq_take_append_cons_drop, if_pos hq]
  have hx := InB.get hl q
  rw [hg] at hx
  have hv : 0 ≤ (l.take q).foldl xstep 90 ∧ (l.take q).foldl xstep 90 ≤ 255 := xorL_range _
  rw [e2]
  unfold xorL
  rw [List.foldl_append, List.foldl_cons, xstep_in _ _ _ hv hp hx, fold_off _ (fun x hx => hl x (List.mem_of_mem_drop hx)) p hp _ (xstep_range _ _)]
  congr 1
  conv => rhs; rw [e1]
  rw [List.foldl_append, List.foldl_cons]
theorem framed_sum (l : List Int) (h : Framed l) : xorL l = 0 := by
  obtain ⟨h8, _, _, h4⟩ := h
  have hlt : l.length - 1 < l.length := by omega
  have := xorL_snoc l (l.length - 1) hlt
  rw [show l.length - 1 + 1 = l.length by omega, List.take_length] at this
  rw [this]
  have hg : l.getD (l.length - 1) 0 = l[l.length - 1] := by rw [List.getD_eq_getElem?_getD, List.getElem?_eq_getElem hlt]; rfl
  rw [← hg, h4]
  exact xstep_self _ (xorL_range _)
theorem bit_no {f st ak : Int} {l : List Int} (h : GoodP f st ak l.length) (hl : InB l) (q : Nat) (hq : q < 8 + l.length) (p : Int) (hp : 0 < p ∧ p ≤ 255) : ¬ OkP ((packL f st ak l).set q (xstep ((packL f st ak l).getD q 0) p)) := by
  intro hok
  have hin := InB.pack h hl
  have h0 := framed_sum _ hok.1
  rw [xorL_set _ hin q (by rw [packL_len]; exact hq) p ⟨by omega, hp.2⟩, framed_sum _ (pack_ok h).1.1] at h0
  rw [xstep_nat 0 p ⟨by decide, by decide⟩ ⟨by omega, hp.2⟩] at h0
  simp at h0
  omega
end Go.Proofs.YtandblanpafjoabGreatDoor
