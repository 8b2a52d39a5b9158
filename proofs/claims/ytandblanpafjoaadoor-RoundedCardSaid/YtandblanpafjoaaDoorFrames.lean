import Derived.Test.YtandblanpafjoaaDoorPlay2
import Derived.Test.YtandblanpafjoaaDoorStr
namespace Go.Proofs.YtandblanpafjoaaDoor
open Go.RowKit Go.Extern.Stop Go.Stop Go.Extern

theorem Tryd.infoBytes : (Tryd.prog.info? 27).map (fun i => (i.zero, i.size, i.bytes)) = some (some (.slice none 0 0), 1, 24) := by kernel_rfl
def chunk (S : ByteArray) (K i : Nat) : ByteArray := S.extract (i * K) ((i + 1) * K)
/-- Slices of bytes with two of spare room behind, in memory of the call's own. -/
def RoomAt (w : World) (base : Nat) (S : ByteArray) (K j : Nat) (xs : List Value) : Prop :=
  ∀ i, i < j → ∃ b, xs[i]? = some (.slice (some ⟨b, 0, none⟩) (chunk S K i).size ((chunk S K i).size + 2)) ∧ base ≤ b ∧ Blk w b (nums .u8 (bytesOf (chunk S K i) ++ [77, 88])) 5
def strLen : Value → Nat
  | .string s => s.size
  | _ => 0
theorem RoomAt.keep {w w' : World} {base : Nat} {S : ByteArray} {K j : Nat} {xs : List Value} (h : RoomAt w base S K j xs) (hk : ∀ b cs, Blk w b cs 5 → Blk w' b cs 5) : RoomAt w' base S K j xs := fun i hi => by
  obtain ⟨b, h1, h2, h3⟩ := h i hi
  exact ⟨b, h1, h2, hk _ _ h3⟩
theorem own_ne {w : World} {base : Nat} {v : Value} {n : Nat} {xs : List Value} (h : w.ownsRow base 27 1 v n xs) {b : Nat} {cs : Array Value} (hb : Blk w b cs 5) : some b ≠ v.ownBlock := by
  rcases h.2 with ⟨rfl, _⟩ | ⟨g, cap, cur, rfl, _, hg, _⟩
  · intro e; cases e
  · intro e
    have e' : b = g := Option.some.inj e
    subst e'
    have := Option.some.inj (hb.symm.trans hg)
    injection this with _ h2
    exact absurd h2 (by decide)

theorem one_new' (W : World) (x : Value) (t : TypeId) (g : Nat) (hg : W.heap.size = g) : ∀ j u, [x][j]? = some u → (W.alloc (.cells #[x] t)).cell? ((⟨g, 0, none⟩ : Addr).add j) = some u := by
  subst hg; exact one_new W x t

set_option maxRecDepth 10000 in
set_option maxHeartbeats 1000000 in
theorem frames_any (S : ByteArray) (n : Int) (K : Nat) (w : World) (hS : S.size ≤ 65536) (hn : -9223372036854775808 ≤ n ∧ n ≤ 9223372036854775807) (hK : K = if n < 1 then 1 else n.toNat) :
    Calls Tryd.prog 11 #[.string S, .int .i64 n] w fun e w' => ∃ (v : Value) (j : Nat) (xs : List Value), e = .returned v ∧ w'.ownsRow w.heap.size 27 1 v j xs ∧ RoomAt w' w.heap.size S K j xs ∧ Below w.heap.size w w' ∧ S.size ≤ j * K ∧ j ≤ S.size ∧ (∀ i, i < j → i * K < S.size) := by
  have hK1 : 1 ≤ K := by rw [hK]; split <;> omega
  have HK := hide hK
  clear hK
  go_enter Tryd.func11, Tryd.ntmps11
  go_wp2_with fail
  go_loopw [0, 5] (fun s v wr => ∃ (j : Nat) (xs : List Value), s = .string (S.extract (j * K) S.size) ∧ j ≤ S.size ∧ (∀ i, i < j → i * K < S.size) ∧ wr.ownsRow w.heap.size 27 1 v j xs ∧ RoomAt wr w.heap.size S K j xs ∧ Below w.heap.size w wr) (fun s _ _ => strLen s)
  case atStart => exact ⟨0, [], by simp, by omega, fun i hi => absurd hi (by omega), World.ownsRow_nil _ _ _ _, fun i hi => absurd hi (by omega), Below.refl _ _⟩
  case round =>
    obtain ⟨j, xs, rfl, hj, hjs, hown, hroom, hb⟩ := hrel
    have hsz : (S.extract (j * K) S.size).size = S.size - j * K := by rw [ByteArray.size_extract, Nat.min_self]
    by_cases hlt : j * K < S.size
    · have hpos : 0 < (S.extract (j * K) S.size).size := by omega
      have HC1 : Hid (K ≤ (S.extract (j * K) S.size).size → (S.extract (j * K) S.size).extract 0 K = chunk S K j ∧ (S.extract (j * K) S.size).extract K (S.extract (j * K) S.size).size = S.extract ((j + 1) * K) S.size) := hide (fun h => by
        rw [ByteArray.extract_extract, ByteArray.extract_extract, Nat.add_mul, Nat.one_mul, Nat.add_zero]
        refine ⟨?_, ?_⟩
        · rw [Nat.min_eq_left (by omega)]; unfold chunk; rw [Nat.add_mul, Nat.one_mul]
        · rw [hsz]; congr 1; omega)
      have HC2 : Hid (¬ K ≤ (S.extract (j * K) S.size).size → (S.extract (j * K) S.size).extract 0 (S.extract (j * K) S.size).size = chunk S K j ∧ (S.extract (j * K) S.size).extract (S.extract (j * K) S.size).size (S.extract (j * K) S.size).size = S.extract ((j + 1) * K) S.size) := hide (fun h => by
        refine ⟨?_, ?_⟩
        · rw [ByteArray.extract_zero_size]
          unfold chunk
          apply ByteArray.ext
          rw [ByteArray.data_extract, ByteArray.data_extract, Nat.add_mul, Nat.one_mul]
          apply Array.ext'
          simp
          omega
        · have e1 : (S.extract (j * K) S.size).extract (S.extract (j * K) S.size).size (S.extract (j * K) S.size).size = ByteArray.empty := ByteArray.extract_eq_empty_iff.2 (Nat.min_le_right _ _)
          have e2 : S.extract ((j + 1) * K) S.size = ByteArray.empty := ByteArray.extract_eq_empty_iff.2 (by rw [Nat.min_self, Nat.add_mul, Nat.one_mul]; omega)
          rw [e1, e2])
      have HCS : Hid ((chunk S K j).size ≤ 65536) := hide (by unfold chunk; rw [ByteArray.size_extract]; omega)
      have hjS : j < S.size := by
        have := Nat.le_mul_of_pos_right j hK1
        omega
      have HJS : Hid (∀ i, i < j + 1 → i * K < S.size) := hide (fun i hi => by
        by_cases hij : i = j
        · rw [hij]; exact hlt
        · exact hjs i (by omega))
      have HM : Hid ((S.extract ((j + 1) * K) S.size).size < (S.extract (j * K) S.size).size) := hide (by
        rw [ByteArray.size_extract, ByteArray.size_extract, Nat.min_self, Nat.add_mul, Nat.one_mul]; omega)
      have hle : (S.extract (j * K) S.size).size ≤ 65536 := by omega
      obtain ⟨iT, hi1, hi2, hi3, hi4⟩ := info_parts Tryd.infoBytes
      have HT : Hid (Tryd.prog.info? 27 = some iT ∧ iT.zero = some (.slice none 0 0) ∧ iT.size = 1 ∧ iT.bytes = 24) := hide ⟨hi1, hi2, hi3, hi4⟩
      have HOWN := hide hown
      have HROOM := hide hroom
      clear hjs hsz hi1 hi2 hi3 hi4 hown hroom
      generalize S.extract (j * K) S.size = s at *
      have hpos' : (0 : Int) < (s.size : Int) := by omega
      have fin : ∀ w1 v2 w2, w1 = wr.alloc (.cells (nums .u8 (bytesOf (chunk S K j) ++ [77, 88])) 5) → w2.ownsRow w.heap.size 27 1 v2 (j + 1) (xs ++ [.slice (some ⟨wr.heap.size, 0, none⟩) (chunk S K j).size ((chunk S K j).size + 2)]) →
          (w1.alloc (.cells #[.slice (some ⟨wr.heap.size, 0, none⟩) (chunk S K j).size ((chunk S K j).size + 2)] 27)).grownBy w2 u5.ownBlock →
          RoomAt w2 w.heap.size S K (j + 1) (xs ++ [.slice (some ⟨wr.heap.size, 0, none⟩) (chunk S K j).size ((chunk S K j).size + 2)]) ∧ Below w.heap.size w w2 := by
        intro w1 v2 w2 e1 ho hg
        subst e1
        have hlen := (unhide HOWN).1
        have hkeep : ∀ b cs, Blk ((wr.alloc (.cells (nums .u8 (bytesOf (chunk S K j) ++ [77, 88])) 5)).alloc (.cells #[.slice (some ⟨wr.heap.size, 0, none⟩) (chunk S K j).size ((chunk S K j).size + 2)] 27)) b cs 5 → Blk w2 b cs 5 := fun b cs hbk => by
          have hne := own_ne (((unhide HOWN).alloc _).alloc _) hbk
          have hl := hbk.lt
          have := hg.block b hl hne
          unfold Blk at hbk ⊢
          rw [this]; exact hbk
        refine ⟨fun i hi => ?_, ?_⟩
        · by_cases hij : i = j
          · subst hij
            refine ⟨wr.heap.size, ?_, hb.size, hkeep _ _ ((Blk.new wr _ _).alloc _)⟩
            rw [List.getElem?_append_right (by omega)]
            simp [hlen]
          · obtain ⟨b, h1, h2, h3⟩ := unhide HROOM i (by omega)
            refine ⟨b, ?_, h2, hkeep _ _ ((h3.alloc _).alloc _)⟩
            rw [List.getElem?_append_left (by omega)]; exact h1
        · exact ((hb.alloc hb.size _).alloc (by have := hb.size; simp; omega) _).grown hg (by have := hb.size; simp; omega) (fun q hq => ((unhide HOWN).lt q hq).1)
      have FIN := hide fin
      clear fin
      by_cases hn1 : n < 1
      · have hK1' : K = 1 := by rw [unhide HK, if_pos hn1]
        subst hK1'
        obtain ⟨e1, e2⟩ := unhide HC1 (by omega)
        have hnk : ¬ ((s.size : Int) < 1) := by omega
        have hn2 : (1 : Int) ≤ (s.size : Int) := by omega
        have HE2 := hide e2
        clear e2
        go_wp2_with fail
        refine (roomy_any (chunk S 1 j) wr (unhide HCS)).mono ?_
        rintro e w1 ⟨rfl, rfl⟩
        generalize chunk S 1 j = ck at *
        go_wp2_with (at_builtin; refine wpList_append_own _ rfl _ _ 25 rfl w.heap.size 27 iT (.slice none 0 0) 1 24 Tryd.underlying25 (unhide HT).1 (unhide HT).2.1 (unhide HT).2.2.1 (unhide HT).2.2.2 rfl (by decide) _ j _ rfl (((unhide HOWN).alloc _).alloc _) ⟨wr.heap.size + 1, 0, none⟩ 1 1 [.slice (some ⟨wr.heap.size, 0, none⟩) ck.size (ck.size + 2)] rfl rfl (one_new' _ _ _ _ (by simp)) (fun x hx => by simp at hx; subst hx; rfl) (by unfold maxLen; omega) (by omega) (by have := hb.size; simp; omega) ?_; intro v5 w5 hown5 hgr5 hnil5)
        go_roundw
        case rel =>
          obtain ⟨f1, f2⟩ := unhide FIN _ v5 w5 rfl hown5 hgr5
          exact ⟨j + 1, _, by rw [← unhide HE2], by omega, unhide HJS, hown5, f1, f2⟩
        case measure => have := unhide HM; rw [← unhide HE2] at this; exact this
      · have hK' : ((K : Nat) : Int) = n := by rw [unhide HK, if_neg hn1]; omega
        by_cases hKs : K ≤ s.size
        · have hnk : ¬ ((s.size : Int) < n) := by omega
          obtain ⟨e1, e2⟩ := unhide HC1 hKs
          have hnK : n.toNat = K := by omega
          have hn0 : 0 ≤ n := by omega
          have hn2 : n ≤ (s.size : Int) := by omega
          clear hK'
          go_wp2_with fail
          refine (roomy_any (chunk S K j) wr (unhide HCS)).mono ?_
          rintro e w1 ⟨rfl, rfl⟩
          generalize chunk S K j = ck at *
          go_wp2_with (at_builtin; refine wpList_append_own _ rfl _ _ 25 rfl w.heap.size 27 iT (.slice none 0 0) 1 24 Tryd.underlying25 (unhide HT).1 (unhide HT).2.1 (unhide HT).2.2.1 (unhide HT).2.2.2 rfl (by decide) _ j _ rfl (((unhide HOWN).alloc _).alloc _) ⟨wr.heap.size + 1, 0, none⟩ 1 1 [.slice (some ⟨wr.heap.size, 0, none⟩) ck.size (ck.size + 2)] rfl rfl (one_new' _ _ _ _ (by simp)) (fun x hx => by simp at hx; subst hx; rfl) (by unfold maxLen; omega) (by omega) (by have := hb.size; simp; omega) ?_; intro v5 w5 hown5 hgr5 hnil5)
          go_roundw
          case rel =>
            obtain ⟨f1, f2⟩ := unhide FIN _ v5 w5 rfl hown5 hgr5
            exact ⟨j + 1, _, rfl, by omega, unhide HJS, hown5, f1, f2⟩
          case measure => exact unhide HM
        · have hnk : (s.size : Int) < n := by omega
          obtain ⟨e1, e2⟩ := unhide HC2 hKs
          have HE : Hid (S.extract ((j + 1) * K) S.size = ByteArray.empty) := hide (by rw [← e2]; exact ByteArray.extract_eq_empty_iff.2 (Nat.min_le_right _ _))
          clear hK'
          go_wp2_with fail
          refine (roomy_any (chunk S K j) wr (unhide HCS)).mono ?_
          rintro e w1 ⟨rfl, rfl⟩
          generalize chunk S K j = ck at *
          go_wp2_with (at_builtin; refine wpList_append_own _ rfl _ _ 25 rfl w.heap.size 27 iT (.slice none 0 0) 1 24 Tryd.underlying25 (unhide HT).1 (unhide HT).2.1 (unhide HT).2.2.1 (unhide HT).2.2.2 rfl (by decide) _ j _ rfl (((unhide HOWN).alloc _).alloc _) ⟨wr.heap.size + 1, 0, none⟩ 1 1 [.slice (some ⟨wr.heap.size, 0, none⟩) ck.size (ck.size + 2)] rfl rfl (one_new' _ _ _ _ (by simp)) (fun x hx => by simp at hx; subst hx; rfl) (by unfold maxLen; omega) (by omega) (by have := hb.size; simp; omega) ?_; intro v5 w5 hown5 hgr5 hnil5)
          go_roundw
          case rel =>
            obtain ⟨f1, f2⟩ := unhide FIN _ v5 w5 rfl hown5 hgr5
            exact ⟨j + 1, _, by rw [unhide HE], by omega, unhide HJS, hown5, f1, f2⟩
          case measure => have := unhide HM; rw [unhide HE] at this; exact this
    · have hz : (S.extract (j * K) S.size).size = 0 := by omega
      have HS := hide hjs
      clear hjs hsz
      generalize S.extract (j * K) S.size = s at *
      have hz' : ¬ ((0 : Int) < (s.size : Int)) := by omega
      go_wp2_with fail
      go_ret
      exact ⟨_, rfl, j, xs, hown, hroom, hb, by omega, hj, unhide HS⟩
end Go.Proofs.YtandblanpafjoaaDoor
