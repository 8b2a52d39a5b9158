import Derived.Test.YtandblanpafjoaaDoorPlays1
import Derived.Test.YtandblanpafjoaaDoorPPlay
namespace Go.Proofs.YtandblanpafjoaaDoor
open Go.RowKit Go.Extern.Stop Go.Stop Go.Extern

def fsOf (S : ByteArray) (K j : Nat) : List (List Int) := (List.range j).map fun i => bytesOf (chunk S K i)
theorem fsOf_len (S : ByteArray) (K j : Nat) : (fsOf S K j).length = j := by simp [fsOf]
theorem fsOf_get (S : ByteArray) (K j i : Nat) (hi : i < j) : (fsOf S K j).getD i [] = bytesOf (chunk S K i) := by simp [fsOf, hi]
theorem fsOf_out (S : ByteArray) (K j i : Nat) (hi : ¬ i < j) : (fsOf S K j).getD i [] = [] := by
  rw [List.getD_eq_getElem?_getD, List.getElem?_eq_none (by rw [fsOf_len]; omega)]; rfl
theorem fsOf_size (S : ByteArray) (K j i : Nat) (hS : S.size ≤ 65536) : ((fsOf S K j).getD i []).length ≤ 100000 := by
  by_cases hi : i < j
  · rw [fsOf_get S K j i hi, bytesOf_len]; unfold chunk; rw [ByteArray.size_extract]; omega
  · rw [fsOf_out S K j i hi]; simp
theorem fsOf_range (S : ByteArray) (K j i q : Nat) : 0 ≤ ((fsOf S K j).getD i []).getD q 0 ∧ ((fsOf S K j).getD i []).getD q 0 ≤ 255 := by
  by_cases hi : i < j
  · rw [fsOf_get S K j i hi]; exact bytesOf_range _ _
  · rw [fsOf_out S K j i hi]; simp
theorem frAt_of_room {w : World} {base : Nat} {v : Value} {S : ByteArray} {K j : Nat} {xs : List Value} (ho : w.ownsRow base 27 1 v j xs) (hr : RoomAt w base S K j xs) : FrAt w v (fsOf S K j) := by
  rcases ho.2 with ⟨rfl, hj⟩ | ⟨g, cap, cur, rfl, hbg, hg, hjc, hcm, hcs, htake⟩
  · subst hj
    exact Or.inl ⟨rfl, rfl⟩
  · refine Or.inr ⟨g, cap, by rw [fsOf_len], Blk.lt hg, fun i hi => ?_⟩
    rw [fsOf_len] at hi
    obtain ⟨b, h1, h2, h3⟩ := hr i hi
    have hc := ho.cells (g := g) rfl i _ h1
    rw [Addr.add_mid, Nat.zero_add] at hc
    refine ⟨b, _, by rw [fsOf_get S K j i hi, bytesOf_len]; exact hc, h3.lt, fun q hq => ?_⟩
    rw [fsOf_get S K j i hi, bytesOf_len] at hq
    rw [fsOf_get S K j i hi, h3.num q (by simp [bytesOf_len]; omega), List.getD_eq_getElem?_getD, List.getElem?_append_left (by rw [bytesOf_len]; exact hq)]; rfl
/-- A piece of the text is the chunk. -/
theorem chunk_is (S : ByteArray) (K j n i : Nat) (hi : i < j) (hall : ∀ q, q < j → (chunk S K q).size = n) (hpos : ∀ q, q < j → q * K < S.size) : i * n + n ≤ S.size ∧ S.extract (i * n) (i * n + n) = chunk S K i := by
  have h1 := hall i hi
  have h2 := hpos i hi
  have hin : i * n = i * K := by
    by_cases h0 : i = 0
    · rw [h0]; simp
    · have a0 := hall 0 (by omega)
      have p1 := hpos 1 (by omega)
      unfold chunk at a0
      rw [ByteArray.size_extract] at a0
      simp at a0 p1
      have : n = K := by omega
      rw [this]
  rw [hin]
  unfold chunk at h1 ⊢
  rw [ByteArray.size_extract] at h1
  refine ⟨by omega, ?_⟩
  apply ByteArray.ext
  rw [ByteArray.data_extract, ByteArray.data_extract]
  have hs : S.data.size = S.size := by simp
  apply Array.ext
  · simp; omega
  · intro q hq1 hq2; simp
end Go.Proofs.YtandblanpafjoaaDoor
