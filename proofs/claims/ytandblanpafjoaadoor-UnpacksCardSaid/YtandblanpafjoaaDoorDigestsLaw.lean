import Derived.Test.YtandblanpafjoaaDoorDigests
import Derived.Test.YtandblanpafjoaaDoorStr
import Derived.Lib.ConvBytes
namespace Go.Proofs.YtandblanpafjoaaDoor
open Go.RowKit Go.Extern.Stop Go.Stop Go.Extern

theorem rdigest_at (n : Nat) (hn : n = 288) (l : List Int) (b c : Nat) (w : World) (hl : l.length = 288) (hr : ∀ j : Nat, 0 ≤ l.getD j 0 ∧ l.getD j 0 ≤ 255) (hcap : n ≤ c) (hbl : b < w.heap.size)
    (hc : ∀ j, j < n → w.cell? ⟨b, j, none⟩ = some (.int .u8 (l.getD j 0))) :
    Calls Tryd.prog 22 #[.slice (some ⟨b, 0, none⟩) n c] w fun e w' => e = .returned (.int .u32 (digL l)) ∧ Below w.heap.size w w' := by
  subst hn; exact rdigest_any l b c w hl hr hcap hbl hc
theorem pdigest_at (n : Nat) (hn : n = 288) (b c : Nat) (l : List Int) (w : World) (hl : l.length = 288) (hr : ∀ j : Nat, 0 ≤ l.getD j 0 ∧ l.getD j 0 ≤ 255) (hcap : n ≤ c) (hbl : b < w.heap.size)
    (hc : ∀ j, j < n → w.cell? ⟨b, j, none⟩ = some (.int .u8 (l.getD j 0))) :
    Calls Tryd.prog 21 #[.slice (some ⟨b, 0, none⟩) n c] w fun e w' => e = .returned (.tuple #[.int .u32 (digL l), .int .i64 0]) ∧ Below w.heap.size w w' := by
  subst hn; exact pdigest_yes b c l w hl hr hcap hbl hc
set_option maxRecDepth 100000 in
set_option maxHeartbeats 400000 in
theorem digests_any (s : ByteArray) (w : World) (hmax : s.size ≤ maxLen) (hgL : Laid w) :
    Calls Tryd.prog 5 #[.string s] w fun ev w' => ev = .returned (.bool true) ∧ Below w.heap.size w w' := by
  unfold maxLen at hmax
  by_cases hgt : 65536 < s.size
  · have hgt' : (65536 : Int) < (s.size : Int) := by omega
    go_enter Tryd.func5, Tryd.ntmps5
    go_wp2_with fail
    go_ret
    exact ⟨rfl, Below.refl _ _⟩
  · have hle : s.size ≤ 65536 := by omega
    have hle' : ¬ ((65536 : Int) < (s.size : Int)) := by omega
    by_cases h288 : s.size = 288
    · have HS := hide h288
      have hne : ((s.size : Int) != 288) = false := by rw [h288]; rfl
      have hcv : ∀ W, (convert 9 27 (.string s)).run Tryd.prog W = .ok (.slice (some ⟨W.heap.size, 0, none⟩) s.size (grownCap W s.size 0 5)) (Lib.bytesWorld W 5 s) := fun W => Lib.run_convert_string_bytes W 9 27 5 s Tryd.underlying9 Tryd.underlying27 Tryd.underlying5
      clear h288
      go_enter Tryd.func5, Tryd.ntmps5
      go_wp2_with fail
      refine (roomy_any s w hle).mono ?_
      rintro e w1 ⟨rfl, rfl⟩
      go_wp2_with fail
      refine (pdigest_at s.size (unhide HS) w.heap.size (s.size + 2) (bytesOf s) _ (by rw [bytesOf_len, unhide HS]) (bytesOf_range s) (by omega) (by simp) ?_).mono ?_
      · intro j hj
        rw [(Blk.new w _ _).num j (by simp [bytesOf_len]; omega)]
        rw [List.getD_eq_getElem?_getD, List.getElem?_append_left (by rw [bytesOf_len]; exact hj)]; rfl
      rintro e w2 ⟨rfl, hb2⟩
      have hblk := (Blk.new w (nums .u8 (bytesOf s ++ [77, 88])) 5).below (by simp) hb2
      have HB := hide hblk
      clear hblk
      go_wp2_with fail
      refine (still_any s w.heap.size w2 hle (unhide HB)).mono ?_
      rintro e w2 ⟨rfl, rfl⟩
      go_wp2_with fail
      refine (rdigest_at s.size (unhide HS) (bytesOf s) w2.heap.size _ _ (by rw [bytesOf_len, unhide HS]) (bytesOf_range s) (grownCap_ge _ _ _ _) (by rw [Lib.bytesWorld_size]; omega) (fun j hj => bytesWorld_get w2 _ s j hj)).mono ?_
      rintro e w3 ⟨rfl, hb3⟩
      go_wp2
      go_ret
      have b2 : Below w.heap.size w w2 := ((Below.refl _ _).alloc (Nat.le_refl _) _).trans (hb2.mono (by simp))
      have b3 := (bytesWorld_below w2 5 s)
      exact ⟨rfl, (b2.trans (b3.mono b2.size)).trans (hb3.mono (by rw [Lib.bytesWorld_size]; have := b2.size; omega))⟩
    · have hne : ((s.size : Int) != 288) = true := by rw [bne_iff_ne]; omega
      go_enter Tryd.func5, Tryd.ntmps5
      go_wp2_with fail
      refine (roomy_any s w hle).mono ?_
      rintro e w1 ⟨rfl, rfl⟩
      go_wp2_with fail
      refine (pdigest_no w.heap.size s.size (s.size + 2) _ h288 (hgL.alloc _)).mono ?_
      rintro e w2 ⟨rfl, hb2⟩
      have hblk := (Blk.new w (nums .u8 (bytesOf s ++ [77, 88])) 5).below (by simp) hb2
      have HB := hide hblk
      clear hblk
      go_wp2_with fail
      refine (still_any s w.heap.size w2 hle (unhide HB)).mono ?_
      rintro e w2 ⟨rfl, rfl⟩
      go_wp2
      go_ret
      exact ⟨rfl, ((Below.refl _ _).alloc (Nat.le_refl _) _).trans (hb2.mono (by simp))⟩
end Go.Proofs.YtandblanpafjoaaDoor
