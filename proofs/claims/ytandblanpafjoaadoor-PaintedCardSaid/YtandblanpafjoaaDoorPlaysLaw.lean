import Derived.Test.YtandblanpafjoaaDoorPlays2
namespace Go.Proofs.YtandblanpafjoaaDoor
open Go.RowKit Go.Extern.Stop Go.Stop Go.Extern

theorem nil_nil (w : World) : (binOp .eql 27 (.slice none 0 0) (.slice none 0 0)).run Tryd.prog w = .ok (.bool true) w := by kernel_rfl
theorem Tryd.infoInt : (Tryd.prog.info? 3).map (fun i => (i.zero, i.size, i.bytes)) = some (some (.int .i64 0), 1, 8) := by kernel_rfl
set_option maxRecDepth 10000 in
theorem make_ints (n : Nat) (hn : n ≤ 4) (w : World) : (Instr.makeSlice 31 (.int .i64 (n : Int)) (.int .i64 (n : Int))).run Tryd.prog w = .ok (.slice (some ⟨w.heap.size, 0, none⟩) n n) (w.alloc (.cells (nums .i64 (List.replicate n 0)) 3)) := by
  obtain ⟨i8, hi8, hz8, hs8, hy8⟩ := info_parts Tryd.infoInt
  rw [run_make w 31 3 i8 (.int .i64 0) Tryd.underlying31 hi8 hz8 .i64 .i64 _ _ (by omega) (Int.le_refl _) (by rw [hy8]; omega) (by omega)]
  rw [show ((n : Int)).toNat = n by omega, hs8, Nat.mul_one]
  congr 3
  apply Array.ext
  · simp [madeCells, nums]
  · intro i h1 h2
    simp [madeCells, nums, Value.cells, Nat.mod_one]
theorem conv_bytes (g n c : Nat) (l : List Int) (t : TypeId) (w : World) (hl : l.length = n) (hb : Blk w g (nums .u8 l) t) : (convert 27 9 (.slice (some ⟨g, 0, none⟩) n c)).run Tryd.prog w = .ok (.string (strOfNums l)) w :=
  run_convert_bytes_arg w 27 5 Tryd.underlying27 Tryd.underlying5 g 0 n c l hl (fun i hi => by rw [Nat.zero_add, hb.num i (by omega)]) 9 Tryd.underlying9

set_option maxRecDepth 10000 in
set_option maxHeartbeats 1000000 in
theorem plays_few (p : Int) (S : ByteArray) (n : Int) (w : World) (hgL : Laid w) (hn : -9223372036854775808 ≤ n ∧ n ≤ 9223372036854775807) (hmax : S.size ≤ maxLen) (h : 65536 < S.size ∨ p < 2 ∨ 4 < p) :
    Calls Tryd.prog 4 #[.int .i64 p, .string S, .int .i64 n] w fun ev w' => ev = .returned (.bool true) ∧ Below w.heap.size w w' := by
  unfold maxLen at hmax
  by_cases hgt : 65536 < S.size
  · have hgt' : (65536 : Int) < (S.size : Int) := by omega
    go_enter Tryd.func4, Tryd.ntmps4
    go_wp2_with fail
    go_ret
    exact ⟨rfl, Below.refl _ _⟩
  · have hle : S.size ≤ 65536 := by omega
    have hle' : ¬ ((65536 : Int) < (S.size : Int)) := by omega
    have hp : p < 2 ∨ 4 < p := by omega
    have hnn := nil_nil
    clear h
    go_enter Tryd.func4, Tryd.ntmps4
    go_wp2_with fail
    refine (frames_any S n _ w hle hn rfl).mono ?_
    rintro e w1 ⟨v, j, xs, rfl, ho, hr, hb1, h1, h2, h3⟩
    have HP := hide hp
    have HO := hide ho
    have HR := hide hr
    clear hp ho hr h1 h2 h3
    go_wp2_with fail
    refine (pplay_player p v w1 (hgL.below hgL.lt hb1) (unhide HP)).mono ?_
    rintro e w2 ⟨rfl, hb2⟩
    by_cases hp2 : p < 2
    · go_wp2
      go_ret
      exact ⟨rfl, hb1.trans (hb2.mono hb1.size)⟩
    · have hp4 : 4 < p := by have := unhide HP; omega
      go_wp2
      go_ret
      exact ⟨rfl, hb1.trans (hb2.mono hb1.size)⟩

end Go.Proofs.YtandblanpafjoaaDoor
