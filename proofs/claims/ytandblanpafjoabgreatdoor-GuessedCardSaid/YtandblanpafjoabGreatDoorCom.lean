import Derived.Test.YtandblanpafjoabGreatDoorChecked
import Derived.Test.YtandblanpafjoabGreatDoorBase2
import Derived.OwnWalk
import Derived.Laws.OwnMore
import Derived.Laws.BytesArg
import Derived.Laws.ResultCell
import Derived.Lib.ConvBytes
/-! Texts as bytes, rows of the call's own, results that lie in cells: what the other texts share, of no function of the program. -/
namespace Go.Proofs.YtandblanpafjoabGreatDoor
open Go.RowKit Go.Extern.Stop Go.Stop Go.Extern

def lenOf : Value → Nat
  | .slice _ n _ => n
  | _ => 0
theorem owns_len {w : World} {base : Nat} {e : TypeId} {v : Value} {n : Nat} {xs : List Value} (h : w.ownsRow base e 1 v n xs) : lenOf v = n := by
  rcases h.2 with ⟨rfl, h0⟩ | ⟨g, cap, cur, rfl, _⟩
  · exact h0.symm
  · rfl
theorem owns_mono {w : World} {base base' : Nat} {e : TypeId} {v : Value} {n : Nat} {xs : List Value} (h : w.ownsRow base e 1 v n xs) (hb : base' ≤ base) : w.ownsRow base' e 1 v n xs := by
  refine ⟨h.1, ?_⟩
  rcases h.2 with h' | ⟨g, cap, cur, h1, h2, h3⟩
  · exact Or.inl h'
  · exact Or.inr ⟨g, cap, cur, h1, Nat.le_trans hb h2, h3⟩
theorem Tryz.infoU8 : (Tryz.prog.info? 5).map (fun i => (i.zero, i.size, i.bytes)) = some (some (.int .u8 0), 1, 1) := by kernel_rfl
/-- A text's bytes as numbers. -/
def bytesOf (s : ByteArray) : List Int := s.data.toList.map fun b => (b.toNat : Int)
theorem bytesOf_len (s : ByteArray) : (bytesOf s).length = s.size := by simp [bytesOf]
theorem bytesOf_range (s : ByteArray) (j : Nat) : 0 ≤ (bytesOf s).getD j 0 ∧ (bytesOf s).getD j 0 ≤ 255 := by
  by_cases hj : j < s.data.toList.length
  · have : (bytesOf s).getD j 0 = ((s.data.toList[j]).toNat : Int) := by
      rw [List.getD_eq_getElem?_getD, bytesOf, List.getElem?_map, List.getElem?_eq_getElem hj]; rfl
    rw [this]
    have := UInt8.toNat_lt (s.data.toList[j])
    omega
  · have : (bytesOf s).getD j 0 = 0 := by
      rw [List.getD_eq_getElem?_getD, List.getElem?_eq_none (by simpa [bytesOf] using hj)]; rfl
    rw [this]; omega
theorem bytesOf_vals (s : ByteArray) : s.data.map (fun b => Value.int .u8 (b.toNat : Int)) = nums .u8 (bytesOf s) := by
  apply Array.ext'
  simp [nums, bytesOf]

theorem made_zeros (n : Nat) : madeCells (Value.cells (.int .u8 0)) n = nums .u8 (List.replicate n 0) := by
  apply Array.ext
  · simp [madeCells, nums]
  · intro i h1 h2
    simp [madeCells, nums, Value.cells, Nat.mod_one]

theorem strOf_bytes (s : ByteArray) : strOfNums (bytesOf s) = s := by
  have h : (strOfNums (bytesOf s)).data = s.data := by
    apply Array.ext'
    rw [strOfNums_data]
    simp [bytesOf, Function.comp_def]
  exact ByteArray.ext h

theorem ret_cell_tmp {P : Program} {W : World} {g : Nat} {cs : Array Value} {t ty : TypeId} {d : TypeDesc} {x : Value} (hg : Blk W g cs t)
    (hu : P.underlying ty = some d) (hd : (match d with | .struct _ | .array _ _ => true | _ => false) = true) (hi : (P.info? ty).map (·.size) = some cs.size) :
    ((asAddr (.pointer (some ⟨g, 0, none⟩))).run P W).andThen (fun a w₁ => ((loadVar ty a).run P w₁).andThen fun v w₂ => Result.ok (Value.tuple #[v, x]) w₂) = Result.ok (Value.tuple #[.agg cs, x]) W := by
  simp [asAddr, run_loadVar_row W g t ty cs (0, 0) d hg hu hd hi]

theorem own_some {w : World} {base n : Nat} {e : TypeId} {v : Value} {xs : List Value} (h : w.ownsRow base e 1 v n xs) (hn : 0 < n) : ∃ g cap, v = .slice (some ⟨g, 0, none⟩) n cap ∧ base ≤ g ∧ g < w.heap.size ∧ n ≤ cap := by
  rcases h.2 with ⟨_, h0⟩ | ⟨g, cap, cur, h', hbg, hg, hnc, _⟩
  · omega
  · exact ⟨g, cap, h', hbg, (Array.getElem?_eq_some_iff.1 hg).1, hnc⟩

theorem own_lit {base : Nat} {e : TypeId} (W : World) (cs : Array Value) (n g : Nat) (hg : W.heap.size = g) (hb : base ≤ g) (hm : n ≤ maxLen) (hs : cs.size = n * 1) : (W.alloc (.cells cs e)).ownsRow base e 1 (.slice (some ⟨g, 0, none⟩) n n) n cs.toList := by
  subst hg; exact World.ownsRow_lit W cs n hb hm hs

theorem bytesWorld_below (w : World) (e : TypeId) (s : ByteArray) : Below w.heap.size w (Lib.bytesWorld w e s) :=
  ⟨rfl, rfl, rfl, by rw [Lib.bytesWorld_size]; omega, fun k hk => Lib.bytesWorld_at_old w e s k hk⟩
theorem bytesWorld_get (w : World) (e : TypeId) (s : ByteArray) (j : Nat) (hj : j < s.size) : (Lib.bytesWorld w e s).cell? ⟨w.heap.size, j, none⟩ = some (.int .u8 ((bytesOf s).getD j 0)) := by
  rw [Lib.bytesWorld_cell w e s j hj]
  have hj' : j < s.data.toList.length := by simpa using hj
  rw [List.getD_eq_getElem?_getD, List.getD_eq_getElem?_getD, bytesOf, List.getElem?_map, List.getElem?_eq_getElem hj']; rfl

theorem nil_is_nil (w : World) : (binOp .eql 35 (.slice none 0 0) (.slice none 0 0)).run Tryz.prog w = .ok (.bool true) w := by kernel_rfl
theorem conv_str (g o n c : Nat) (l : List Int) (w : World) (hl : l.length = n) (hc : ∀ j, j < n → w.cell? ⟨g, o + j, none⟩ = some (.int .u8 (l.getD j 0))) : (convert 35 9 (.slice (some ⟨g, o, none⟩) n c)).run Tryz.prog w = .ok (.string (strOfNums l)) w :=
  run_convert_bytes_arg w 35 5 Tryz.underlying35 Tryz.underlying5 g o n c l hl (fun i hi => hc i hi) 9 Tryz.underlying9
theorem own_row {w : World} {base g n cap : Nat} {e : TypeId} {xs : List Value} (h : w.ownsRow base e 1 (.slice (some ⟨g, 0, none⟩) n cap) n xs) : ∃ cur, cur.size = cap ∧ cap ≤ maxLen ∧ n ≤ cap ∧ Blk w g cur e := by
  rcases h.2 with ⟨h', _⟩ | ⟨g', cap', cur, h', _, hg, hnc, hcm, hcs, _⟩
  · simp at h'
  · simp only [Value.slice.injEq, Option.some.injEq, Addr.mk.injEq, and_true, true_and] at h'
    obtain ⟨rfl, rfl⟩ := h'
    exact ⟨cur, by rw [hcs, Nat.mul_one], hcm, hnc, hg⟩

theorem not_nil (a : Addr) (n c : Nat) (w : World) : (binOp .eql 35 (.slice (some a) n c) (.slice none 0 0)).run Tryz.prog w = .ok (.bool false) w := by kernel_rfl

end Go.Proofs.YtandblanpafjoabGreatDoor
