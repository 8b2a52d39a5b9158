import Derived.Test.YtandblanpafjoabGreatDoorPk2
import Derived.Test.YtandblanpafjoabGreatDoorUnpL
namespace Go.Proofs.YtandblanpafjoabGreatDoor
open Go.RowKit Go.Extern.Stop Go.Stop Go.Extern

def inputsL (l : List Int) : List Int := (l.drop 7).take (l.length - 8)
def OkP (l : List Int) : Prop := Framed l ∧ GoodP (fromL l) (startL l) (ackL l) (l.length - 8)
instance (l : List Int) : Decidable (OkP l) := by unfold OkP; infer_instance

/-- What was there is as it was. -/
structure HeldP (w0 w' : World) : Prop where
  below : Below w0.heap.size w0 w'
theorem held_mk {w0 w' : World} {b o : Nat} {x : Int} (c1 : w0.cell? ⟨b, o + 1, none⟩ = some (.int .u8 x)) (hbl : b < w0.heap.size) (hb : Below w0.heap.size w0 w') : w'.cell? ⟨b, o + 1, none⟩ = some (.int .u8 x) ∧ HeldP w0 w' :=
  ⟨by rw [hb.cell (p := ⟨b, o + 1, none⟩) hbl]; exact c1, ⟨hb⟩⟩

def Z4 : Array Value := #[.int .i64 0, .int .i64 0, .int .i64 0, .slice none 0 0]
theorem Tryz.sizePk : (Tryz.prog.info? 130).map (·.size) = some 4 := by kernel_rfl
theorem Tryz.sizeRunU8 (w : World) : (sizeOf 5).run Tryz.prog w = .ok 1 w := by kernel_rfl
theorem Tryz.zeroPk (w : World) : (zeroValue 130).run Tryz.prog w = .ok (.agg #[.int .i64 0, .int .i64 0, .int .i64 0, .slice none 0 0]) w := by kernel_rfl

theorem grown_setRow (w : World) (g : Nat) (cs : Array Value) : w.grownBy (w.setRow g cs) (some g) :=
  ⟨rfl, rfl, rfl, by simp, fun k _ hk => setRow_other w g k cs (fun e => hk (by rw [e]))⟩
theorem set4 {w : World} {g : Nat} {t : TypeId} (h : Blk w g Z4 t) (a b c d : Value) : Blk ((((w.setCell ⟨g, 0, none⟩ a).setCell ⟨g, 1, none⟩ b).setCell ⟨g, 2, none⟩ c).setCell ⟨g, 3, none⟩ d) g #[a, b, c, d] t := by
  have := (((h.set 0 a).set 1 b).set 2 c).set 3 d
  simpa [Z4] using this
theorem own_set4 {w : World} {g base n m : Nat} {e : TypeId} {v : Value} {xs : List Value} (h : w.ownsRow base e m v n xs) (a b c d : Value) (hne : v.ownBlock ≠ some g) : ((((w.setCell ⟨g, 0, none⟩ a).setCell ⟨g, 1, none⟩ b).setCell ⟨g, 2, none⟩ c).setCell ⟨g, 3, none⟩ d).ownsRow base e m v n xs :=
  (((h.kept (grown_set _ g 0 a) (.inr hne)).kept (grown_set _ g 1 b) (.inr hne)).kept (grown_set _ g 2 c) (.inr hne)).kept (grown_set _ g 3 d) (.inr hne)
theorem below_set4 {w0 w : World} {g B : Nat} (h : Below B w0 w) (a b c d : Value) (hg : B ≤ g) : Below B w0 ((((w.setCell ⟨g, 0, none⟩ a).setCell ⟨g, 1, none⟩ b).setCell ⟨g, 2, none⟩ c).setCell ⟨g, 3, none⟩ d) :=
  (((h.setCell hg a).setCell hg b).setCell hg c).setCell hg d

theorem src_bytes (W : World) (s : ByteArray) (g : Nat) (hg : W.heap.size = g) : SrcAt (Lib.bytesWorld W 5 s) (some ⟨g, 0, none⟩) (bytesOf s) := by
  subst hg
  refine .inr ⟨W.heap.size, 0, rfl, by rw [Lib.bytesWorld_size]; omega, fun j hj => ?_⟩
  rw [Nat.zero_add]
  exact bytesWorld_get W 5 s j (by rw [bytesOf_len] at hj; exact hj)

theorem conv_nil (w : World) : (convert 35 9 (.slice none 0 0)).run Tryz.prog w = .ok (.string (strOfNums [])) w := by kernel_rfl
theorem conv_src (ao : Option Addr) (n c : Nat) (l : List Int) (w : World) (hl : l.length = n) (hc0 : ao = none → c = 0) (hs : SrcAt w ao l) : (convert 35 9 (.slice ao n c)).run Tryz.prog w = .ok (.string (strOfNums l)) w := by
  rcases hs with ⟨rfl, rfl⟩ | ⟨b, o, rfl, _, h⟩
  · obtain rfl := hc0 rfl
    obtain rfl : n = 0 := hl.symm
    exact conv_nil w
  · exact conv_str b o n c l w hl (fun j hj => h j (by omega))
theorem inputsL_len (l : List Int) (h : 8 ≤ l.length) : (inputsL l).length = l.length - 8 := by simp [inputsL]; omega
end Go.Proofs.YtandblanpafjoabGreatDoor
