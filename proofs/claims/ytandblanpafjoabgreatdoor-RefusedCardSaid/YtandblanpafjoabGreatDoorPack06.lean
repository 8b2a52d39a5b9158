import Derived.Test.YtandblanpafjoabGreatDoorPack05
import Derived.Deep.QuietTactic
import Derived.BigQuiet
import Derived.WalkSmall
import Derived.Test.YtandblanpafjoabGreatDoorPack01
import Derived.Test.YtandblanpafjoabGreatDoorPack04
import Derived.Laws.MakeOwn
namespace Go.Proofs.YtandblanpafjoabGreatDoor
open Go.RowKit Go.Extern.Stop Go.Stop Go.Extern

set_option maxHeartbeats 1000000 in
/-- api.Told: no error. -/
theorem told_nil (w : World) :
    Calls Tryz.prog 26 #[.nilIface] w fun ev w' => ev = .returned (.tuple #[.int .i64 0, .int .i64 (-1)]) ∧ Below w.heap.size w w' := by
  go_enter Tryz.func26, Tryz.ntmps26
  go_wp2_with (go_at_call 42; refine (as_nil _ _).mono ?_; rintro e w' ⟨rfl, rfl⟩)
  go_ret2
  exact ⟨rfl, ((Below.refl _ _).alloc (Nat.le_refl _) _).alloc (by simp) _⟩

set_option maxHeartbeats 1000000 in
/-- api.Told: a Kind. -/
theorem told_kind (k : Int) (w : World) (hgL : Laid w) :
    Calls Tryz.prog 26 #[.iface 39 (.int .i64 k)] w fun ev w' => ev = .returned (.tuple #[.int .i64 k, .int .i64 (-1)]) ∧ Below w.heap.size w w' := by
  go_enter Tryz.func26, Tryz.ntmps26
  go_wp2_with fail
  refine (as_missKP k _ _ (hgL.alloc _)).mono ?_
  rintro e w1 ⟨rfl, hb1⟩
  have hL1 : Laid w1 := (hgL.alloc _).below (by simp) hb1
  have hz1 := hb1.size
  go_wp2_with fail
  refine (as_hitK k _ (.int .i64 0) _ (hL1.alloc _) (by simp) (by simp)).mono ?_
  rintro e w2 ⟨rfl, w3, hb3, rfl⟩
  have hz3 := hb3.size
  have hc3 : w3.cell? ⟨w1.heap.size, 0, none⟩ = some (.int .i64 0) := by rw [hb3.cell (p := ⟨w1.heap.size, 0, none⟩) (by simp)]; simp
  have hc : (w3.setCell ⟨w1.heap.size, 0, none⟩ (.int .i64 k)).cell? ⟨w1.heap.size, 0, none⟩ = some (.int .i64 k) := by
    rw [World.cell?_setCell_same _ _ _ hc3]
  go_wp2
  go_ret2
  refine ⟨rfl, ?_⟩
  have b1 : Below w.heap.size w w1 := ((Below.refl _ _).alloc (Nat.le_refl _) _).trans (hb1.mono (by simp))
  have b2 := b1.alloc (B := w.heap.size) (by have := b1.size; omega) (.cells #[.int .i64 0] 39)
  have b3 := b2.trans (hb3.mono (by have := b1.size; simp; omega))
  exact b3.setCell (by have := b1.size; simp; omega) _

set_option maxHeartbeats 1000000 in
/-- api.Told: an error of a peer. -/
theorem told_peer (b : Nat) (p k : Int) (w : World) (hgL : Laid w) (hp : w.cell? ⟨b, 0, none⟩ = some (.int .i64 p)) (hk : w.cell? ⟨b, 1, none⟩ = some (.int .i64 k)) :
    Calls Tryz.prog 26 #[.iface 96 (.pointer (some ⟨b, 0, none⟩))] w fun ev w' => ev = .returned (.tuple #[.int .i64 k, .int .i64 p]) ∧ Below w.heap.size w w' := by
  have hbl : b < w.heap.size := cell_lt hp
  go_enter Tryz.func26, Tryz.ntmps26
  go_wp2_with fail
  refine (as_hitP _ _ (.pointer none) _ (hgL.alloc _) (by simp) (by simp)).mono ?_
  rintro e w2 ⟨rfl, w3, hb3, rfl⟩
  have hz3 := hb3.size
  have hc3 : w3.cell? ⟨w.heap.size, 0, none⟩ = some (.pointer none) := by rw [hb3.cell (p := ⟨w.heap.size, 0, none⟩) (by simp)]; simp
  have hc : (w3.setCell ⟨w.heap.size, 0, none⟩ (.pointer (some ⟨b, 0, none⟩))).cell? ⟨w.heap.size, 0, none⟩ = some (.pointer (some ⟨b, 0, none⟩)) := by
    rw [World.cell?_setCell_same _ _ _ hc3]
  have hne : ∀ o, (w3.setCell ⟨w.heap.size, 0, none⟩ (.pointer (some ⟨b, 0, none⟩))).cell? ⟨b, o, none⟩ = w.cell? ⟨b, o, none⟩ := fun o => by
    rw [World.cell?_setCell_other _ _ _ _ (by intro h; injection h with h1; omega), hb3.cell (p := ⟨b, o, none⟩) (by simp; omega), World.cell?_alloc_lt _ _ ⟨b, o, none⟩ hbl]
  have hp' : (w3.setCell ⟨w.heap.size, 0, none⟩ (.pointer (some ⟨b, 0, none⟩))).cell? ⟨b, 0, none⟩ = some (.int .i64 p) := by rw [hne]; exact hp
  have hk' : (w3.setCell ⟨w.heap.size, 0, none⟩ (.pointer (some ⟨b, 0, none⟩))).cell? ⟨b, 1, none⟩ = some (.int .i64 k) := by rw [hne]; exact hk
  have hB : Below w.heap.size w (w3.setCell ⟨w.heap.size, 0, none⟩ (.pointer (some ⟨b, 0, none⟩))) := (((Below.refl _ _).alloc (Nat.le_refl _) _).trans (hb3.mono (by simp))).setCell (by simp) _
  clear hne hc3
  generalize (w3.setCell ⟨w.heap.size, 0, none⟩ (.pointer (some ⟨b, 0, none⟩))) = w4 at *
  go_wp2
  go_quiet (fail)
  go_wp2
  go_ret2
  exact ⟨rfl, Go.below_drewN hB _⟩
end Go.Proofs.YtandblanpafjoabGreatDoor

namespace Go.Proofs.YtandblanpafjoabGreatDoor
open Go.RowKit Go.Extern.Stop Go.Stop Go.Extern

/-! A Fault of packets: errors.As finds the Kind within it, by its Unwrap. -/
theorem Tryz.typeOfF (v : Value) (w : World) : (ReflectliteType.typeOf #[.iface 219 v]).run Tryz.prog w = .ok (.iface 192 (.agg #[.pointer (some ⟨1, 219, none⟩)])) w := by kernel_rfl
theorem Tryz.assignFK (w : World) : (ReflectliteType.relation "AssignableTo" ReflectliteType.assignableTo #[.agg #[.pointer (some ⟨1, 219, none⟩)], .iface 192 (.agg #[.pointer (some ⟨1, 39, none⟩)])]).run Tryz.prog w = .ok (.bool false) w := by kernel_rfl
theorem Tryz.noAsF (v : Value) (xT : TypeId) (w : World) : (Instr.typeAssert (.iface 219 v) xT 197 true).run Tryz.prog w = .ok (.tuple #[.nilIface, .bool false]) w := run_typeAssert_lacksB Tryz.underlying197 (by kernel_rfl) (by kernel_rfl) v xT w
theorem Tryz.unwrapF (v : Value) (xT : TypeId) (w : World) : (Instr.typeAssert (.iface 219 v) xT 200 true).run Tryz.prog w = .ok (.tuple #[.iface 219 v, .bool true]) w := run_typeAssert_hasB Tryz.underlying200 (by kernel_rfl) v xT w
theorem Tryz.methodUnwrapF (s : ByteArray) (w : World) : (Go.method 397 219 (.agg #[.string s]) "Unwrap").run Tryz.prog w = .ok (176, .agg #[.string s]) w := by kernel_rfl

set_option maxHeartbeats 1000000 in
theorem fault_unwrap (s : ByteArray) (w : World) :
    Calls Tryz.prog 176 #[.agg #[.string s]] w fun e w' => e = .returned (.iface 39 (.int .i64 5)) ∧ w' = w.alloc (.cells #[.string s] 219) := by
  go_enter Tryz.func176, Tryz.ntmps176
  go_wp2
  go_ret
  exact ⟨rfl, rfl⟩

set_option maxHeartbeats 4000000 in
/-- A Fault has the Kind 5 within. -/
theorem as_hitF (s : ByteArray) (t : Addr) (old : Value) (w : World) (hgL : Laid w) (ht0 : w.cell? t = some old) (hf0 : w.frozen? t = false) :
    Calls Tryz.prog 42 #[.iface 219 (.agg #[.string s]), .iface 101 (.pointer (some t))] w fun ev w' => ev = .returned (.bool true) ∧ ∃ w1, Below w.heap.size w w1 ∧ w' = w1.setCell t (.int .i64 5) := by
  have h6 := @run_callFunc_extern Tryz.prog 66 _ (fun args => ReflectliteValue.unpack (args.getD 0 (.tuple #[]))) Tryz.func66 (by kernel_rfl) (by kernel_rfl) (by kernel_rfl) (by kernel_rfl)
  have h7 := @run_callFunc_extern Tryz.prog 67 _ (ReflectliteValue.methodAny (ReflectliteValue.valueError "reflectlite.Value.Type" 0) (fun t _ _ _ => ReflectliteType.toType t)) Tryz.func67 (by kernel_rfl) (by kernel_rfl) (by kernel_rfl) (by kernel_rfl)
  have h8 := @run_callFunc_extern Tryz.prog 68 _ (ReflectliteValue.method (ReflectliteValue.valueError "reflectlite.Value.IsNil" 0) ReflectliteValue.isNil) Tryz.func68 (by kernel_rfl) (by kernel_rfl) (by kernel_rfl) (by kernel_rfl)
  have h27 := @run_callFunc_extern Tryz.prog 147 _ (ReflectliteType.abiMethod fun t => do pure (.int .u8 (← Rtype.kind t))) Tryz.func147 (by kernel_rfl) (by kernel_rfl) (by kernel_rfl) (by kernel_rfl)
  have h37 := @run_callFunc_extern Tryz.prog 166 _ (ReflectliteType.method ReflectliteType.elem) Tryz.func166 (by kernel_rfl) (by kernel_rfl) (by kernel_rfl) (by kernel_rfl)
  have h38 := @run_callFunc_extern Tryz.prog 167 _ (ReflectliteType.relation "Implements" ReflectliteType.implements_) Tryz.func167 (by kernel_rfl) (by kernel_rfl) (by kernel_rfl) (by kernel_rfl)
  have h10 := @run_callFunc_extern Tryz.prog 95 _ ReflectliteType.typeOf Tryz.func95 (by kernel_rfl) (by kernel_rfl) (by kernel_rfl) (by kernel_rfl)
  have h35 := @run_callFunc_extern Tryz.prog 164 _ (ReflectliteType.relation "AssignableTo" ReflectliteType.assignableTo) Tryz.func164 (by kernel_rfl) (by kernel_rfl) (by kernel_rfl) (by kernel_rfl)
  have h11 := @run_callFunc_extern Tryz.prog 96 _ (ReflectliteValue.method (ReflectliteValue.valueError "reflectlite.Value.Elem" 0) ReflectliteValue.elem) Tryz.func96 (by kernel_rfl) (by kernel_rfl) (by kernel_rfl) (by kernel_rfl)
  have h12 := @run_callFunc_extern Tryz.prog 97 _ ReflectliteValue.set Tryz.func97 (by kernel_rfl) (by kernel_rfl) (by kernel_rfl) (by kernel_rfl)
  have tOF := Tryz.typeOfF
  have tO := Tryz.typeOfK
  have mA := Tryz.methodAssignableTo
  have aFK := Tryz.assignFK
  have aKK := Tryz.assignKK
  have nA := Tryz.noAsF
  have uF := Tryz.unwrapF
  have mU := Tryz.methodUnwrapF
  have vK := Tryz.valueOfK
  have f6 := Tryz.valueOfPK
  have f7 := Tryz.typePK
  have mK := Tryz.methodKind
  have mE := Tryz.methodElem
  have mI := Tryz.methodImplements
  have k27 := Tryz.kindPK
  have k25 := Tryz.kindK
  have e27 := Tryz.elemPK
  have i25 := Tryz.implementsK
  have n8 := Tryz.isNilPK ⟨w.heap.size, 0, none⟩ t ((w.alloc (.cells #[.pointer (some t)] 101)).alloc (.cells #[.pointer (some ⟨1, 101, none⟩), .pointer (some ⟨w.heap.size, 0, none⟩), .int .u64 150] 144)) (by simp)
  have hlt := hgL.lt
  have hg2 : ((w.alloc (.cells #[.pointer (some t)] 101)).alloc (.cells #[.pointer (some ⟨1, 101, none⟩), .pointer (some ⟨w.heap.size, 0, none⟩), .int .u64 150] 144)).cell? ⟨0, 0, none⟩ = some (.iface 192 (.agg #[.pointer (some ⟨1, 68, none⟩)])) := (hgL.alloc _).alloc _
  have htl := cell_lt ht0
  have el := Tryz.elemVK ⟨w.heap.size, 0, none⟩ t ((((w.alloc (.cells #[.pointer (some t)] 101)).alloc (.cells #[.pointer (some ⟨1, 101, none⟩), .pointer (some ⟨w.heap.size, 0, none⟩), .int .u64 150] 144)).alloc (.cells #[.pointer (some ⟨1, 101, none⟩), .pointer (some ⟨w.heap.size, 0, none⟩), .int .u64 150] 144)).alloc (.cells #[.string s] 219)) (by rw [World.cell?_alloc_lt _ _ ⟨w.heap.size, 0, none⟩ (by simp; omega), World.cell?_alloc_lt _ _ ⟨w.heap.size, 0, none⟩ (by simp; omega)]; simp)
  have st := Tryz.setK t ⟨w.heap.size + 1 + 1 + 1 + 1, 0, none⟩ 5 old (((((w.alloc (.cells #[.pointer (some t)] 101)).alloc (.cells #[.pointer (some ⟨1, 101, none⟩), .pointer (some ⟨w.heap.size, 0, none⟩), .int .u64 150] 144)).alloc (.cells #[.pointer (some ⟨1, 101, none⟩), .pointer (some ⟨w.heap.size, 0, none⟩), .int .u64 150] 144)).alloc (.cells #[.string s] 219)).alloc (.cells #[.int .i64 5] 39))
    (by rw [World.cell?_alloc_at _ _ _ _ (by simp)]; rfl)
    (by rw [World.cell?_alloc_lt _ _ t (by simp; omega), World.cell?_alloc_lt _ _ t (by simp; omega), World.cell?_alloc_lt _ _ t (by simp; omega), World.cell?_alloc_lt _ _ t (by simp; omega), World.cell?_alloc_lt _ _ t htl]; exact ht0)
    (by rw [World.frozen?_alloc_old _ _ t (by simp; omega), World.frozen?_alloc_old _ _ t (by simp; omega), World.frozen?_alloc_old _ _ t (by simp; omega), World.frozen?_alloc_old _ _ t (by simp; omega), World.frozen?_alloc_old _ _ t (Nat.ne_of_lt htl)]; exact hf0)
  go_enter Tryz.func42, Tryz.ntmps42
  go_wp2
  refine wp_loop_rounds 2 ?_
  rw [rounds_succ]
  go_wp2_with (go_at_call 176; refine (fault_unwrap s _).mono ?_; rintro e w' ⟨rfl, rfl⟩)
  rw [rounds_succ]
  go_wp2
  go_ret
  exact ⟨rfl, _, (((((Below.refl _ _).alloc (Nat.le_refl _) _).alloc (by simp) _).alloc (by simp; omega) _).alloc (by simp; omega) _).alloc (by simp; omega) _, rfl⟩

end Go.Proofs.YtandblanpafjoabGreatDoor

namespace Go.Proofs.YtandblanpafjoabGreatDoor
open Go.RowKit Go.Extern.Stop Go.Stop Go.Extern

/-! The parts of a packet that are checked. -/
set_option maxHeartbeats 1000000 in
theorem parts_yes (f st ak : Int) (ao : Option Addr) (n c : Nat) (w : World) (h : GoodP f st ak n) :
    Calls Tryz.prog 84 #[.agg #[.int .i64 f, .int .i64 st, .int .i64 ak, .slice ao n c]] w fun e w' => e = .returned .nilIface ∧ w' = w.alloc (.cells #[.int .i64 f, .int .i64 st, .int .i64 ak, .slice ao n c] 130) := by
  obtain ⟨⟨h1, h2⟩, ⟨h3, h4⟩, ⟨h5, h6⟩, h7⟩ := h
  have d1 : decide (f < 0) = false := by simp; omega
  have d2 : decide (st < 0) = false := by simp; omega
  have d3 : decide (ak < 0) = false := by simp; omega
  have h8 : ¬ (64 : Int) < (n : Int) := by omega
  go_enter Tryz.func84, Tryz.ntmps84
  go_wp2
  go_ret
  exact ⟨rfl, rfl⟩

set_option maxHeartbeats 4000000 in
theorem parts_no (f st ak : Int) (ao : Option Addr) (n c : Nat) (w : World) (h : ¬ GoodP f st ak n) :
    Calls Tryz.prog 84 #[.agg #[.int .i64 f, .int .i64 st, .int .i64 ak, .slice ao n c]] w fun e w' => (∃ s, e = .returned (.iface 219 (.agg #[.string s]))) ∧ w' = w.alloc (.cells #[.int .i64 f, .int .i64 st, .int .i64 ak, .slice ao n c] 130) := by
  unfold GoodP at h
  by_cases a1 : f < 0
  · go_enter Tryz.func84, Tryz.ntmps84
    go_wp2
    go_ret
    exact ⟨⟨_, rfl⟩, rfl⟩
  have d1 : decide (f < 0) = false := by simp; omega
  by_cases a2 : 4 ≤ f
  · go_enter Tryz.func84, Tryz.ntmps84
    go_wp2
    go_ret
    exact ⟨⟨_, rfl⟩, rfl⟩
  by_cases a3 : st < 0
  · go_enter Tryz.func84, Tryz.ntmps84
    go_wp2
    go_ret
    exact ⟨⟨_, rfl⟩, rfl⟩
  have d2 : decide (st < 0) = false := by simp; omega
  by_cases a4 : 65535 < st
  · go_enter Tryz.func84, Tryz.ntmps84
    go_wp2
    go_ret
    exact ⟨⟨_, rfl⟩, rfl⟩
  by_cases a5 : ak < 0
  · go_enter Tryz.func84, Tryz.ntmps84
    go_wp2
    go_ret
    exact ⟨⟨_, rfl⟩, rfl⟩
  have d3 : decide (ak < 0) = false := by simp; omega
  by_cases a6 : 65535 < ak
  · go_enter Tryz.func84, Tryz.ntmps84
    go_wp2
    go_ret
    exact ⟨⟨_, rfl⟩, rfl⟩
  have h8 : (64 : Int) < (n : Int) := by omega
  clear h
  go_enter Tryz.func84, Tryz.ntmps84
  go_wp2
  go_ret
  exact ⟨⟨_, rfl⟩, rfl⟩

set_option maxHeartbeats 400000 in
theorem pksum_any (b off n c : Nat) (l : List Int) (w : World) (hl : l.length = n) (hn : n ≤ 100000)
    (hc : ∀ j, j < n → w.cell? ⟨b, off + j, none⟩ = some (.int .u8 (l.getD j 0))) :
    Calls Tryz.prog 86 #[.slice (some ⟨b, off, none⟩) n c] w fun e w' => e = .returned (.int .u8 (xorL l)) ∧ w' = w := by
  go_enter Tryz.func86, Tryz.ntmps86
  go_wp2
  go_loop [3, 8] (fun v i => ∃ k : Nat, k ≤ n ∧ i = .int .i64 k ∧ v = .int .u8 (xorL (l.take k))) (fun _ i => n - (intOf i).toNat)
  case atStart => exact ⟨0, Nat.zero_le _, rfl, rfl⟩
  case round =>
    obtain ⟨k, hk, rfl, rfl⟩ := hrel
    by_cases hlt : k < n
    · have hcell := hc k hlt
      have hs := hide (xorL_snoc l k (by omega))
      go_wp2
      go_round
      case rel => exact ⟨k + 1, by omega, by go_num, int_eq (unhide hs).symm⟩
      case measure => simp [intOf]; omega
    · go_wp2
      go_ret
      exact ⟨ret_int (by rw [List.take_of_length_le (by omega)]), rfl⟩

set_option maxHeartbeats 400000 in
theorem pkappend_any (x : Int) (base g n cap : Nat) (xs : List Value) (w : World) (hx0 : 0 ≤ x) (hx1 : x ≤ 65535) (hown : w.ownsRow base 5 1 (.slice (some ⟨g, 0, none⟩) n cap) n xs) (hroom : n + 2 ≤ cap) :
    Calls Tryz.prog 85 #[.slice (some ⟨g, 0, none⟩) n cap, .int .i64 x] w fun e w' => e = .returned (.slice (some ⟨g, 0, none⟩) (n + 2) cap) ∧ w'.ownsRow base 5 1 (.slice (some ⟨g, 0, none⟩) (n + 2) cap) (n + 2) (xs ++ [.int .u8 (x / 256), .int .u8 (x % 256)]) ∧ w.grownBy w' (some g) := by
  obtain ⟨i8, hi8, hz8, hs8, hy8⟩ := info_parts Tryz.infoU8
  have HT := hide (And.intro hi8 hs8)
  have HOWN := hide hown
  clear hi8 hz8 hs8 hy8 hown
  go_enter Tryz.func85, Tryz.ntmps85
  go_wp2_with (at_builtin; refine wpList_append_fits rfl _ _ 35 rfl base 5 i8 Tryz.underlying35 (unhide HT).1 (unhide HT).2 g n cap xs rfl ((unhide HOWN).alloc _) _ 2 2 _ rfl (fun h => by cases h) rfl (src_new2 _ _ _ _ _ rfl) hroom ?_; intro w' hown' hgr')
  go_ret
  refine ⟨rfl, ?_, ?_⟩
  · simpa using hown'
  · exact grown_trans (World.grownBy_alloc w _ (some g)) hgr'
end Go.Proofs.YtandblanpafjoabGreatDoor

namespace Go.Proofs.YtandblanpafjoabGreatDoor
open Go.RowKit Go.Extern.Stop Go.Stop Go.Extern

/-- A packet's four cells. -/
def BoxAt (w : World) (b : Nat) (f st ak : Int) (v : Value) : Prop :=
  w.cell? ⟨b, 0, none⟩ = some (.int .i64 f) ∧ w.cell? ⟨b, 1, none⟩ = some (.int .i64 st) ∧ w.cell? ⟨b, 2, none⟩ = some (.int .i64 ak) ∧ w.cell? ⟨b, 3, none⟩ = some v
theorem BoxAt.new (w : World) (f st ak : Int) (v : Value) (t : TypeId) : BoxAt (w.alloc (.cells #[.int .i64 f, .int .i64 st, .int .i64 ak, v] t)) w.heap.size f st ak v := by
  refine ⟨?_, ?_, ?_, ?_⟩ <;> (rw [World.cell?_alloc_new]; rfl)
theorem BoxAt.lt {w : World} {b : Nat} {f st ak : Int} {v : Value} (h : BoxAt w b f st ak v) : b < w.heap.size := cell_lt h.1
theorem BoxAt.same {w w' : World} {b : Nat} {f st ak : Int} {v : Value} (h : BoxAt w b f st ak v) (e : w'.heap[b]? = w.heap[b]?) : BoxAt w' b f st ak v := by
  obtain ⟨h0, h1, h2, h3⟩ := h
  refine ⟨?_, ?_, ?_, ?_⟩ <;> (rw [World.cell?_of_block (w := w) (by exact e)]; assumption)
theorem BoxAt.grown {w w' : World} {b g : Nat} {f st ak : Int} {v : Value} (h : BoxAt w b f st ak v) (hg : w.grownBy w' (some g)) (hne : b ≠ g) : BoxAt w' b f st ak v :=
  h.same (hg.block b h.lt (fun e => hne (by injection e)))
theorem BoxAt.alloc {w : World} {b : Nat} {f st ak : Int} {v : Value} (h : BoxAt w b f st ak v) (o : Obj) : BoxAt (w.alloc o) b f st ak v := h.same (heap_alloc_old w o h.lt)

/-- What stands while a packet is written: its parts, its inputs, and that what was there before is as it was. -/
structure WInv (w wk : World) (g : Nat) (f st ak : Int) (ao : Option Addr) (n c : Nat) (l : List Int) : Prop where
  box : BoxAt wk w.heap.size f st ak (.slice ao n c)
  src : SrcAt wk ao l
  below : Below w.heap.size w wk
  lt : g < wk.heap.size
theorem WInv.alloc {w wk : World} {g : Nat} {f st ak : Int} {ao : Option Addr} {n c : Nat} {l : List Int} (h : WInv w wk g f st ak ao n c l) (o : Obj) : WInv w (wk.alloc o) g f st ak ao n c l :=
  ⟨h.box.alloc o, h.src.alloc o, h.below.alloc h.below.size o, by have := h.lt; simp; omega⟩
theorem WInv.grown {w wk w' : World} {g : Nat} {f st ak : Int} {ao : Option Addr} {n c : Nat} {l : List Int} (h : WInv w wk g f st ak ao n c l) (hg : wk.grownBy w' (some g)) (hw : w.heap.size < g) (hs : ∀ b, ao.map (·.block) = some b → b < w.heap.size) : WInv w w' g f st ak ao n c l :=
  ⟨h.box.grown hg (by omega), h.src.grown hg (fun b hb => by have := hs b hb; omega), h.below.trans (below_grown hg h.below.size (by omega)), by have := h.lt; have := hg.size; omega⟩

set_option maxRecDepth 100000 in
set_option maxHeartbeats 2000000 in
theorem write_yes (f st ak : Int) (ao : Option Addr) (n c : Nat) (l : List Int) (w : World) (h : GoodP f st ak n) (hl : l.length = n) (hc0 : ao = none → c = 0) (hsrc : SrcAt w ao l) :
    Calls Tryz.prog 55 #[.agg #[.int .i64 f, .int .i64 st, .int .i64 ak, .slice ao n c]] w fun e w' => ∃ g, e = .returned (.tuple #[.slice (some ⟨g, 0, none⟩) (8 + n) (8 + n), .nilIface]) ∧ w.heap.size ≤ g ∧ Blk w' g (nums .u8 (packL f st ak l)) 5 ∧ Below w.heap.size w w' := by
  have HG := hide h
  obtain ⟨⟨h1, h2⟩, ⟨h3, h4⟩, ⟨h5, h6⟩, h7⟩ := h
  obtain ⟨i8, hi8, hz8, hs8, hy8⟩ := info_parts Tryz.infoU8
  have hmk : ∀ W : World, (Instr.makeSlice 35 (.int .i64 0) (.int .i64 (8 + (n : Int)))).run Tryz.prog W = .ok (.slice (some ⟨W.heap.size, 0, none⟩) 0 (8 + n)) (W.alloc (.cells (nums .u8 (List.replicate (8 + n) 0)) 5)) := fun W => by
    rw [run_make W 35 5 i8 (.int .u8 0) Tryz.underlying35 hi8 hz8 .i64 .i64 _ _ (by omega) (by omega) (by rw [hy8]; omega) (by omega)]
    rw [show (8 + (n : Int)).toNat = 8 + n by omega, show (0 : Int).toNat = 0 from rfl, hs8, Nat.mul_one, show madeCells (Value.cells (.int .u8 0)) (8 + n) = nums .u8 (List.replicate (8 + n) 0) from made_zeros _]
  have HT := hide (And.intro hi8 hs8)
  have HS := hide hsrc
  have HC := hide hc0
  have HL := hide hl
  have hcf : f % 256 = f := by omega
  have hcn : (n : Int) % 256 = (n : Int) := by omega
  clear hi8 hz8 hs8 hy8 hsrc hc0 hl
  go_enter Tryz.func55, Tryz.ntmps55
  go_wp2_with fail
  refine (parts_yes f st ak ao n c _ (unhide HG)).mono ?_
  rintro e w1 ⟨rfl, rfl⟩
  have HI := hide (WInv.mk (w := w) (g := w.heap.size + 1) (((BoxAt.new w f st ak (.slice ao n c) 130).alloc (.cells #[.int .i64 f, .int .i64 st, .int .i64 ak, .slice ao n c] 130))) (((unhide HS).alloc (.cells #[.int .i64 f, .int .i64 st, .int .i64 ak, .slice ao n c] 130)).alloc (.cells #[.int .i64 f, .int .i64 st, .int .i64 ak, .slice ao n c] 130))
    (((Below.refl w.heap.size w).alloc (Nat.le_refl _) (.cells #[.int .i64 f, .int .i64 st, .int .i64 ak, .slice ao n c] 130)).alloc (by simp) (.cells #[.int .i64 f, .int .i64 st, .int .i64 ak, .slice ao n c] 130)) (by simp))
  generalize ((w.alloc (.cells #[.int .i64 f, .int .i64 st, .int .i64 ak, .slice ao n c] 130)).alloc (.cells #[.int .i64 f, .int .i64 st, .int .i64 ak, .slice ao n c] 130)) = W at *
  have hlt0 := (unhide HI).lt
  have hlt1 : w.heap.size < W.heap.size := by omega
  have hne1 : w.heap.size ≠ W.heap.size := by omega
  have HI1 := hide (WInv.mk (g := W.heap.size) ((unhide HI).box.alloc (.cells (nums .u8 (List.replicate (8 + n) 0)) 5)) ((unhide HI).src.alloc _) ((unhide HI).below.alloc (unhide HI).below.size _) (by simp))
  have HSL := hide (unhide HS).lt
  obtain ⟨b0, b1, b2, b3⟩ := (unhide HI).box
  clear hlt0
  go_wp2_with (first
    | (at_builtin; refine wpList_append_fits rfl _ _ 35 rfl w.heap.size 5 i8 Tryz.underlying35 (unhide HT).1 (unhide HT).2 W.heap.size 0 (8 + n) [] rfl ((World.ownsRow_made W (nums .u8 (List.replicate (8 + n) 0)) (8 + n) (by omega) (by unfold maxLen; omega) (by simp [nums_size])).alloc _) _ 2 2 _ rfl (fun h => by cases h) rfl (src_new2 _ _ _ _ _ (by simp)) (by omega) ?_; intro w1 hown1 hgr1; have HI2 := hide (((unhide HI1).alloc _).grown hgr1 hlt1 (unhide HSL)); have HO1 := hide hown1; clear hown1 hgr1 b0 b1 b2 b3; obtain ⟨b0, b1, b2, b3⟩ := (unhide HI2).box))
  refine (pkappend_any st w.heap.size W.heap.size 2 (8 + n) _ w1 h3 h4 (unhide HO1) (by omega)).mono ?_
  rintro e w2 ⟨rfl, hown2, hgr2⟩
  have HI3 := hide ((unhide HI2).grown hgr2 hlt1 (unhide HSL))
  have HO2 := hide hown2
  clear hown2 hgr2 b0 b1 b2 b3
  obtain ⟨b0, b1, b2, b3⟩ := (unhide HI3).box
  go_wp2_with fail
  refine (pkappend_any ak w.heap.size W.heap.size 4 (8 + n) _ w2 h5 h6 (unhide HO2) (by omega)).mono ?_
  rintro e w3 ⟨rfl, hown3, hgr3⟩
  have HI4 := hide ((unhide HI3).grown hgr3 hlt1 (unhide HSL))
  have HO3 := hide hown3
  clear hown3 hgr3 b0 b1 b2 b3
  obtain ⟨b0, b1, b2, b3⟩ := (unhide HI4).box
  go_wp2_with (first
    | (at_builtin; refine wpList_append_fits rfl _ _ 35 rfl w.heap.size 5 i8 Tryz.underlying35 (unhide HT).1 (unhide HT).2 W.heap.size 6 (8 + n) _ rfl ((unhide HO3).alloc _) _ 1 1 _ rfl (fun h => by cases h) rfl (src_new1 _ _ _ _ (by simp)) (by omega) ?_; intro w4 hown4 hgr4; have HI5 := hide (((unhide HI4).alloc _).grown hgr4 hlt1 (unhide HSL)); have HO4 := hide hown4; clear hown4 hgr4 b0 b1 b2 b3; obtain ⟨b0, b1, b2, b3⟩ := (unhide HI5).box)
    | (at_builtin; refine wpList_append_fits rfl _ _ 35 rfl w.heap.size 5 i8 Tryz.underlying35 (unhide HT).1 (unhide HT).2 W.heap.size 7 (8 + n) _ rfl (unhide HO4) ao n c l rfl (unhide HC) (unhide HL) (unhide HI5).src (by omega) ?_; intro w5 hown5 hgr5; have HI6 := hide ((unhide HI5).grown hgr5 hlt1 (unhide HSL)); have HO5 := hide hown5; clear hown5 hgr5 b0 b1 b2 b3))
  have HH : Hid (w5.ownsRow w.heap.size 5 1 (.slice (some ⟨W.heap.size, 0, none⟩) (7 + n) (8 + n)) (7 + n) ((headL f st ak l).map (Value.int .u8))) := by
    have := unhide HO5
    have e : ([] ++ List.map (Value.int IntKind.u8) [82, f] ++ [Value.int IntKind.u8 (st / 256), Value.int IntKind.u8 (st % 256)] ++ [Value.int IntKind.u8 (ak / 256), Value.int IntKind.u8 (ak % 256)] ++ List.map (Value.int IntKind.u8) [(n : Int)] ++ List.map (Value.int IntKind.u8) l) = (headL f st ak l).map (Value.int .u8) := by
      simp [headL, unhide HL]
    rw [e] at this
    exact hide this
  refine (pksum_any W.heap.size 0 (7 + n) (8 + n) (headL f st ak l) w5 (by rw [headL_len, unhide HL]) (by omega) (fun j hj => own_num (unhide HH) (by rw [headL_len, unhide HL]) j hj)).mono ?_
  rintro e w5' ⟨rfl, rfl⟩
  go_wp2_with (at_builtin; refine wpList_append_fits rfl _ _ 35 rfl w.heap.size 5 i8 Tryz.underlying35 (unhide HT).1 (unhide HT).2 W.heap.size (7 + n) (8 + n) _ rfl ((unhide HH).alloc _) _ 1 1 _ rfl (fun h => by cases h) rfl (src_new1 _ _ _ _ rfl) (by omega) ?_; intro w6 hown6 hgr6; have HI7 := hide (((unhide HI6).alloc _).grown hgr6 hlt1 (unhide HSL)); have HO6 := hide hown6; clear hown6 hgr6)
  go_ret2
  have hfin : w6.ownsRow w.heap.size 5 1 (.slice (some ⟨W.heap.size, 0, none⟩) (8 + n) (8 + n)) (8 + n) ((packL f st ak l).map (Value.int .u8)) := by
    have := unhide HO6
    rw [show 7 + n + 1 = 8 + n by omega] at this
    simpa [packL] using this
  refine ⟨W.heap.size, ?_, by omega, (own_blk hfin).2, (unhide HI7).below⟩
  rw [show 7 + n + 1 = 8 + n by omega]; rfl

set_option maxHeartbeats 1000000 in
theorem write_no (f st ak : Int) (ao : Option Addr) (n c : Nat) (w : World) (h : ¬ GoodP f st ak n) :
    Calls Tryz.prog 55 #[.agg #[.int .i64 f, .int .i64 st, .int .i64 ak, .slice ao n c]] w fun e w' => (∃ s, e = .returned (.tuple #[.slice none 0 0, .iface 219 (.agg #[.string s])])) ∧ Below w.heap.size w w' := by
  go_enter Tryz.func55, Tryz.ntmps55
  go_wp2_with fail
  refine (parts_no f st ak ao n c _ h).mono ?_
  rintro e w1 ⟨⟨s, rfl⟩, rfl⟩
  go_wp2
  go_ret2
  exact ⟨⟨s, rfl⟩, ((Below.refl _ _).alloc (Nat.le_refl _) _).alloc (by simp) _⟩

end Go.Proofs.YtandblanpafjoabGreatDoor

