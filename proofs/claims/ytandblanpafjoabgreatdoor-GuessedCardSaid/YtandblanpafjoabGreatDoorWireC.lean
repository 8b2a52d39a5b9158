import Derived.Test.YtandblanpafjoabGreatDoorWireB
import Derived.Test.YtandblanpafjoabGreatDoorMid
namespace Go.Proofs.YtandblanpafjoabGreatDoor
open Go.RowKit Go.Extern.Stop Go.Stop Go.Extern

theorem wrapQ (a : Addr) (w : World) (s t : ByteArray) (ts : Array TypeId) (x : TypeId) : (Builtin.ssaWrapNilChk_ ts x #[.pointer (some a), .string s, .string t]).run Tryz.prog w = .ok (.pointer (some a)) w := by rfl
theorem recvQ (a : Addr) (w : World) (v : Value) (s : String) (h : (loadVar 79 a).run Tryz.prog w = .ok v w) : (receiverAt 125 (.val (.pointer (some a))) false (some s)).run Tryz.prog w = .ok v w := by
  have hu : (underlying 125).run Tryz.prog w = .ok (.pointer 79) w := by kernel_rfl
  unfold receiverAt
  simp only [Sem.run_bind, hu, Result.andThen_ok, Place.get, Sem.run_pure, strVal, wrapQ, asAddr, h]
theorem info_run (t : TypeId) (i : TypeInfo) (w : World) (h : Tryz.prog.info? t = some i) : (typeInfo t).run Tryz.prog w = .ok i w := by
  have : (program).run Tryz.prog w = .ok Tryz.prog w := rfl
  unfold typeInfo
  simp only [Sem.run_bind, this, Result.andThen_ok, h, Sem.run_pure]
/-- A method with a value receiver, through a pointer. -/
theorem mQ (k : Nat) (a : Addr) (w : World) (v : Value) (name : String) (fn : FuncId) (hm : (Tryz.prog.info? 125).bind (fun i => (i.methods.find? (·.name == name)).map (fun m => (m.path.toList.length, m.func))) = some (0, some (fn, false)))
    (h : (loadVar 79 a).run Tryz.prog w = .ok v w) : (Go.method (k + 1) 125 (.pointer (some a)) name).run Tryz.prog w = .ok (fn, v) w := by
  cases hi : Tryz.prog.info? 125 with
  | none => rw [hi] at hm; simp at hm
  | some i =>
    rw [hi] at hm
    simp only [Option.bind_some] at hm
    cases hf : i.methods.find? (·.name == name) with
    | none => rw [hf] at hm; simp at hm
    | some m =>
      rw [hf] at hm
      simp only [Option.map_some, Option.some.injEq, Prod.mk.injEq] at hm
      obtain ⟨hp, hfn⟩ := hm
      have hp' : m.path.toList = [] := List.length_eq_zero_iff.1 hp
      have hp2 : m.path.isEmpty = true := by simpa using hp
      unfold Go.method
      simp only [Sem.run_bind, info_run _ i w hi, Result.andThen_ok, hf, hp', hfn, hp2, follow, Sem.run_pure, if_true, recvQ a w v _ h]
theorem mLen (a : Addr) (w : World) (v : Value) (h : (loadVar 79 a).run Tryz.prog w = .ok v w) : (Go.method 397 125 (.pointer (some a)) "Len").run Tryz.prog w = .ok (152, v) w := mQ _ a w v "Len" 152 (by kernel_rfl) h
theorem mLess (a : Addr) (w : World) (v : Value) (h : (loadVar 79 a).run Tryz.prog w = .ok v w) : (Go.method 397 125 (.pointer (some a)) "Less").run Tryz.prog w = .ok (153, v) w := mQ _ a w v "Less" 153 (by kernel_rfl) h
theorem mSwap (a : Addr) (w : World) (v : Value) (h : (loadVar 79 a).run Tryz.prog w = .ok v w) : (Go.method 397 125 (.pointer (some a)) "Swap").run Tryz.prog w = .ok (154, v) w := mQ _ a w v "Swap" 154 (by kernel_rfl) h
theorem mPush (a : Addr) (w : World) : (Go.method 397 125 (.pointer (some a)) "Push").run Tryz.prog w = .ok (158, .pointer (some a)) w := by kernel_rfl
theorem mPop (a : Addr) (w : World) : (Go.method 397 125 (.pointer (some a)) "Pop").run Tryz.prog w = .ok (157, .pointer (some a)) w := by kernel_rfl
theorem loadQ (b o : Nat) (w : World) (v : Value) (h : w.cell? ⟨b, o, none⟩ = some v) : (loadVar 79 ⟨b, o, none⟩).run Tryz.prog w = .ok v w := by
  go_simp
end Go.Proofs.YtandblanpafjoabGreatDoor
