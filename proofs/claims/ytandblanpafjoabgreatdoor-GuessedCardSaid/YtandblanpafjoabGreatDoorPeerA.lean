import Derived.Test.YtandblanpafjoabGreatDoorFullB
import Derived.Test.YtandblanpafjoabGreatDoorDelP
import Derived.Test.YtandblanpafjoabGreatDoorPeerP
import Derived.Test.YtandblanpafjoabGreatDoorTold
namespace Go.Proofs.YtandblanpafjoabGreatDoor
open Go.RowKit Go.Extern.Stop Go.Stop Go.Extern

/-! Stores behind their interface; peers in memory. -/
def StoreAt (w : World) (st : Value) (F : Nat → Prop) (n win lo frame : Nat) (fs : Nat → List Int) : Prop :=
  (∃ sb pb rb, st = .iface 231 (.pointer (some ⟨sb, 0, none⟩)) ∧ FullAt w sb F n win lo frame fs pb rb) ∨
  (∃ sb pb rb mb, st = .iface 229 (.pointer (some ⟨sb, 0, none⟩)) ∧ DeltaAt w sb F n win lo frame fs pb rb mb)
theorem StoreAt.same {w w' : World} {st : Value} {F : Nat → Prop} {n win lo frame : Nat} {fs : Nat → List Int} (h : StoreAt w st F n win lo frame fs) (hs : Same F w w') : StoreAt w' st F n win lo frame fs := by
  rcases h with ⟨sb, pb, rb, e, h⟩ | ⟨sb, pb, rb, mb, e, h⟩
  · exact .inl ⟨sb, pb, rb, e, h.same hs⟩
  · exact .inr ⟨sb, pb, rb, mb, e, h.same hs⟩
theorem StoreAt.congr {w : World} {st : Value} {F : Nat → Prop} {n win lo frame : Nat} {fs gs : Nat → List Int} (h : StoreAt w st F n win lo frame fs) (he : ∀ f, f < frame → gs f = fs f) : StoreAt w st F n win lo frame gs := by
  rcases h with ⟨sb, pb, rb, e, h⟩ | ⟨sb, pb, rb, mb, e, h⟩
  · exact .inl ⟨sb, pb, rb, e, h.congr he⟩
  · exact .inr ⟨sb, pb, rb, mb, e, h.congr he⟩
theorem StoreAt.lower {w : World} {st : Value} {F : Nat → Prop} {n win lo lo' frame : Nat} {fs : Nat → List Int} (h : StoreAt w st F n win lo frame fs) (hl : lo ≤ lo') : StoreAt w st F n win lo' frame fs := by
  rcases h with ⟨sb, pb, rb, e, h⟩ | ⟨sb, pb, rb, mb, e, h⟩
  · exact .inl ⟨sb, pb, rb, e, h.lower hl⟩
  · exact .inr ⟨sb, pb, rb, mb, e, h.lower hl⟩
theorem mFrameF (a : Addr) (w : World) : (Go.method 397 231 (.pointer (some a)) "Frame").run Tryz.prog w = .ok (180, .pointer (some (a.add 0))) w := by kernel_rfl
theorem mFrameD (a : Addr) (w : World) : (Go.method 397 229 (.pointer (some a)) "Frame").run Tryz.prog w = .ok (180, .pointer (some (a.add 0))) w := by kernel_rfl
theorem mPlayF (a : Addr) (w : World) : (Go.method 397 231 (.pointer (some a)) "Play").run Tryz.prog w = .ok (187, .pointer (some a)) w := by kernel_rfl
theorem mPlayD (a : Addr) (w : World) : (Go.method 397 229 (.pointer (some a)) "Play").run Tryz.prog w = .ok (181, .pointer (some a)) w := by kernel_rfl
theorem mStateF (a : Addr) (w : World) : (Go.method 397 231 (.pointer (some a)) "State").run Tryz.prog w = .ok (188, .pointer (some a)) w := by kernel_rfl
theorem mStateD (a : Addr) (w : World) : (Go.method 397 229 (.pointer (some a)) "State").run Tryz.prog w = .ok (183, .pointer (some a)) w := by kernel_rfl
theorem mBackF (a : Addr) (w : World) : (Go.method 397 231 (.pointer (some a)) "Back").run Tryz.prog w = .ok (186, .pointer (some a)) w := by kernel_rfl
theorem mBackD (a : Addr) (w : World) : (Go.method 397 229 (.pointer (some a)) "Back").run Tryz.prog w = .ok (179, .pointer (some a)) w := by kernel_rfl
theorem mPlayedF (a : Addr) (w : World) : (Go.method 397 231 (.pointer (some a)) "Played").run Tryz.prog w = .ok (182, .pointer (some (a.add 0))) w := by kernel_rfl
theorem mPlayedD (a : Addr) (w : World) : (Go.method 397 229 (.pointer (some a)) "Played").run Tryz.prog w = .ok (182, .pointer (some (a.add 0))) w := by kernel_rfl

def pCells (num n win delay dropped : Nat) (v : Nat → Value) (ak : Nat → Nat) (st : Value) : List Value :=
  [.int .i64 (num : Int), .int .i64 (n : Int), .int .i64 (win : Int), .int .i64 (delay : Int), .int .i64 (dropped : Int), v 0, v 1, v 2, v 3, .int .i64 (ak 0 : Int), .int .i64 (ak 1 : Int), .int .i64 (ak 2 : Int), .int .i64 (ak 3 : Int), st]
/-- A peer but for its store. -/
structure PeerK (w : World) (b : Nat) (F FS : Nat → Prop) (num n win delay : Nat) (x : PeerM) (v : Nat → Value) (st : Value) : Prop where
  blk : Blk w b (pCells num n win delay x.dropped v (fun q => if q < n then x.acked q else 0) st).toArray 122
  known : ∀ q, q < n → w.ownsRow 0 5 1 (v q) (x.known q).length ((x.known q).map (Value.int .u8))
  nils : ∀ q, n ≤ q → v q = .slice none 0 0
  lens : ∀ q, q < n → (x.known q).length ≤ 203
  fb : F b
  fk : ∀ q k, q < n → (v q).ownBlock = some k → F k ∧ k ≠ b ∧ ¬ FS k
  fd : ∀ q q' k, q < n → q' < n → (v q).ownBlock = some k → (v q').ownBlock = some k → q = q'
  fs : ∀ k, FS k → F k ∧ k ≠ b
  hn2 : 2 ≤ n
  hn4 : n ≤ 4
  hw : 1 ≤ win ∧ win ≤ 8
  hnum : num < n
  drop : x.dropped ≤ 1000000000
structure PeerAt (w : World) (b : Nat) (F FS : Nat → Prop) (num n win delay : Nat) (x : PeerM) (v : Nat → Value) (st : Value) : Prop extends PeerK w b F FS num n win delay x v st where
  store : StoreAt w st FS n win (x.frame - win) x.frame (insM x n)
  ok : POk x num n win delay
theorem PeerK.same {w w' : World} {b : Nat} {F FS : Nat → Prop} {num n win delay : Nat} {x : PeerM} {v : Nat → Value} {st : Value} (h : PeerK w b F FS num n win delay x v st) (hs : Same F w w') : PeerK w' b F FS num n win delay x v st :=
  ⟨h.blk.same hs h.fb, fun q hq => owns_same (h.known q hq) (fun k hk => hs k (h.fk q k hq hk).1), h.nils, h.lens, h.fb, h.fk, h.fd, h.fs, h.hn2, h.hn4, h.hw, h.hnum, h.drop⟩
theorem PeerAt.same {w w' : World} {b : Nat} {F FS : Nat → Prop} {num n win delay : Nat} {x : PeerM} {v : Nat → Value} {st : Value} (h : PeerAt w b F FS num n win delay x v st) (hs : Same F w w') : PeerAt w' b F FS num n win delay x v st :=
  ⟨h.toPeerK.same hs, h.store.same (hs.mono (fun k hk => (h.fs k hk).1)), h.ok⟩
theorem PeerK.cell {w : World} {b : Nat} {F FS : Nat → Prop} {num n win delay : Nat} {x : PeerM} {v : Nat → Value} {st : Value} (h : PeerK w b F FS num n win delay x v st) (i : Nat) : w.cell? ⟨b, i, none⟩ = (pCells num n win delay x.dropped v (fun q => if q < n then x.acked q else 0) st)[i]? := by
  rw [h.blk.cell]; simp
theorem PeerAt.cell {w : World} {b : Nat} {F FS : Nat → Prop} {num n win delay : Nat} {x : PeerM} {v : Nat → Value} {st : Value} (h : PeerAt w b F FS num n win delay x v st) (i : Nat) : w.cell? ⟨b, i, none⟩ = (pCells num n win delay x.dropped v (fun q => if q < n then x.acked q else 0) st)[i]? := h.toPeerK.cell i
theorem PeerK.cK {w : World} {b : Nat} {F FS : Nat → Prop} {num n win delay : Nat} {x : PeerM} {v : Nat → Value} {st : Value} (h : PeerK w b F FS num n win delay x v st) (q : Nat) (hq : q < 4) : w.cell? ⟨b, 5 + q, none⟩ = some (v q) := by
  rw [h.cell]
  rcases q with _ | _ | _ | _ | q
  · rfl
  · rfl
  · rfl
  · rfl
  · omega
theorem PeerK.cA {w : World} {b : Nat} {F FS : Nat → Prop} {num n win delay : Nat} {x : PeerM} {v : Nat → Value} {st : Value} (h : PeerK w b F FS num n win delay x v st) (q : Nat) (hq : q < n) : w.cell? ⟨b, 9 + q, none⟩ = some (.int .i64 (x.acked q : Int)) := by
  rw [h.cell]
  have := h.hn4
  rcases q with _ | _ | _ | _ | q
  · simp [pCells, hq]
  · simp [pCells, hq]
  · simp [pCells, hq]
  · simp [pCells, hq]
  · omega
theorem PeerK.shape {w : World} {b : Nat} {F FS : Nat → Prop} {num n win delay : Nat} {x : PeerM} {v : Nat → Value} {st : Value} (h : PeerK w b F FS num n win delay x v st) (q : Nat) (hq : q < n) : ∃ ao c, v q = .slice ao (x.known q).length c ∧ (∀ a, ao = some a → ∃ g, a = ⟨g, 0, none⟩ ∧ g < w.heap.size ∧ (x.known q).length ≤ c ∧ ∀ j, j < (x.known q).length → w.cell? ⟨g, j, none⟩ = some (.int .u8 ((x.known q).getD j 0))) ∧ (ao = none → (x.known q).length = 0 ∧ c = 0) := by
  obtain ⟨h1, h2⟩ := h.known q hq
  rcases h2 with ⟨e, h0⟩ | ⟨g, cap, cur, e, _, hg, hc, _, hs, ht⟩
  · exact ⟨none, 0, by rw [e, h0], fun a ha => (by cases ha), fun _ => ⟨h0, rfl⟩⟩
  · refine ⟨some ⟨g, 0, none⟩, cap, e, fun a ha => ?_, fun ha => (by cases ha)⟩
    cases ha
    refine ⟨g, rfl, (Array.getElem?_eq_some_iff.1 hg).1, hc, fun j hj => ?_⟩
    rw [cell_of_row w g j cur 5 (0, 0) hg]
    have := congrArg (fun l => l[j]?) ht
    simp only [Nat.mul_one, List.getElem?_take, hj, if_true, Array.getElem?_toList, List.getElem?_map] at this
    rw [this]
    simp [hj]
end Go.Proofs.YtandblanpafjoabGreatDoor
