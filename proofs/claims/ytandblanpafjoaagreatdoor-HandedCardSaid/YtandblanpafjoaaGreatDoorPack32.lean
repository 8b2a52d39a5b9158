import Derived.Test.YtandblanpafjoaaGreatDoorPack30
import Derived.Test.YtandblanpafjoaaGreatDoorPack25
import Derived.Test.YtandblanpafjoaaGreatDoorPack14
import Derived.Test.YtandblanpafjoaaGreatDoorPack31
import Derived.BigQuiet
namespace Go.Proofs.YtandblanpafjoaaGreatDoor
open Go.RowKit Go.Extern.Stop Go.Stop Go.Extern
inductive RR
  | none | net | lags | peers | peer (p : Nat) | known (p : Nat) | acked (p : Nat) | list (p q : Nat) | fls | bytes
  deriving DecidableEq
structure RLoc where
  st : Int
  lagv : Value
  prb : Nat
  prc : Nat
  flv : Value
  pb : Nat → Nat
  kb : Nat → Nat
  kc : Nat → Nat
  ab : Nat → Nat
  lb : Nat → Nat → Nat
  lc : Nat → Nat → Nat
  fb : Nat → Value
def rlV (L : RLoc) (m : NetM) (p q : Nat) : Value := .slice (some ⟨L.lb p q, 0, none⟩) ((m.peers p).known q).length (L.lc p q)
def rflC (L : RLoc) (f : FlyM) : List Value := [.int .i64 (f.to : Int), .int .i64 (f.due : Int), .int .i64 (f.num : Int), L.fb f.num]
def rnC (L : RLoc) (m : NetM) : Array Value := #[.int .i64 (m.players : Int), .int .i64 (m.window : Int), .int .i64 (m.delay : Int), .int .i64 L.st, L.lagv, .slice (some ⟨L.prb, 0, none⟩) m.players L.prc, L.flv, .int .i64 (m.now : Int), .int .i64 (m.sent : Int)]
def rpC (L : RLoc) (m : NetM) (p : Nat) : Array Value := #[.slice (some ⟨L.kb p, 0, none⟩) m.players (L.kc p), .int .i64 ((m.peers p).frame : Int), .slice (some ⟨L.ab p, 0, none⟩) m.players m.players, .int .i64 ((m.peers p).dropped : Int)]
def akL (m : NetM) (p : Nat) : List Int := (List.range m.players).map fun q => ((m.peers p).acked q : Int)
theorem akL_len (m : NetM) (p : Nat) : (akL m p).length = m.players := by simp [akL]
theorem akL_get (m : NetM) (p q : Nat) (hq : q < m.players) : (akL m p).getD q 0 = ((m.peers p).acked q : Int) := by simp [akL, List.getD_eq_getElem?_getD, hq]
/-- A row of one's own, of a part. -/
def Owns (w : World) (ro : Nat → RR) (r : RR) (e : TypeId) (s : Nat) (v : Value) (n : Nat) (xs : List Value) : Prop := w.ownsRow 0 e s v n xs ∧ ∀ k, v.ownBlock = some k → ro k = r
def BlkR (w : World) (ro : Nat → RR) (r : RR) (g : Nat) (cs : Array Value) (t : TypeId) : Prop := Blk w g cs t ∧ ro g = r
def BytesR (w : World) (ro : Nat → RR) (v : Value) (l : List Int) : Prop := ∃ g c, v = .slice (some ⟨g, 0, none⟩) l.length c ∧ l.length ≤ c ∧ (∀ j, j < l.length → w.cell? ⟨g, j, none⟩ = some (.int .u8 (l.getD j 0))) ∧ g < w.heap.size ∧ ro g = .bytes
structure RNet (w : World) (ro : Nat → RR) (nb : Nat) (m : NetM) (L : RLoc) : Prop where
  n2 : 2 ≤ m.players
  n4 : m.players ≤ 4
  lt : ∀ k, ro k ≠ .none → k < w.heap.size
  net : BlkR w ro .net nb (rnC L m) 73
  lags : Owns w ro .lags 3 1 L.lagv m.lags.length (m.lags.map (Value.int .i64))
  peers : Owns w ro .peers 82 1 (.slice (some ⟨L.prb, 0, none⟩) m.players L.prc) m.players ((List.range m.players).map fun p => .pointer (some ⟨L.pb p, 0, none⟩))
  peer : ∀ p, p < m.players → BlkR w ro (.peer p) (L.pb p) (rpC L m p) 81
  known : ∀ p, p < m.players → Owns w ro (.known p) 24 1 (.slice (some ⟨L.kb p, 0, none⟩) m.players (L.kc p)) m.players ((List.range m.players).map fun q => rlV L m p q)
  acked : ∀ p, p < m.players → BlkR w ro (.acked p) (L.ab p) (nums .i64 (akL m p)) 3
  list : ∀ p q, p < m.players → q < m.players → Owns w ro (.list p q) 3 1 (rlV L m p q) ((m.peers p).known q).length (((m.peers p).known q).map (Value.int .i64))
  fls : Owns w ro .fls 76 4 L.flv m.flights.length (m.flights.flatMap (rflC L))
  bytes : ∀ f, f ∈ m.flights → BytesR w ro (L.fb f.num) f.bytes
  nums : ∀ f, f ∈ m.flights → f.num < m.sent
def RNetAt (w : World) (ro : Nat → RR) (nb : Nat) (m : NetM) : Prop := ∃ L, RNet w ro nb m L
/-- Blocks of the parts R may have changed; the others have not. -/
def Keep (ro ro' : Nat → RR) (R : RR → Prop) (w w' : World) : Prop := ∀ k, k < w.heap.size → ro k ≠ .none → ro' k = ro k ∧ (¬ R (ro k) → w'.heap[k]? = w.heap[k]?)
theorem Keep.blk {ro ro' : Nat → RR} {R : RR → Prop} {w w' : World} (h : Keep ro ro' R w w') {r : RR} {g : Nat} {cs : Array Value} {t : TypeId} (hB : BlkR w ro r g cs t) (hr : r ≠ .none) (hR : ¬ R r) : BlkR w' ro' r g cs t := by
  obtain ⟨e, h2⟩ := h g hB.1.lt (by rw [hB.2]; exact hr)
  exact ⟨(h2 (by rw [hB.2]; exact hR)).trans hB.1, e.trans hB.2⟩
theorem Keep.own {ro ro' : Nat → RR} {R : RR → Prop} {w w' : World} (h : Keep ro ro' R w w') {r : RR} {e : TypeId} {s n : Nat} {v : Value} {xs : List Value} (hO : Owns w ro r e s v n xs) (hr : r ≠ .none) (hR : ¬ R r) : Owns w' ro' r e s v n xs := by
  have hk : ∀ k, v.ownBlock = some k → ro' k = r ∧ w'.heap[k]? = w.heap[k]? := fun k hk => by
    obtain ⟨e1, h2⟩ := h k (hO.1.lt k hk).2 (by rw [hO.2 k hk]; exact hr)
    exact ⟨e1.trans (hO.2 k hk), h2 (by rw [hO.2 k hk]; exact hR)⟩
  exact ⟨owns_same hO.1 (fun k hk' => (hk k hk').2), fun k hk' => (hk k hk').1⟩
theorem Keep.byt {ro ro' : Nat → RR} {R : RR → Prop} {w w' : World} (h : Keep ro ro' R w w') (hw : w.heap.size ≤ w'.heap.size) {v : Value} {l : List Int} (hO : BytesR w ro v l) (hR : ¬ R .bytes) : BytesR w' ro' v l := by
  obtain ⟨g, c, rfl, hc, h1, h2, h3⟩ := hO
  obtain ⟨e1, e2⟩ := h g h2 (by rw [h3]; simp)
  refine ⟨g, c, rfl, hc, fun j hj => ?_, by omega, e1.trans h3⟩
  rw [← h1 j hj]
  have := e2 (by rw [h3]; exact hR)
  simp only [World.cell?, this]
theorem Keep.same {ro : Nat → RR} {R : RR → Prop} {w w' : World} (h : ∀ k, k < w.heap.size → ro k ≠ .none → ¬ R (ro k) → w'.heap[k]? = w.heap[k]?) : Keep ro ro R w w' := fun k hk hr => ⟨rfl, h k hk hr⟩
/-- Nothing of the net has changed. -/
theorem RNet.same {w w' : World} {ro : Nat → RR} {nb : Nat} {m : NetM} {L : RLoc} (h : RNet w ro nb m L) (hs : ∀ k, ro k ≠ .none → w'.heap[k]? = w.heap[k]?) (hw : w.heap.size ≤ w'.heap.size) : RNet w' ro nb m L := by
  have K : Keep ro ro (fun _ => False) w w' := Keep.same fun k _ hr _ => hs k hr
  exact { n2 := h.n2, n4 := h.n4, lt := fun k hk => Nat.lt_of_lt_of_le (h.lt k hk) hw, net := K.blk h.net (by simp) (by simp), lags := K.own h.lags (by simp) (by simp), peers := K.own h.peers (by simp) (by simp), peer := fun p hp => K.blk (h.peer p hp) (by simp) (by simp), known := fun p hp => K.own (h.known p hp) (by simp) (by simp), acked := fun p hp => K.blk (h.acked p hp) (by simp) (by simp), list := fun p q hp hq => K.own (h.list p q hp hq) (by simp) (by simp), fls := K.own h.fls (by simp) (by simp), bytes := fun f hf => K.byt hw (h.bytes f hf) (by simp), nums := h.nums }
theorem RNet.below {w w' : World} {ro : Nat → RR} {nb : Nat} {m : NetM} {L : RLoc} (h : RNet w ro nb m L) (hb : Below w.heap.size w w') : RNet w' ro nb m L := h.same (fun k hk => hb.block k (h.lt k hk)) hb.size
/-- What a step of the reference may have changed. -/
structure RTo (w : World) (ro : Nat → RR) (w' : World) (ro' : Nat → RR) : Prop where
  chg : Chg (fun k => ro k ≠ .none) w w'
  old : ∀ k, k < w.heap.size → ro' k ≠ .none → ro k ≠ .none
theorem RTo.refl (w : World) (ro : Nat → RR) : RTo w ro w ro := ⟨Chg.refl _ _, fun _ _ h => h⟩
theorem RTo.trans {w w' w'' : World} {ro ro' ro'' : Nat → RR} (h : RTo w ro w' ro') (k : RTo w' ro' w'' ro'') : RTo w ro w'' ro'' :=
  ⟨h.chg.trans k.chg (fun x hx hG => h.old x hx hG), fun x hx hG => h.old x hx (k.old x (Nat.lt_of_lt_of_le hx h.chg.size) hG)⟩
theorem RTo.ofBelow {w w' : World} {ro : Nat → RR} (h : Below w.heap.size w w') : RTo w ro w' ro := ⟨.ofBelow h, fun _ _ h => h⟩
theorem RNet.cell {w : World} {ro : Nat → RR} {nb : Nat} {m : NetM} {L : RLoc} (h : RNet w ro nb m L) (i : Nat) : w.cell? ⟨nb, i, none⟩ = (rnC L m)[i]? := h.net.1.cell i
theorem RNet.pcell {w : World} {ro : Nat → RR} {nb : Nat} {m : NetM} {L : RLoc} (h : RNet w ro nb m L) (p : Nat) (hp : p < m.players) (i : Nat) : w.cell? ⟨L.pb p, i, none⟩ = (rpC L m p)[i]? := (h.peer p hp).1.cell i
theorem RNet.ptr {w : World} {ro : Nat → RR} {nb : Nat} {m : NetM} {L : RLoc} (h : RNet w ro nb m L) (p : Nat) (hp : p < m.players) : w.cell? ⟨L.prb, p, none⟩ = some (.pointer (some ⟨L.pb p, 0, none⟩)) := by
  rw [h.peers.1.cellAt p (by omega)]; simp [hp]
theorem RNet.kcell {w : World} {ro : Nat → RR} {nb : Nat} {m : NetM} {L : RLoc} (h : RNet w ro nb m L) (p q : Nat) (hp : p < m.players) (hq : q < m.players) : w.cell? ⟨L.kb p, q, none⟩ = some (.slice (some ⟨L.lb p q, 0, none⟩) ((m.peers p).known q).length (L.lc p q)) := by
  rw [(h.known p hp).1.cellAt q (by omega)]; simp [hq, rlV]
theorem RNet.acell {w : World} {ro : Nat → RR} {nb : Nat} {m : NetM} {L : RLoc} (h : RNet w ro nb m L) (p q : Nat) (hp : p < m.players) (hq : q < m.players) : w.cell? ⟨L.ab p, q, none⟩ = some (.int .i64 ((m.peers p).acked q : Int)) := by
  rw [(h.acked p hp).1.num q (by rw [akL_len]; exact hq), akL_get m p q hq]
theorem RNet.lcell {w : World} {ro : Nat → RR} {nb : Nat} {m : NetM} {L : RLoc} (h : RNet w ro nb m L) (p q f : Nat) (hp : p < m.players) (hq : q < m.players) (hf : f < ((m.peers p).known q).length) : w.cell? ⟨L.lb p q, f, none⟩ = some (.int .i64 (((m.peers p).known q).getD f 0)) := by
  rw [(h.list p q hp hq).1.cellAt f (by omega)]; simp [List.getD_eq_getElem?_getD, hf]
end Go.Proofs.YtandblanpafjoaaGreatDoor

namespace Go.Proofs.YtandblanpafjoaaGreatDoor
open Go.RowKit Go.Extern.Stop Go.Stop Go.Extern
theorem ris_any (nb : Nat) (p : Int) (ro : Nat → RR) (m : NetM) (w : World) (h : RNetAt w ro nb m) :
    Calls Tryz.prog 28 #[.pointer (some ⟨nb, 0, none⟩), .int .i64 p] w fun e w' => e = .returned (.bool (decide (0 ≤ p ∧ p < (m.players : Int)))) ∧ w' = w := by
  obtain ⟨L, h⟩ := h
  have c0 : w.cell? ⟨nb, 0, none⟩ = some (.int .i64 (m.players : Int)) := h.cell 0
  clear h
  generalize m.players = n at *
  go_enter Tryz.func28, Tryz.ntmps28
  by_cases h0 : 0 ≤ p
  · have d0 : decide (0 ≤ p) = true := by simpa using h0
    go_wp2
    go_ret
    exact ⟨by simp [h0], rfl⟩
  · have d0 : decide (0 ≤ p) = false := by simpa using h0
    go_wp2
    go_ret
    exact ⟨rfl, rfl⟩
set_option maxHeartbeats 1000000 in
theorem rframeOf_any (nb p : Nat) (ro : Nat → RR) (m : NetM) (w : World) (h : RNetAt w ro nb m) (hp : p < m.players) :
    Calls Tryz.prog 45 #[.pointer (some ⟨nb, 0, none⟩), .int .i64 (p : Int)] w fun e w' => e = .returned (.int .i64 ((m.peers p).frame : Int)) ∧ w' = w := by
  obtain ⟨L, h⟩ := h
  have c5 : w.cell? ⟨nb, 5, none⟩ = some (.slice (some ⟨L.prb, 0, none⟩) m.players L.prc) := h.cell 5
  have cp := h.ptr p hp
  have cf : w.cell? ⟨L.pb p, 1, none⟩ = some (.int .i64 ((m.peers p).frame : Int)) := h.pcell p hp 1
  have p0 : (0 : Int) ≤ (p : Int) := by omega
  have p1 : (p : Int) < (m.players : Int) := by omega
  clear h
  generalize m.players = n at *
  go_enter Tryz.func45, Tryz.ntmps45
  go_wp2
  go_ret
  exact ⟨rfl, rfl⟩
set_option maxHeartbeats 1000000 in
theorem rheld_any (nb p : Nat) (f : Int) (ro : Nat → RR) (m : NetM) (w : World) (h : RNetAt w ro nb m) (hp : p < m.players) (hf : (m.peers p).frame ≤ 200) (hw : m.window ≤ 1000) :
    Calls Tryz.prog 51 #[.pointer (some ⟨nb, 0, none⟩), .int .i64 (p : Int), .int .i64 f] w fun e w' => e = .returned (.bool (decide (0 ≤ f ∧ f ≤ ((m.peers p).frame : Int) ∧ ((m.peers p).frame : Int) - (m.window : Int) ≤ f))) ∧ Below w.heap.size w w' := by
  obtain ⟨L, h⟩ := h
  have c5 : w.cell? ⟨nb, 5, none⟩ = some (.slice (some ⟨L.prb, 0, none⟩) m.players L.prc) := h.cell 5
  have c1 : w.cell? ⟨nb, 1, none⟩ = some (.int .i64 (m.window : Int)) := h.cell 1
  have cp := h.ptr p hp
  have cf : w.cell? ⟨L.pb p, 1, none⟩ = some (.int .i64 ((m.peers p).frame : Int)) := h.pcell p hp 1
  have p0 : (0 : Int) ≤ (p : Int) := by omega
  have p1 : (p : Int) < (m.players : Int) := by omega
  clear h
  generalize m.players = n at *
  generalize (m.peers p).frame = fr at *
  generalize m.window = win at *
  have hsub : IntKind.i64.wrap ((fr : Int) - (win : Int)) = (fr : Int) - (win : Int) := i64_id _ (by omega) (by omega)
  go_enter Tryz.func51, Tryz.ntmps51
  by_cases h0 : 0 ≤ f
  · have d0 : decide (0 ≤ f) = true := by simpa using h0
    by_cases h1 : f ≤ (fr : Int)
    · have d1 : decide (f ≤ (fr : Int)) = true := by simpa using h1
      go_wp2
      go_quiet (fail)
      go_wp2
      go_ret
      exact ⟨by simp [h0, h1], ⟨rfl, rfl, rfl, Nat.le_refl _, fun _ _ => rfl⟩⟩
    · have d1 : decide (f ≤ (fr : Int)) = false := by simpa using h1
      go_wp2
      go_quiet (fail)
      go_wp2
      go_ret
      exact ⟨by rw [decide_eq_false (fun h => by omega)]; rfl, ⟨rfl, rfl, rfl, Nat.le_refl _, fun _ _ => rfl⟩⟩
  · have d0 : decide (0 ≤ f) = false := by simpa using h0
    go_wp2
    go_quiet (fail)
    go_wp2
    go_ret
    exact ⟨by rw [decide_eq_false (fun h => by omega)]; rfl, ⟨rfl, rfl, rfl, Nat.le_refl _, fun _ _ => rfl⟩⟩
set_option maxHeartbeats 1000000 in
theorem rconf_any (nb p : Nat) (ro : Nat → RR) (m : NetM) (L : RLoc) (w : World) (h : RNet w ro nb m L) (hp : p < m.players) :
    Calls Tryz.prog 58 #[.pointer (some ⟨L.pb p, 0, none⟩)] w fun e w' => e = .returned (.int .i64 (m.conf p : Int)) ∧ w' = w := by
  have cf : w.cell? ⟨L.pb p, 1, none⟩ = some (.int .i64 ((m.peers p).frame : Int)) := h.pcell p hp 1
  have ck : w.cell? ⟨L.pb p, 0, none⟩ = some (.slice (some ⟨L.kb p, 0, none⟩) m.players (L.kc p)) := h.pcell p hp 0
  have HL := hide (fun q (hq : q < m.players) => h.kcell p q hp hq)
  have n4 := h.n4
  unfold NetM.conf
  clear h
  generalize m.players = n at *
  generalize m.peers p = x at *
  generalize L.pb p = b at *
  generalize L.kb p = kb at *
  generalize L.kc p = kc at *
  generalize L.lb p = lb at *
  generalize L.lc p = lc at *
  go_enter Tryz.func58, Tryz.ntmps58
  go_wp2
  go_loop [3, 4] (fun m i => ∃ k : Nat, k ≤ n ∧ i = .int .i64 (k : Int) ∧ m = .int .i64 (confTo x k : Int)) (fun _ i => n - (intOf i).toNat)
  case atStart => exact ⟨0, by omega, rfl, rfl⟩
  case round =>
    obtain ⟨k, hk, rfl, rfl⟩ := hrel
    by_cases hlt : k < n
    · have cq := unhide HL k hlt
      have hd : decide ((k : Int) < (n : Int)) = true := by simp; omega
      have hk0 : (0 : Int) ≤ (k : Int) := by omega
      have hkn : (k : Int) < (n : Int) := by omega
      by_cases hlen : (x.known k).length < confTo x k
      · have d2 : decide (((x.known k).length : Int) < (confTo x k : Int)) = true := by simp; omega
        have e : confTo x (k + 1) = (x.known k).length := by simp only [confTo]; omega
        go_wp2
        exact ⟨⟨k + 1, by omega, by go_num, by rw [e]⟩, by simp [intOf]; omega⟩
      · have d2 : decide (((x.known k).length : Int) < (confTo x k : Int)) = false := by simp; omega
        have e : confTo x (k + 1) = confTo x k := by simp only [confTo]; omega
        go_wp2
        exact ⟨⟨k + 1, by omega, by go_num, by rw [e]⟩, by simp [intOf]; omega⟩
    · have hkn : k = n := by omega
      subst hkn
      have hd : decide ((k : Int) < (k : Int)) = false := by simp
      go_wp2
      go_ret
      exact ⟨rfl, rfl⟩
set_option maxHeartbeats 1000000 in
theorem rinput_any (nb p q f : Nat) (ro : Nat → RR) (m : NetM) (L : RLoc) (w : World) (h : RNet w ro nb m L) (hp : p < m.players) (hq : q < m.players) (hl : ((m.peers p).known q).length ≤ 203) :
    Calls Tryz.prog 69 #[.pointer (some ⟨L.pb p, 0, none⟩), .int .i64 (q : Int), .int .i64 (f : Int)] w fun e w' => e = .returned (.int .i64 (inputM (m.peers p) q f)) ∧ w' = w := by
  have ck : w.cell? ⟨L.pb p, 0, none⟩ = some (.slice (some ⟨L.kb p, 0, none⟩) m.players (L.kc p)) := h.pcell p hp 0
  have cq := h.kcell p q hp hq
  have HL := hide (fun j (hj : j < ((m.peers p).known q).length) => h.lcell p q j hp hq hj)
  have p0 : (0 : Int) ≤ (q : Int) := by omega
  have p1 : (q : Int) < (m.players : Int) := by omega
  clear h
  generalize m.players = n at *
  generalize m.peers p = x at *
  generalize L.pb p = b at *
  generalize L.kb p = kb at *
  generalize L.kc p = kc at *
  generalize L.lb p q = lb at *
  generalize L.lc p q = lc at *
  go_enter Tryz.func69, Tryz.ntmps69
  by_cases h1 : f < (x.known q).length
  · have d1 : decide ((f : Int) < ((x.known q).length : Int)) = true := by simp; omega
    have d2 : (0 : Int) ≤ (f : Int) := by omega
    have d3 : (f : Int) < ((x.known q).length : Int) := by omega
    have cl := unhide HL f h1
    have e : inputM x q f = (x.known q).getD f 0 := by unfold inputM; rw [if_pos h1]
    rw [e]
    generalize (x.known q).getD f 0 = val at *
    go_wp2
    go_ret
    exact ⟨rfl, rfl⟩
  · have d1 : decide ((f : Int) < ((x.known q).length : Int)) = false := by simp; omega
    have e : inputM x q f = (x.known q).getD ((x.known q).length - 1) 0 := by unfold inputM; rw [if_neg h1]
    rw [e]
    by_cases h0 : (x.known q).length = 0
    · have e0 : (x.known q).getD ((x.known q).length - 1) 0 = 0 := getD_out _ _ (by omega)
      rw [e0]
      rw [h0] at cq d1
      go_wp2
      go_ret
      exact ⟨rfl, rfl⟩
    · obtain ⟨l1, hl1⟩ : ∃ l1, (x.known q).length = l1 + 1 := ⟨(x.known q).length - 1, by omega⟩
      have cl := unhide HL l1 (by omega)
      rw [hl1] at cq d1 hl ⊢
      have e2 : IntKind.i64.wrap (((l1 + 1 : Nat) : Int) - 1) = (l1 : Int) := by rw [i64_id _ (by omega) (by omega)]; omega
      have d2 : decide (((l1 + 1 : Nat) : Int) = 0) = false := by simp; omega
      have d3 : (0 : Int) ≤ (l1 : Int) := by omega
      have d4 : (l1 : Int) < ((l1 + 1 : Nat) : Int) := by omega
      rw [show l1 + 1 - 1 = l1 by omega]
      generalize (x.known q).getD l1 0 = val at *
      go_wp2
      go_ret
      exact ⟨rfl, rfl⟩
end Go.Proofs.YtandblanpafjoaaGreatDoor

namespace Go.Proofs.YtandblanpafjoaaGreatDoor
open Go.RowKit Go.Extern.Stop Go.Stop Go.Extern
set_option maxRecDepth 10000 in
set_option maxHeartbeats 4000000 in
theorem rpeer_any (nb p : Nat) (ro : Nat → RR) (m : NetM) (w : World) (h : RNetAt w ro nb m) (hp : p < m.players) :
    Calls Tryz.prog 49 #[.pointer (some ⟨nb, 0, none⟩), .int .i64 (p : Int)] w fun e w' => e = .returned (.agg (stands (m.peers p) m.players m.players)) ∧ Below w.heap.size w w' := by
  obtain ⟨L, h⟩ := h
  have hz := Tryz.zeroPs
  have hn4 := h.n4
  have bR : Below w.heap.size w (w.alloc (.cells zPs 98)) := (Below.refl _ w).alloc (Nat.le_refl _) _
  have xR : Blk (w.alloc (.cells zPs 98)) w.heap.size zPs 98 := Blk.new _ _ _
  have hz1 : (w.alloc (.cells zPs 98)).heap.size = w.heap.size + 1 := by simp
  have h1 := h.below bR
  have hnl := h.net.1.lt
  have hbl := (h.peer p hp).1.lt
  have hkl := ((h.known p hp).1.lt (L.kb p) rfl).2
  have c5 : (w.alloc (.cells zPs 98)).cell? ⟨nb, 5, none⟩ = some (.slice (some ⟨L.prb, 0, none⟩) m.players L.prc) := h1.cell 5
  have c0 : (w.alloc (.cells zPs 98)).cell? ⟨nb, 0, none⟩ = some (.int .i64 (m.players : Int)) := h1.cell 0
  have cp := h1.ptr p hp
  have p0 : (0 : Int) ≤ (p : Int) := by omega
  have p1 : (p : Int) < (m.players : Int) := by omega
  have hcf := rconf_any nb p ro m L _ h1 hp
  have cf : (w.alloc (.cells zPs 98)).cell? ⟨L.pb p, 1, none⟩ = some (.int .i64 ((m.peers p).frame : Int)) := h1.pcell p hp 1
  have c3 : (w.alloc (.cells zPs 98)).cell? ⟨L.pb p, 3, none⟩ = some (.int .i64 ((m.peers p).dropped : Int)) := h1.pcell p hp 3
  have ck : (w.alloc (.cells zPs 98)).cell? ⟨L.pb p, 0, none⟩ = some (.slice (some ⟨L.kb p, 0, none⟩) m.players (L.kc p)) := h1.pcell p hp 0
  have HL := hide (fun q (hq : q < m.players) => h1.kcell p q hp hq)
  unfold NetM.conf at hcf
  clear h h1
  generalize m.players = n at *
  generalize m.peers p = x at *
  generalize L.pb p = b at *
  generalize L.kb p = kb at *
  generalize L.kc p = kc at *
  generalize L.lb p = lb at *
  generalize L.lc p = lc at *
  generalize L.prb = prb at *
  generalize L.prc = prc at *
  go_enter Tryz.func49, Tryz.ntmps49
  go_wp2_with fail
  generalize w.alloc (.cells zPs 98) = w1 at *
  have HZ := hide hz1
  clear hz1 hz
  refine hcf.mono ?_
  rintro e w1' ⟨rfl, rfl⟩
  clear hcf cp c5
  go_upto_region 3 with fail
  go_cut [7] from 18 (fun s3 wx => s3 = .pointer (some ⟨w1'.heap.size, 0, none⟩) ∧ Blk wx w1'.heap.size (stands x n 0) 98 ∧ Below w1'.heap.size w1' wx)
  case first =>
    have hzz := unhide HZ
    have hS0 : w1'.drew.cell? ⟨b, 1, none⟩ = some (.int .i64 (x.frame : Int)) ∧ w1'.drew.cell? ⟨b, 3, none⟩ = some (.int .i64 (x.dropped : Int)) := ⟨cf, c3⟩
    have hbA : Below w1'.heap.size w1' (w1'.drew.alloc (.cells zPs 98)) := (Below.refl _ w1').drew.alloc (Nat.le_refl _) _
    have xA : Blk (w1'.drew.alloc (.cells zPs 98)) w1'.heap.size zPs 98 := Blk.new _ _ _
    have hSA : (w1'.drew.alloc (.cells zPs 98)).cell? ⟨b, 1, none⟩ = some (.int .i64 (x.frame : Int)) ∧ (w1'.drew.alloc (.cells zPs 98)).cell? ⟨b, 3, none⟩ = some (.int .i64 (x.dropped : Int)) :=
      ⟨(hbA.cell (p := ⟨b, 1, none⟩) (by show b < w1'.heap.size; omega)).trans cf, (hbA.cell (p := ⟨b, 3, none⟩) (by show b < w1'.heap.size; omega)).trans c3⟩
    have xZ : Blk ((w1'.drew.alloc (.cells zPs 98)).setRow w1'.heap.size #[.int .i64 (x.frame : Int), .int .i64 (confTo x n : Int), .int .i64 (x.dropped : Int), .int .i64 0, .int .i64 0, .int .i64 0, .int .i64 0]) w1'.heap.size (stands x n 0) 98 := by rw [stands_zero]; exact xA.setRow _
    have bZ : Below w1'.heap.size w1' ((w1'.drew.alloc (.cells zPs 98)).setRow w1'.heap.size #[.int .i64 (x.frame : Int), .int .i64 (confTo x n : Int), .int .i64 (x.dropped : Int), .int .i64 0, .int .i64 0, .int .i64 0, .int .i64 0]) := below_setRow hbA (Nat.le_refl _) _
    have hSZ : ((w1'.drew.alloc (.cells zPs 98)).setRow w1'.heap.size #[.int .i64 (x.frame : Int), .int .i64 (confTo x n : Int), .int .i64 (x.dropped : Int), .int .i64 0, .int .i64 0, .int .i64 0, .int .i64 0]).cell? ⟨b, 1, none⟩ = some (.int .i64 (x.frame : Int)) ∧ ((w1'.drew.alloc (.cells zPs 98)).setRow w1'.heap.size #[.int .i64 (x.frame : Int), .int .i64 (confTo x n : Int), .int .i64 (x.dropped : Int), .int .i64 0, .int .i64 0, .int .i64 0, .int .i64 0]).cell? ⟨b, 3, none⟩ = some (.int .i64 (x.dropped : Int)) :=
      ⟨(bZ.cell (p := ⟨b, 1, none⟩) (by show b < w1'.heap.size; omega)).trans cf, (bZ.cell (p := ⟨b, 3, none⟩) (by show b < w1'.heap.size; omega)).trans c3⟩
    clear hzz
    have hz := Tryz.zeroPs
    refine wp_region_noPanic ?_
    refine wp_held_reads 10 (fun W' => W'.cell? ⟨b, 1, none⟩ = some (.int .i64 (x.frame : Int)) ∧ W'.cell? ⟨b, 3, none⟩ = some (.int .i64 (x.dropped : Int))) (by kernel_rfl) (by simp) (by kernel_rfl) (by kernel_rfl) (fun _ _ _ _ _ h => h) hS0 ?_
    simp only [List.take_succ_cons, List.take_zero]
    refine wpHeld_op ?y0 rfl ?z0 ?_
    case z0 => intro w' hS; obtain ⟨hS1, hS2⟩ := hS; go_simp; rfl
    refine wpHeld_op ?y1 rfl ?z1 ?_
    case z1 => intro w' hS; obtain ⟨hS1, hS2⟩ := hS; go_simp; rfl
    refine wpHeld_op ?y2 rfl ?z2 ?_
    case z2 => intro w' hS; obtain ⟨hS1, hS2⟩ := hS; go_simp; rfl
    refine wpHeld_op ?y3 rfl ?z3 ?_
    case z3 => intro w' hS; obtain ⟨hS1, hS2⟩ := hS; go_simp; rfl
    refine wpHeld_op ?y4 rfl ?z4 ?_
    case z4 => intro w' hS; obtain ⟨hS1, hS2⟩ := hS; go_simp; rfl
    refine wpHeld_op ?y5 rfl ?z5 ?_
    case z5 => intro w' hS; obtain ⟨hS1, hS2⟩ := hS; go_simp; rfl
    refine wpHeld_op ?y6 rfl ?z6 ?_
    case z6 => intro w' hS; obtain ⟨hS1, hS2⟩ := hS; go_simp; rfl
    refine wpHeld_op ?y7 rfl ?z7 ?_
    case z7 => intro w' hS; obtain ⟨hS1, hS2⟩ := hS; go_simp; rfl
    refine wpHeld_op ?y8 rfl ?z8 ?_
    case z8 => intro w' hS; obtain ⟨hS1, hS2⟩ := hS; go_simp; rfl
    refine wpHeld_op ?y9 rfl ?z9 ?_
    case z9 => intro w' hS; obtain ⟨hS1, hS2⟩ := hS; go_simp; rfl
    unfold wpHeld
    refine wpAnyH_all (rs := [10]) (by kernel_rfl) (by simp) ?_
    intro k hk
    obtain rfl : k = 10 := by simpa using hk
    refine wpOp_of_list _ rfl rfl ?_
    go_wp2_with fail
    refine ⟨hSA, ?_⟩
    refine wpAnyH_all (rs := [11]) (by kernel_rfl) (by simp) ?_
    intro k hk
    obtain rfl : k = 11 := by simpa using hk
    refine wpOp_of_list _ rfl rfl ?_
    go_simp
    refine wpList_store_blk rfl 98 _ _ rfl w1'.heap.size 98 zPs #[.int .i64 (x.frame : Int), .int .i64 (confTo x n : Int), .int .i64 (x.dropped : Int), .int .i64 0, .int .i64 0, .int .i64 0, .int .i64 0] rfl rfl xA Tryz.sizePs rfl (by simp [Value.oneCell']) ?_
    go_wp2_with fail
    refine ⟨hSZ, ⟨by kernel_rfl, ?_⟩⟩
    refine NoPanic.normal ?_
    go_wp2_with fail
    go_meet
    case rel => exact ⟨rfl, xZ, bZ⟩
  case rest =>
    obtain ⟨rfl, hx0, hb0⟩ := hcut
    have hz1 : w.heap.size + 1 ≤ w1'.heap.size := by have := unhide HZ; omega
    have H0 := hide (And.intro hx0 hb0)
    clear hx0 hb0 cf c3
    go_wp2_with fail
    go_loopw [8] (fun s wr => ∃ k : Nat, k ≤ n ∧ s = .int .i64 (k : Int) ∧ Below w1'.heap.size w1' wr ∧ Blk wr w1'.heap.size (stands x n k) 98) (fun s _ => n - (intOf s).toNat)
    case atStart => exact ⟨0, by omega, rfl, (unhide H0).2, (unhide H0).1⟩
    case round =>
      obtain ⟨k, hk, rfl, hbr, hxr⟩ := hrel
      have c0' : wr.cell? ⟨nb, 0, none⟩ = some (.int .i64 (n : Int)) := (hbr.cell (p := ⟨nb, 0, none⟩) (by show nb < w1'.heap.size; omega)).trans c0
      by_cases hlt : k < n
      · have hdk : decide (k < n) = true := by simp; omega
        have hadd := i64_id ((k : Int) + 1) (by omega) (by omega)
        have k0 : (0 : Int) ≤ (k : Int) := by omega
        have k1 : (k : Int) < 4 := by omega
        have k2 : (k : Int) < (n : Int) := by omega
        have ck' : wr.cell? ⟨b, 0, none⟩ = some (.slice (some ⟨kb, 0, none⟩) n kc) := (hbr.cell (p := ⟨b, 0, none⟩) (by show b < w1'.heap.size; omega)).trans ck
        have cl' : wr.cell? ⟨kb, k, none⟩ = some (.slice (some ⟨lb k, 0, none⟩) (x.known k).length (lc k)) := (hbr.cell (p := ⟨kb, k, none⟩) (by show kb < w1'.heap.size; omega)).trans (unhide HL k hlt)
        have cs : ∃ u, wr.cell? ⟨w1'.heap.size, 3 + k, none⟩ = some u := by
          rw [hxr.cell]
          rcases k with _ | _ | _ | _ | k
          · exact ⟨_, rfl⟩
          · exact ⟨_, rfl⟩
          · exact ⟨_, rfl⟩
          · exact ⟨_, rfl⟩
          · omega
        obtain ⟨u, cs⟩ := cs
        have fs : wr.frozen? ⟨w1'.heap.size, 3 + k, none⟩ = false := hxr.frozen _
        have HX := hide (And.intro hbr hxr)
        clear hbr hxr c0 ck
        go_wp2
        obtain ⟨hbr, hxr⟩ := unhide HX
        have hx2 := hxr.set (3 + k) (.int .i64 ((x.known k).length : Int))
        rw [stands_succ x n k (by omega)] at hx2
        exact ⟨⟨k + 1, by omega, by go_num, hbr.setCell (p := ⟨w1'.heap.size, 3 + k, none⟩) (Nat.le_refl _) _, hx2⟩, by simp [intOf]; omega⟩
      · have hdk : decide (k < n) = false := by simp; omega
        have hke : k = n := by omega
        have hxr' : Blk wr w1'.heap.size (stands x n n) 98 := by rw [hke] at hxr; exact hxr
        have xr : Blk wr w.heap.size zPs 98 := (hbr.block _ (by omega)).trans xR
        have hsz : (Tryz.prog.info? 98).map (·.size) = some (stands x n n).size := Tryz.sizePs
        clear hxr hke
        go_wp2_with (first | (refine wpList_load_blk rfl 98 _ rfl w1'.heap.size rfl 98 (stands x n n) _ hxr' Tryz.underlying98 rfl hsz ?_) | (refine wpList_store_blk rfl 98 _ _ rfl w.heap.size 98 zPs (stands x n n) rfl rfl xr hsz rfl (stands_one _ _ _) ?_))
        refine bodyPost_ret (v := .agg (stands x n n)) ?_ rfl ⟨rfl, ?_⟩
        · exact results_cell_row Tryz.results49 _ _ w.heap.size 98 _ (0, 0) _ rfl (xr.setRow _) Tryz.underlying98 rfl hsz
        · exact below_setRow (bR.trans (hbr.mono (by omega))) (Nat.le_refl _) _
end Go.Proofs.YtandblanpafjoaaGreatDoor

