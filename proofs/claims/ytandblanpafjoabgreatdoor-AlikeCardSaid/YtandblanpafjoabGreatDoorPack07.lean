import Derived.Test.YtandblanpafjoabGreatDoorPack06
import Derived.Test.YtandblanpafjoabGreatDoorPack04
namespace Go.Proofs.YtandblanpafjoabGreatDoor
open Go.RowKit Go.Extern.Stop Go.Stop Go.Extern

def inputsL (l : List Int) : List Int := (l.drop 7).take (l.length - 8)
def OkP (l : List Int) : Prop := Framed l ∧ GoodP (fromL l) (startL l) (ackL l) (l.length - 8)
instance (l : List Int) : Decidable (OkP l) := by unfold OkP; infer_instance

/-- What was there is as it was. -/
structure HeldP (w0 w' : World) : Prop where
  below : Below w0.heap.size w0 w'
theorem held_mk {w0 w' : World} {b o : Nat} {x : Int} (c1 : w0.cell? ⟨b, o + 1, none⟩ = some (.int .u8 x)) (hbl : b < w0.heap.size) (hb : Below w0.heap.size w0 w') : w'.cell? ⟨b, o + 1, none⟩ = some (.int .u8 x) ∧ HeldP w0 w' :=
  ⟨by rw [hb.cell (p := ⟨b, o + 1, none⟩) hbl]; exact c1, ⟨hb⟩⟩

def Z4 : Array Value := #[.int .i64 0, .int .i64 0, .int .i64 0, .slice none 0 0]
theorem Tryz.sizePk : (Tryz.prog.info? 130).map (·.size) = some 4 := by kernel_rfl
theorem Tryz.sizeRunU8 (w : World) : (sizeOf 5).run Tryz.prog w = .ok 1 w := by kernel_rfl
theorem Tryz.zeroPk (w : World) : (zeroValue 130).run Tryz.prog w = .ok (.agg #[.int .i64 0, .int .i64 0, .int .i64 0, .slice none 0 0]) w := by kernel_rfl

theorem grown_setRow (w : World) (g : Nat) (cs : Array Value) : w.grownBy (w.setRow g cs) (some g) :=
  ⟨rfl, rfl, rfl, by simp, fun k _ hk => setRow_other w g k cs (fun e => hk (by rw [e]))⟩
theorem set4 {w : World} {g : Nat} {t : TypeId} (h : Blk w g Z4 t) (a b c d : Value) : Blk ((((w.setCell ⟨g, 0, none⟩ a).setCell ⟨g, 1, none⟩ b).setCell ⟨g, 2, none⟩ c).setCell ⟨g, 3, none⟩ d) g #[a, b, c, d] t := by
  have := (((h.set 0 a).set 1 b).set 2 c).set 3 d
  simpa [Z4] using this
theorem own_set4 {w : World} {g base n m : Nat} {e : TypeId} {v : Value} {xs : List Value} (h : w.ownsRow base e m v n xs) (a b c d : Value) (hne : v.ownBlock ≠ some g) : ((((w.setCell ⟨g, 0, none⟩ a).setCell ⟨g, 1, none⟩ b).setCell ⟨g, 2, none⟩ c).setCell ⟨g, 3, none⟩ d).ownsRow base e m v n xs :=
  (((h.kept (grown_set _ g 0 a) (.inr hne)).kept (grown_set _ g 1 b) (.inr hne)).kept (grown_set _ g 2 c) (.inr hne)).kept (grown_set _ g 3 d) (.inr hne)
theorem below_set4 {w0 w : World} {g B : Nat} (h : Below B w0 w) (a b c d : Value) (hg : B ≤ g) : Below B w0 ((((w.setCell ⟨g, 0, none⟩ a).setCell ⟨g, 1, none⟩ b).setCell ⟨g, 2, none⟩ c).setCell ⟨g, 3, none⟩ d) :=
  (((h.setCell hg a).setCell hg b).setCell hg c).setCell hg d

theorem src_bytes (W : World) (s : ByteArray) (g : Nat) (hg : W.heap.size = g) : SrcAt (Lib.bytesWorld W 5 s) (some ⟨g, 0, none⟩) (bytesOf s) := by
  subst hg
  refine .inr ⟨W.heap.size, 0, rfl, by rw [Lib.bytesWorld_size]; omega, fun j hj => ?_⟩
  rw [Nat.zero_add]
  exact bytesWorld_get W 5 s j (by rw [bytesOf_len] at hj; exact hj)

theorem conv_nil (w : World) : (convert 35 9 (.slice none 0 0)).run Tryz.prog w = .ok (.string (strOfNums [])) w := by kernel_rfl
theorem conv_src (ao : Option Addr) (n c : Nat) (l : List Int) (w : World) (hl : l.length = n) (hc0 : ao = none → c = 0) (hs : SrcAt w ao l) : (convert 35 9 (.slice ao n c)).run Tryz.prog w = .ok (.string (strOfNums l)) w := by
  rcases hs with ⟨rfl, rfl⟩ | ⟨b, o, rfl, _, h⟩
  · obtain rfl := hc0 rfl
    obtain rfl : n = 0 := hl.symm
    exact conv_nil w
  · exact conv_str b o n c l w hl (fun j hj => h j (by omega))
theorem inputsL_len (l : List Int) (h : 8 ≤ l.length) : (inputsL l).length = l.length - 8 := by simp [inputsL]; omega
end Go.Proofs.YtandblanpafjoabGreatDoor

namespace Go.Proofs.YtandblanpafjoabGreatDoor
open Go.RowKit

/-! What is packed is unpacked as it was; with a bit turned, a byte more or less it is no packet: in lists of bytes. -/
def InB (l : List Int) : Prop := ∀ x ∈ l, 0 ≤ x ∧ x ≤ 255
theorem InB.get {l : List Int} (h : InB l) (j : Nat) : 0 ≤ l.getD j 0 ∧ l.getD j 0 ≤ 255 := by
  rw [List.getD_eq_getElem?_getD]
  by_cases hj : j < l.length
  · rw [List.getElem?_eq_getElem hj]; exact h _ (List.getElem_mem hj)
  · rw [List.getElem?_eq_none (by omega)]; exact ⟨by decide, by decide⟩
theorem InB.bytes (s : ByteArray) : InB (bytesOf s) := by
  intro x hx
  simp only [bytesOf, List.mem_map] at hx
  obtain ⟨b, _, rfl⟩ := hx
  have := UInt8.toNat_lt b
  omega
theorem InB.app {a b : List Int} (ha : InB a) (hb : InB b) : InB (a ++ b) := by
  intro x hx
  rcases List.mem_append.1 hx with h | h
  · exact ha x h
  · exact hb x h
theorem InB.take {a : List Int} (ha : InB a) (n : Nat) : InB (a.take n) := fun x hx => ha x (List.mem_of_mem_take hx)
theorem InB.set {a : List Int} (ha : InB a) (n : Nat) (v : Int) (hv : 0 ≤ v ∧ v ≤ 255) : InB (a.set n v) := by
  intro x hx
  rcases List.mem_or_eq_of_mem_set hx with h | h
  · exact ha x h
  · rw [h]; exact hv
theorem InB.pack {f st ak : Int} {l : List Int} (h : GoodP f st ak l.length) (hl : InB l) : InB (packL f st ak l) := by
  obtain ⟨⟨h1, h2⟩, ⟨h3, h4⟩, ⟨h5, h6⟩, h7⟩ := h
  refine InB.app (InB.app ?_ hl) ?_
  · intro x hx
    simp only [List.mem_cons, List.not_mem_nil, or_false] at hx
    rcases hx with rfl | rfl | rfl | rfl | rfl | rfl | rfl <;> omega
  · intro x hx
    simp only [List.mem_cons, List.not_mem_nil, or_false] at hx
    rw [hx]
    exact xorL_range _

theorem pack_len7 (f st ak : Int) (l : List Int) : (packL f st ak l).take (7 + l.length) = headL f st ak l := by
  unfold packL
  rw [← headL_len f st ak l, List.take_left']
  rfl
theorem pack_last (f st ak : Int) (l : List Int) : (packL f st ak l).getD (7 + l.length) 0 = xorL (headL f st ak l) := by
  unfold packL
  rw [← headL_len f st ak l]
  simp
theorem pack_six (f st ak : Int) (l : List Int) : (packL f st ak l).getD 6 0 = (l.length : Int) := by simp [packL, headL]
theorem pack_ok {f st ak : Int} {l : List Int} (h : GoodP f st ak l.length) : OkP (packL f st ak l) ∧ fromL (packL f st ak l) = f ∧ startL (packL f st ak l) = st ∧ ackL (packL f st ak l) = ak ∧ inputsL (packL f st ak l) = l := by
  have e1 : fromL (packL f st ak l) = f := by simp [fromL, packL, headL]
  have e2 : startL (packL f st ak l) = st := by simp [startL, numL, packL, headL]; omega
  have e3 : ackL (packL f st ak l) = ak := by simp [ackL, numL, packL, headL]; omega
  have e4 : inputsL (packL f st ak l) = l := by
    unfold inputsL
    rw [packL_len]
    simp [packL, headL]
  refine ⟨⟨⟨?_, ?_, ?_, ?_⟩, ?_⟩, e1, e2, e3, e4⟩
  · rw [packL_len]; omega
  · rw [packL_len, pack_six]; omega
  · simp [packL, headL]
  · rw [packL_len, show 8 + l.length - 1 = 7 + l.length by omega, pack_last, pack_len7]
  · rw [e1, e2, e3, packL_len, show 8 + l.length - 8 = l.length by omega]; exact h

theorem less_no (f st ak : Int) (l : List Int) : ¬ OkP ((packL f st ak l).take (7 + l.length)) := by
  intro h
  have h2 := h.1.2.1
  rw [pack_len7, headL_len] at h2
  have : (headL f st ak l).getD 6 0 = (l.length : Int) := by simp [headL]
  rw [this] at h2
  omega
theorem more_no (f st ak : Int) (l : List Int) (y : Int) : ¬ OkP (packL f st ak l ++ [y]) := by
  intro h
  have h2 := h.1.2.1
  have : (packL f st ak l ++ [y]).getD 6 0 = (l.length : Int) := by simp [packL, headL]
  rw [this, List.length_append, packL_len] at h2
  simp at h2
  omega

/-! Exclusive or. -/
theorem xstep_nat (a b : Int) (ha : 0 ≤ a ∧ a ≤ 255) (hb : 0 ≤ b ∧ b ≤ 255) : xstep a b = ((a.toNat ^^^ b.toNat : Nat) : Int) := u8_xor a b ha.1 (by omega) hb.1 (by omega)
theorem xstep_toNat (a b : Int) (ha : 0 ≤ a ∧ a ≤ 255) (hb : 0 ≤ b ∧ b ≤ 255) : (xstep a b).toNat = a.toNat ^^^ b.toNat := by rw [xstep_nat a b ha hb]; simp
theorem toNat_inj {a b : Int} (ha : 0 ≤ a) (hb : 0 ≤ b) (h : a.toNat = b.toNat) : a = b := by omega
theorem xstep_back (a p : Int) (ha : 0 ≤ a ∧ a ≤ 255) (hp : 0 ≤ p ∧ p ≤ 255) : xstep (xstep a p) p = a := by
  refine toNat_inj (xstep_range _ _).1 ha.1 ?_
  rw [xstep_toNat _ _ (xstep_range _ _) hp, xstep_toNat _ _ ha hp, Nat.xor_assoc, Nat.xor_self, Nat.xor_zero]
theorem xstep_self (a : Int) (ha : 0 ≤ a ∧ a ≤ 255) : xstep a a = 0 := by
  refine toNat_inj (xstep_range _ _).1 (by decide) ?_
  rw [xstep_toNat _ _ ha ha, Nat.xor_self]; rfl
theorem xstep_swap (v p a : Int) (hv : 0 ≤ v ∧ v ≤ 255) (hp : 0 ≤ p ∧ p ≤ 255) (ha : 0 ≤ a ∧ a ≤ 255) : xstep (xstep v p) a = xstep (xstep v a) p := by
  refine toNat_inj (xstep_range _ _).1 (xstep_range _ _).1 ?_
  rw [xstep_toNat _ _ (xstep_range _ _) ha, xstep_toNat _ _ hv hp, xstep_toNat _ _ (xstep_range _ _) hp, xstep_toNat _ _ hv ha, Nat.xor_assoc, Nat.xor_assoc, Nat.xor_comm p.toNat]
theorem xstep_in (v a p : Int) (hv : 0 ≤ v ∧ v ≤ 255) (hp : 0 ≤ p ∧ p ≤ 255) (ha : 0 ≤ a ∧ a ≤ 255) : xstep v (xstep a p) = xstep (xstep v a) p := by
  refine toNat_inj (xstep_range _ _).1 (xstep_range _ _).1 ?_
  rw [xstep_toNat _ _ hv (xstep_range _ _), xstep_toNat _ _ ha hp, xstep_toNat _ _ (xstep_range _ _) hp, xstep_toNat _ _ hv ha, Nat.xor_assoc]
theorem fold_off (l : List Int) (hl : InB l) (p : Int) (hp : 0 ≤ p ∧ p ≤ 255) : ∀ v : Int, 0 ≤ v ∧ v ≤ 255 → l.foldl xstep (xstep v p) = xstep (l.foldl xstep v) p := by
  induction l with
  | nil => intro v _; rfl
  | cons a r ih =>
    intro v hv
    rw [List.foldl_cons, List.foldl_cons, xstep_swap v p a hv hp (hl a List.mem_cons_self)]
    exact ih (fun x hx => hl x (List.mem_cons_of_mem _ hx)) _ (xstep_range _ _)
theorem xorL_set (l : List Int) (hl : InB l) (q : Nat) (hq : q < l.length) (p : Int) (hp : 0 ≤ p ∧ p ≤ 255) : xorL (l.set q (xstep (l.getD q 0) p)) = xstep (xorL l) p := by
  have hg : l.getD q 0 = l[q] := by rw [List.getD_eq_getElem?_getD, List.getElem?_eq_getElem hq]; rfl
  rw [hg]
  have e1 : l = l.take q ++ l[q] :: l.drop (q + 1) := by rw [List.getElem_cons_drop, List.take_append_drop]
  have e2 : l.set q (xstep l[q] p) = l.take q ++ xstep l[q] p :: l.drop (q + 1) := by rw [List.set_eq_take_append_cons_drop, if_pos hq]
  have hx := InB.get hl q
  rw [hg] at hx
  have hv : 0 ≤ (l.take q).foldl xstep 90 ∧ (l.take q).foldl xstep 90 ≤ 255 := xorL_range _
  rw [e2]
  unfold xorL
  rw [List.foldl_append, List.foldl_cons, xstep_in _ _ _ hv hp hx, fold_off _ (fun x hx => hl x (List.mem_of_mem_drop hx)) p hp _ (xstep_range _ _)]
  congr 1
  conv => rhs; rw [e1]
  rw [List.foldl_append, List.foldl_cons]
theorem framed_sum (l : List Int) (h : Framed l) : xorL l = 0 := by
  obtain ⟨h8, _, _, h4⟩ := h
  have hlt : l.length - 1 < l.length := by omega
  have := xorL_snoc l (l.length - 1) hlt
  rw [show l.length - 1 + 1 = l.length by omega, List.take_length] at this
  rw [this]
  have hg : l.getD (l.length - 1) 0 = l[l.length - 1] := by rw [List.getD_eq_getElem?_getD, List.getElem?_eq_getElem hlt]; rfl
  rw [← hg, h4]
  exact xstep_self _ (xorL_range _)
theorem bit_no {f st ak : Int} {l : List Int} (h : GoodP f st ak l.length) (hl : InB l) (q : Nat) (hq : q < 8 + l.length) (p : Int) (hp : 0 < p ∧ p ≤ 255) : ¬ OkP ((packL f st ak l).set q (xstep ((packL f st ak l).getD q 0) p)) := by
  intro hok
  have hin := InB.pack h hl
  have h0 := framed_sum _ hok.1
  rw [xorL_set _ hin q (by rw [packL_len]; exact hq) p ⟨by omega, hp.2⟩, framed_sum _ (pack_ok h).1.1] at h0
  rw [xstep_nat 0 p ⟨by decide, by decide⟩ ⟨by omega, hp.2⟩] at h0
  simp at h0
  omega
end Go.Proofs.YtandblanpafjoabGreatDoor

namespace Go.Proofs.YtandblanpafjoabGreatDoor
open Go.RowKit

/-! The net in plain numbers: peers, packets under way, time. -/
structure PeerM where
  known : Nat → List Int
  frame : Nat
  acked : Nat → Nat
  dropped : Nat
structure FlyM where
  to : Nat
  due : Nat
  num : Nat
  bytes : List Int
structure NetM where
  players : Nat
  window : Nat
  delay : Nat
  lags : List Int
  peers : Nat → PeerM
  flights : List FlyM
  now : Nat
  sent : Nat

def newM (players window delay : Nat) (lags : List Int) : NetM :=
  { players := players, window := window, delay := delay, lags := lags, peers := fun _ => { known := fun _ => List.replicate delay 0, frame := 0, acked := fun _ => delay, dropped := 0 }, flights := [], now := 0, sent := 0 }

def confTo (x : PeerM) : Nat → Nat
  | 0 => x.frame
  | q + 1 => min (confTo x q) (x.known q).length
def inputM (x : PeerM) (q f : Nat) : Int :=
  if f < (x.known q).length then (x.known q).getD f 0 else (x.known q).getD ((x.known q).length - 1) 0
def insM (x : PeerM) (players f : Nat) : List Int := (List.range players).map fun q => inputM x q f
def framesM (x : PeerM) (players f : Nat) : List (List Int) := (List.range f).map fun k => insM x players k

def NetM.conf (n : NetM) (p : Nat) : Nat := confTo (n.peers p) n.players
def NetM.lag (n : NetM) : Int := if n.lags = [] then 1 else n.lags.getD (n.sent % n.lags.length) 0
def packM (x : PeerM) (p q : Nat) : List Int := packL (p : Int) (x.acked q : Int) ((x.known q).length : Int) (((x.known p).drop (x.acked q)).take 64)
def NetM.send (n : NetM) (p q : Nat) : NetM :=
  { n with flights := if 0 ≤ n.lag then n.flights ++ [{ to := q, due := n.now + n.lag.toNat, num := n.sent, bytes := packM (n.peers p) p q }] else n.flights, sent := n.sent + 1 }
def sendTo (n : NetM) (p : Nat) : Nat → NetM
  | 0 => n
  | q + 1 => if q = p then sendTo n p q else (sendTo n p q).send p q
def NetM.put (n : NetM) (p : Nat) (x : PeerM) : NetM := { n with peers := fun i => if i = p then x else n.peers i }
def PeerM.learn (x : PeerM) (q : Nat) (l : List Int) : PeerM := { x with known := fun i => if i = q then l else x.known i }
def NetM.stepped (n : NetM) (p : Nat) (v : Int) : NetM := n.put p { (n.peers p).learn p ((n.peers p).known p ++ [v]) with frame := (n.peers p).frame + 1 }
/-- The kind (0: none) and the net. -/
def NetM.advance (n : NetM) (p : Nat) (v : Int) : Nat × NetM :=
  if (n.peers p).frame = 200 then (3, n)
  else if n.window ≤ (n.peers p).frame - n.conf p then (4, n)
  else (0, sendTo (n.stepped p v) p n.players)

/-- What is known behind a packet's inputs: those that follow on what was known. -/
def learnt (l : List Int) (start : Nat) (ins : List Int) : List Int := l ++ ins.drop (l.length - start)
def NetM.takes (n : NetM) (p : Nat) (b : List Int) : Prop :=
  OkP b ∧ fromL b ≠ (p : Int) ∧ fromL b < (n.players : Int) ∧ startL b ≤ (((n.peers p).known (fromL b).toNat).length : Int) ∧ startL b + ((inputsL b).length : Int) ≤ 200 + (n.delay : Int) ∧ ackL b ≤ (((n.peers p).known p).length : Int)
instance (n : NetM) (p : Nat) (b : List Int) : Decidable (n.takes p b) := by unfold NetM.takes; infer_instance
def taken (x : PeerM) (q start ack : Nat) (ins : List Int) : PeerM :=
  { x.learn q (learnt (x.known q) start ins) with acked := fun i => if i = q then max (x.acked q) ack else x.acked i }
def NetM.take (n : NetM) (p : Nat) (b : List Int) : Bool × NetM :=
  if n.takes p b then (true, n.put p (taken (n.peers p) (fromL b).toNat (startL b).toNat (ackL b).toNat (inputsL b)))
  else (false, n.put p { n.peers p with dropped := (n.peers p).dropped + 1 })

def before (a b : FlyM) : Prop := a.due < b.due ∨ (a.due = b.due ∧ a.num < b.num)
instance (a b : FlyM) : Decidable (before a b) := by unfold before; infer_instance
/-- The place of the packet that comes first. -/
def firstTo (l : List FlyM) (d : FlyM) : Nat → Nat
  | 0 => 0
  | i + 1 => if before (l.getD i d) (l.getD (firstTo l d i) d) then i else firstTo l d i
def fly0 : FlyM := { to := 0, due := 0, num := 0, bytes := [] }
def firstM (l : List FlyM) : Nat := firstTo l fly0 l.length
/-- Packets that are due come. -/
def comeM : Nat → NetM → NetM
  | 0, n => n
  | k + 1, n =>
    if n.flights = [] then n
    else if n.now < (n.flights.getD (firstM n.flights) fly0).due then n
    else comeM k (({ n with flights := n.flights.eraseIdx (firstM n.flights) }).take (n.flights.getD (firstM n.flights) fly0).to (n.flights.getD (firstM n.flights) fly0).bytes).2
def againTo (n : NetM) (p : Nat) : Nat → NetM
  | 0 => n
  | q + 1 => if q ≠ p ∧ ((againTo n p q).peers p).acked q < (((againTo n p q).peers p).known p).length then (againTo n p q).send p q else againTo n p q
def againAll (n : NetM) : Nat → NetM
  | 0 => n
  | p + 1 => againTo (againAll n p) p n.players
def NetM.tick (n : NetM) : NetM :=
  let m := comeM n.flights.length { n with now := n.now + 1 }
  againAll m m.players
end Go.Proofs.YtandblanpafjoabGreatDoor

namespace Go.Proofs.YtandblanpafjoabGreatDoor
open Go.RowKit

/-! What always holds of a net among honest packets: what is known of a player is a beginning of what it put in. -/
def FlyOk (n : NetM) (real : Nat → List Int) (f : FlyM) : Prop :=
  ∃ (p start ack : Nat) (ins : List Int), f.bytes = packL (p : Int) (start : Int) (ack : Int) ins ∧ p < n.players ∧ p ≠ f.to ∧ f.to < n.players ∧ ins.length ≤ 64 ∧ start + ins.length ≤ (real p).length ∧
    ins = ((real p).drop start).take ins.length ∧ start ≤ ((n.peers f.to).known p).length ∧ ack ≤ ((n.peers p).known f.to).length
structure Inv (n : NetM) (real : Nat → List Int) : Prop where
  hp : 2 ≤ n.players ∧ n.players ≤ 4
  hd : n.delay ≤ 3
  own : ∀ p, p < n.players → (n.peers p).known p = real p
  pre : ∀ p q, p < n.players → q < n.players → ∃ k, k ≤ (real q).length ∧ (n.peers p).known q = (real q).take k
  len : ∀ p, p < n.players → (n.peers p).frame + n.delay = (real p).length
  fr : ∀ p, p < n.players → (n.peers p).frame ≤ 200
  byte : ∀ p, p < n.players → InB (real p)
  ack : ∀ p q, p < n.players → q < n.players → p ≠ q → (n.peers p).acked q ≤ ((n.peers q).known p).length
  drop : ∀ p, p < n.players → (n.peers p).dropped = 0
  win : ∀ p, p < n.players → (n.peers p).frame ≤ n.conf p + n.window
  fly : ∀ f ∈ n.flights, FlyOk n real f
theorem Inv.knownLe {n : NetM} {real : Nat → List Int} (h : Inv n real) {p q : Nat} (hp : p < n.players) (hq : q < n.players) : ((n.peers p).known q).length ≤ (real q).length := by
  obtain ⟨k, hk, e⟩ := h.pre p q hp hq
  rw [e, List.length_take]; omega
theorem Inv.realLe {n : NetM} {real : Nat → List Int} (h : Inv n real) {p : Nat} (hp : p < n.players) : (real p).length ≤ 203 := by
  have := h.len p hp
  have := h.fr p hp
  have := h.hd
  omega

theorem Inv.new (players window delay : Nat) (lags : List Int) (hp : 2 ≤ players ∧ players ≤ 4) (hd : delay ≤ 3) : Inv (newM players window delay lags) (fun _ => List.replicate delay 0) where
  hp := hp
  hd := hd
  own _ _ := rfl
  pre _ _ _ _ := ⟨delay, by simp, by simp [newM]⟩
  len _ _ := by simp [newM]
  fr _ _ := by simp [newM]
  byte _ _ := by
    intro x hx
    rw [List.eq_of_mem_replicate hx]; exact ⟨by decide, by decide⟩
  ack _ _ _ _ _ := by simp [newM]
  drop _ _ := rfl
  win _ _ := by simp [newM]
  fly f hf := by simp [newM] at hf

/-! To send. -/
theorem Inv.send {n : NetM} {real : Nat → List Int} (h : Inv n real) {p q : Nat} (hp : p < n.players) (hq : q < n.players) (hne : p ≠ q) : Inv (n.send p q) real where
  hp := h.hp
  hd := h.hd
  own := h.own
  pre := h.pre
  len := h.len
  fr := h.fr
  byte := h.byte
  ack := h.ack
  drop := h.drop
  win := h.win
  fly f hf := by
    have hold : ∀ f ∈ n.flights, FlyOk (n.send p q) real f := fun f hf => h.fly f hf
    by_cases hl : 0 ≤ n.lag
    · have e : (n.send p q).flights = n.flights ++ [{ to := q, due := n.now + n.lag.toNat, num := n.sent, bytes := packM (n.peers p) p q }] := by simp [NetM.send, hl]
      rw [e] at hf
      rcases List.mem_append.1 hf with hf | hf
      · exact hold f hf
      · obtain rfl := List.mem_singleton.1 hf
        have ha := h.ack p q hp hq hne
        have hk := h.knownLe hq hp
        refine ⟨p, (n.peers p).acked q, ((n.peers p).known q).length, (((n.peers p).known p).drop ((n.peers p).acked q)).take 64, rfl, hp, hne, hq, by simp; omega, ?_, ?_, ha, Nat.le_refl _⟩
        · rw [h.own p hp, List.length_take, List.length_drop]; omega
        · rw [h.own p hp]
          rw [List.take_eq_take_iff]
          simp
    · have e : (n.send p q).flights = n.flights := by simp [NetM.send, hl]
      rw [e] at hf
      exact hold f hf
theorem sendTo_same (n : NetM) (p : Nat) : ∀ k, (sendTo n p k).players = n.players ∧ (sendTo n p k).peers = n.peers ∧ (sendTo n p k).now = n.now ∧ (sendTo n p k).delay = n.delay ∧ (sendTo n p k).window = n.window ∧ (sendTo n p k).lags = n.lags
  | 0 => ⟨rfl, rfl, rfl, rfl, rfl, rfl⟩
  | k + 1 => by
    obtain ⟨h1, h2, h3, h4, h5, h6⟩ := sendTo_same n p k
    unfold sendTo
    split
    · exact ⟨h1, h2, h3, h4, h5, h6⟩
    · exact ⟨h1, h2, h3, h4, h5, h6⟩
theorem Inv.sendTo {n : NetM} {real : Nat → List Int} (h : Inv n real) {p : Nat} (hp : p < n.players) : ∀ k, k ≤ n.players → Inv (sendTo n p k) real
  | 0, _ => h
  | k + 1, hk => by
    have ih := Inv.sendTo h hp k (by omega)
    have hs := (sendTo_same n p k).1
    unfold Go.Proofs.YtandblanpafjoabGreatDoor.sendTo
    split
    · exact ih
    · exact ih.send (by omega) (by omega) (by omega)

/-! To go on. -/
theorem confTo_frame (x : PeerM) : ∀ k, confTo x k ≤ x.frame
  | 0 => Nat.le_refl _
  | k + 1 => by unfold confTo; have := confTo_frame x k; omega
theorem confTo_known (x : PeerM) : ∀ k q, q < k → confTo x k ≤ (x.known q).length
  | k + 1, q, hq => by
    unfold confTo
    by_cases h : q = k
    · subst h; omega
    · have := confTo_known x k q (by omega); omega
theorem confTo_mono {x y : PeerM} (hf : x.frame ≤ y.frame) : ∀ k, (∀ q, q < k → (x.known q).length ≤ (y.known q).length) → confTo x k ≤ confTo y k
  | 0, _ => hf
  | k + 1, h => by
    unfold confTo
    have := confTo_mono hf k (fun q hq => h q (by omega))
    have := h k (by omega)
    omega
def grown (real : Nat → List Int) (p : Nat) (v : Int) : Nat → List Int := fun q => if q = p then real p ++ [v] else real q
theorem grown_same (real : Nat → List Int) (p : Nat) (v : Int) : grown real p v p = real p ++ [v] := by simp [grown]
theorem grown_other (real : Nat → List Int) (p q : Nat) (v : Int) (h : q ≠ p) : grown real p v q = real q := by simp [grown, h]
theorem stepped_known (n : NetM) (p i j : Nat) (v : Int) : ((n.stepped p v).peers i).known j = if i = p ∧ j = p then (n.peers p).known p ++ [v] else (n.peers i).known j := by
  unfold NetM.stepped NetM.put PeerM.learn
  by_cases hi : i = p
  · subst hi
    by_cases hj : j = i
    · subst hj; simp
    · simp [hj]
  · simp [hi]
theorem stepped_acked (n : NetM) (p i : Nat) (v : Int) : ((n.stepped p v).peers i).acked = (n.peers i).acked := by
  unfold NetM.stepped NetM.put PeerM.learn
  by_cases hi : i = p <;> simp [hi]
theorem stepped_dropped (n : NetM) (p i : Nat) (v : Int) : ((n.stepped p v).peers i).dropped = (n.peers i).dropped := by
  unfold NetM.stepped NetM.put PeerM.learn
  by_cases hi : i = p <;> simp [hi]
theorem stepped_frame (n : NetM) (p i : Nat) (v : Int) : ((n.stepped p v).peers i).frame = if i = p then (n.peers p).frame + 1 else (n.peers i).frame := by
  unfold NetM.stepped NetM.put PeerM.learn
  by_cases hi : i = p <;> simp [hi]
theorem stepped_len (n : NetM) (p i j : Nat) (v : Int) : ((n.peers i).known j).length ≤ (((n.stepped p v).peers i).known j).length := by
  rw [stepped_known]
  split
  · rename_i h; rw [h.1, h.2]; simp
  · exact Nat.le_refl _
theorem Inv.stepped {n : NetM} {real : Nat → List Int} (h : Inv n real) {p : Nat} (hp : p < n.players) (v : Int) (hv : 0 ≤ v ∧ v ≤ 255) (hf : (n.peers p).frame < 200) (hw : (n.peers p).frame < n.conf p + n.window) : Inv (n.stepped p v) (grown real p v) where
  hp := h.hp
  hd := h.hd
  own q hq := by
    rw [stepped_known]
    by_cases e : q = p
    · subst e; rw [if_pos ⟨rfl, rfl⟩, grown_same, h.own q hp]
    · rw [if_neg (by simp [e]), grown_other _ _ _ _ e]; exact h.own q hq
  pre a b ha hb := by
    rw [stepped_known]
    by_cases e : b = p
    · subst e
      rw [grown_same]
      split
      · exact ⟨(real b ++ [v]).length, Nat.le_refl _, by rw [List.take_length, h.own b hp]⟩
      · obtain ⟨k, hk, e⟩ := h.pre a b ha hb
        exact ⟨k, by simp; omega, by rw [e, List.take_append_of_le_length hk]⟩
    · rw [if_neg (by simp [e]), grown_other _ _ _ _ e]; exact h.pre a b ha hb
  len q hq := by
    have := h.len q hq
    rw [stepped_frame]
    by_cases e : q = p
    · subst e; rw [if_pos rfl, grown_same]; show _ + 1 + n.delay = _; simp; omega
    · rw [if_neg e, grown_other _ _ _ _ e]; exact this
  fr q hq := by
    have := h.fr q hq
    rw [stepped_frame]
    split
    · omega
    · exact this
  byte q hq := by
    by_cases e : q = p
    · subst e; rw [grown_same]; exact (h.byte q hp).app (fun x hx => by rw [List.mem_singleton.1 hx]; exact hv)
    · rw [grown_other _ _ _ _ e]; exact h.byte q hq
  ack a b ha hb hne := by
    rw [stepped_acked]
    exact Nat.le_trans (h.ack a b ha hb hne) (stepped_len n p b a v)
  drop q hq := by rw [stepped_dropped]; exact h.drop q hq
  win q hq := by
    have hm : n.conf q ≤ (n.stepped p v).conf q := confTo_mono (by rw [stepped_frame]; split <;> (try subst_vars) <;> omega) _ (fun j _ => stepped_len n p q j v)
    have h1 := h.win q hq
    show _ ≤ (n.stepped p v).conf q + n.window
    rw [stepped_frame]
    by_cases e : q = p
    · subst e; rw [if_pos rfl]; omega
    · rw [if_neg e]; omega
  fly f hf := by
    obtain ⟨a, start, ack, ins, e1, e2, e3, e4, e5, e6, e7, e8, e9⟩ := h.fly f hf
    refine ⟨a, start, ack, ins, e1, e2, e3, e4, e5, ?_, ?_, Nat.le_trans e8 (stepped_len n p _ _ v), Nat.le_trans e9 (stepped_len n p _ _ v)⟩
    · by_cases e : a = p
      · subst e; rw [grown_same]; simp; omega
      · rw [grown_other _ _ _ _ e]; exact e6
    · by_cases e : a = p
      · subst e
        rw [grown_same, List.drop_append_of_le_length (by omega), List.take_append_of_le_length (by simp; omega)]
        exact e7
      · rw [grown_other _ _ _ _ e]; exact e7
theorem Inv.advance {n : NetM} {real : Nat → List Int} (h : Inv n real) {p : Nat} (hp : p < n.players) (v : Int) (hv : 0 ≤ v ∧ v ≤ 255) : Inv (n.advance p v).2 (if (n.advance p v).1 = 0 then grown real p v else real) := by
  unfold NetM.advance
  by_cases h1 : (n.peers p).frame = 200
  · rw [if_pos h1, if_neg (by simp)]; exact h
  · rw [if_neg h1]
    by_cases h2 : n.window ≤ (n.peers p).frame - n.conf p
    · rw [if_pos h2, if_neg (by simp)]; exact h
    · rw [if_neg h2, if_pos rfl]
      have := h.fr p hp
      exact (h.stepped hp v hv (by omega) (by omega)).sendTo hp _ (Nat.le_refl _)
end Go.Proofs.YtandblanpafjoabGreatDoor

