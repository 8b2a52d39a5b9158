import Derived.Test.YtandblanpafjoabGreatDoorRepL
namespace Go.Proofs.YtandblanpafjoabGreatDoor
open Go.RowKit

/-! The net in plain numbers: peers, packets under way, time. -/
structure PeerM where
  known : Nat → List Int
  frame : Nat
  acked : Nat → Nat
  dropped : Nat
structure FlyM where
  to : Nat
  due : Nat
  num : Nat
  bytes : List Int
structure NetM where
  players : Nat
  window : Nat
  delay : Nat
  lags : List Int
  peers : Nat → PeerM
  flights : List FlyM
  now : Nat
  sent : Nat

def newM (players window delay : Nat) (lags : List Int) : NetM :=
  { players := players, window := window, delay := delay, lags := lags, peers := fun _ => { known := fun _ => List.replicate delay 0, frame := 0, acked := fun _ => delay, dropped := 0 }, flights := [], now := 0, sent := 0 }

def confTo (x : PeerM) : Nat → Nat
  | 0 => x.frame
  | q + 1 => min (confTo x q) (x.known q).length
def inputM (x : PeerM) (q f : Nat) : Int :=
  if f < (x.known q).length then (x.known q).getD f 0 else (x.known q).getD ((x.known q).length - 1) 0
def insM (x : PeerM) (players f : Nat) : List Int := (List.range players).map fun q => inputM x q f
def framesM (x : PeerM) (players f : Nat) : List (List Int) := (List.range f).map fun k => insM x players k

def NetM.conf (n : NetM) (p : Nat) : Nat := confTo (n.peers p) n.players
def NetM.lag (n : NetM) : Int := if n.lags = [] then 1 else n.lags.getD (n.sent % n.lags.length) 0
def packM (x : PeerM) (p q : Nat) : List Int := packL (p : Int) (x.acked q : Int) ((x.known q).length : Int) (((x.known p).drop (x.acked q)).take 64)
def NetM.send (n : NetM) (p q : Nat) : NetM :=
  { n with flights := if 0 ≤ n.lag then n.flights ++ [{ to := q, due := n.now + n.lag.toNat, num := n.sent, bytes := packM (n.peers p) p q }] else n.flights, sent := n.sent + 1 }
def sendTo (n : NetM) (p : Nat) : Nat → NetM
  | 0 => n
  | q + 1 => if q = p then sendTo n p q else (sendTo n p q).send p q
def NetM.put (n : NetM) (p : Nat) (x : PeerM) : NetM := { n with peers := fun i => if i = p then x else n.peers i }
def PeerM.learn (x : PeerM) (q : Nat) (l : List Int) : PeerM := { x with known := fun i => if i = q then l else x.known i }
def NetM.stepped (n : NetM) (p : Nat) (v : Int) : NetM := n.put p { (n.peers p).learn p ((n.peers p).known p ++ [v]) with frame := (n.peers p).frame + 1 }
/-- The kind (0: none) and the net. -/
def NetM.advance (n : NetM) (p : Nat) (v : Int) : Nat × NetM :=
  if (n.peers p).frame = 200 then (3, n)
  else if n.window ≤ (n.peers p).frame - n.conf p then (4, n)
  else (0, sendTo (n.stepped p v) p n.players)

/-- What is known behind a packet's inputs: those that follow on what was known. -/
def learnt (l : List Int) (start : Nat) (ins : List Int) : List Int := l ++ ins.drop (l.length - start)
def NetM.takes (n : NetM) (p : Nat) (b : List Int) : Prop :=
  OkP b ∧ fromL b ≠ (p : Int) ∧ fromL b < (n.players : Int) ∧ startL b ≤ (((n.peers p).known (fromL b).toNat).length : Int) ∧ startL b + ((inputsL b).length : Int) ≤ 200 + (n.delay : Int) ∧ ackL b ≤ (((n.peers p).known p).length : Int)
instance (n : NetM) (p : Nat) (b : List Int) : Decidable (n.takes p b) := by unfold NetM.takes; infer_instance
def taken (x : PeerM) (q start ack : Nat) (ins : List Int) : PeerM :=
  { x.learn q (learnt (x.known q) start ins) with acked := fun i => if i = q then max (x.acked q) ack else x.acked i }
def NetM.take (n : NetM) (p : Nat) (b : List Int) : Bool × NetM :=
  if n.takes p b then (true, n.put p (taken (n.peers p) (fromL b).toNat (startL b).toNat (ackL b).toNat (inputsL b)))
  else (false, n.put p { n.peers p with dropped := (n.peers p).dropped + 1 })

def before (a b : FlyM) : Prop := a.due < b.due ∨ (a.due = b.due ∧ a.num < b.num)
instance (a b : FlyM) : Decidable (before a b) := by unfold before; infer_instance
/-- The place of the packet that comes first. -/
def firstTo (l : List FlyM) (d : FlyM) : Nat → Nat
  | 0 => 0
  | i + 1 => if before (l.getD i d) (l.getD (firstTo l d i) d) then i else firstTo l d i
def fly0 : FlyM := { to := 0, due := 0, num := 0, bytes := [] }
def firstM (l : List FlyM) : Nat := firstTo l fly0 l.length
/-- Packets that are due come. -/
def comeM : Nat → NetM → NetM
  | 0, n => n
  | k + 1, n =>
    if n.flights = [] then n
    else if n.now < (n.flights.getD (firstM n.flights) fly0).due then n
    else comeM k (({ n with flights := n.flights.eraseIdx (firstM n.flights) }).take (n.flights.getD (firstM n.flights) fly0).to (n.flights.getD (firstM n.flights) fly0).bytes).2
def againTo (n : NetM) (p : Nat) : Nat → NetM
  | 0 => n
  | q + 1 => if q ≠ p ∧ ((againTo n p q).peers p).acked q < (((againTo n p q).peers p).known p).length then (againTo n p q).send p q else againTo n p q
def againAll (n : NetM) : Nat → NetM
  | 0 => n
  | p + 1 => againTo (againAll n p) p n.players
def NetM.tick (n : NetM) : NetM :=
  let m := comeM n.flights.length { n with now := n.now + 1 }
  againAll m m.players
end Go.Proofs.YtandblanpafjoabGreatDoor
