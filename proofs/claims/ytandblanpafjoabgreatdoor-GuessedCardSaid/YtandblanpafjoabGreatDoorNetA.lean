import Derived.Test.YtandblanpafjoabGreatDoorWireK
import Derived.Test.YtandblanpafjoabGreatDoorPeerT
import Derived.Test.YtandblanpafjoabGreatDoorPeerO
namespace Go.Proofs.YtandblanpafjoabGreatDoor
open Go.RowKit Go.Extern.Stop Go.Stop Go.Extern

/-! A net in memory. -/
def WPart (g : Nat) (pv lv wv : Value) (k : Nat) : Prop := k = g ∨ pv.ownBlock = some k ∨ lv.ownBlock = some k ∨ wv.ownBlock = some k
def BPart (bl : Nat → Nat) (fs : List FlyM) (k : Nat) : Prop := ∃ f ∈ fs, k = bl f.num
structure NetP (w : World) (g : Nat) (pv lv wv : Value) (bl : Nat → Nat) (l : List FlyM) (pb : Nat → Nat) (Fp : Nat → Nat → Prop) (m : NetM) : Prop where
  wire : WireAt w g pv m.lags m.now m.sent lv wv bl l
  perm : l.Perm m.flights
  heap : HeapO l l.length
  numb : Nums m
  row : w.ownsRow 0 84 1 pv m.players ((List.range m.players).map fun p => Value.pointer (some ⟨pb p, 0, none⟩))
  pvn : pv.ownBlock ≠ some g
  pvl : ∀ k, pv.ownBlock = some k → lv.ownBlock ≠ some k ∧ wv.ownBlock ≠ some k
  peers : ∀ p, p < m.players → ∃ FS v st, PeerAt w (pb p) (Fp p) FS p m.players m.window m.delay (m.peers p) v st
  plt : ∀ p k, p < m.players → Fp p k → k < w.heap.size ∧ ¬ WPart g pv lv wv k ∧ ¬ BPart bl m.flights k
  papart : ∀ p q k, p < m.players → q < m.players → Fp p k → Fp q k → p = q
  bytes : ∀ f ∈ m.flights, Blk w (bl f.num) (nums .u8 f.bytes) 5 ∧ ¬ WPart g pv lv wv (bl f.num)
  fly : ∀ f ∈ m.flights, f.to < m.players ∧ f.bytes.length ≤ 70000 ∧ ∀ j : Nat, 0 ≤ f.bytes.getD j 0 ∧ f.bytes.getD j 0 ≤ 255
  lags : ∀ x ∈ m.lags, -1 ≤ x ∧ x ≤ 20
  hp : 2 ≤ m.players ∧ m.players ≤ 4
def Foot (g : Nat) (pv lv wv : Value) (bl : Nat → Nat) (Fp : Nat → Nat → Prop) (m : NetM) (k : Nat) : Prop := WPart g pv lv wv k ∨ BPart bl m.flights k ∨ ∃ p, p < m.players ∧ Fp p k
theorem NetP.lt {w : World} {g : Nat} {pv lv wv : Value} {bl : Nat → Nat} {l : List FlyM} {pb : Nat → Nat} {Fp : Nat → Nat → Prop} {m : NetM} (h : NetP w g pv lv wv bl l pb Fp m) (k : Nat) (hk : Foot g pv lv wv bl Fp m k) : k < w.heap.size := by
  rcases hk with (hk | hk | hk) | ⟨f, hf, rfl⟩ | ⟨p, hp, hk⟩
  · exact h.wire.lts k (.inl hk)
  · exact (h.row.lt k hk).2
  · exact h.wire.lts k (.inr hk)
  · exact (h.bytes f hf).1.lt
  · exact (h.plt p k hp hk).1
theorem NetP.same {w w' : World} {g : Nat} {pv lv wv : Value} {bl : Nat → Nat} {l : List FlyM} {pb : Nat → Nat} {Fp : Nat → Nat → Prop} {m : NetM} (h : NetP w g pv lv wv bl l pb Fp m) (hs : ∀ k, Foot g pv lv wv bl Fp m k → w'.heap[k]? = w.heap[k]?) : NetP w' g pv lv wv bl l pb Fp m where
  wire := h.wire.same (fun k hk => hs k (.inl (hk.imp id (fun h => .inr h))))
  perm := h.perm
  heap := h.heap
  numb := h.numb
  row := owns_same h.row (fun k hk => hs k (.inl (.inr (.inl hk))))
  pvn := h.pvn
  pvl := h.pvl
  peers := fun p hp => by
    obtain ⟨FS, v, st, hP⟩ := h.peers p hp
    exact ⟨FS, v, st, hP.same (fun k hk => hs k (.inr (.inr ⟨p, hp, hk⟩)))⟩
  plt := fun p k hp hk => by
    refine ⟨?_, (h.plt p k hp hk).2⟩
    have h1 := hs k (.inr (.inr ⟨p, hp, hk⟩))
    rw [Array.getElem?_eq_getElem (h.plt p k hp hk).1] at h1
    exact (Array.getElem?_eq_some_iff.1 h1).1
  papart := h.papart
  bytes := fun f hf => ⟨(hs _ (.inr (.inl ⟨f, hf, rfl⟩))).trans (h.bytes f hf).1, (h.bytes f hf).2⟩
  fly := h.fly
  lags := h.lags
  hp := h.hp
theorem NetP.below {w w' : World} {g : Nat} {pv lv wv : Value} {bl : Nat → Nat} {l : List FlyM} {pb : Nat → Nat} {Fp : Nat → Nat → Prop} {m : NetM} (h : NetP w g pv lv wv bl l pb Fp m) (hb : Below w.heap.size w w') : NetP w' g pv lv wv bl l pb Fp m := h.same (fun k hk => hb.block k (h.lt k hk))
/-- A peer has changed. -/
theorem NetP.peer {w w' : World} {g : Nat} {pv lv wv : Value} {bl : Nat → Nat} {l : List FlyM} {pb : Nat → Nat} {Fp : Nat → Nat → Prop} {m : NetM} (h : NetP w g pv lv wv bl l pb Fp m) {p : Nat} (hp : p < m.players) (hC : Chg (Fp p) w w') {F' FS' : Nat → Prop} {x' : PeerM} {v' : Nat → Value} {st' : Value}
    (hP : PeerAt w' (pb p) F' FS' p m.players m.window m.delay x' v' st') (hF : ∀ k, F' k → Fp p k ∨ w.heap.size ≤ k) (hlt : ∀ k, F' k → k < w'.heap.size) : NetP w' g pv lv wv bl l pb (fun i => if i = p then F' else Fp i) (m.put p x') := by
  have hsW : ∀ k, WPart g pv lv wv k → w'.heap[k]? = w.heap[k]? := fun k hk => hC.block k (h.lt k (.inl hk)) (fun e => (h.plt p k hp e).2.1 hk)
  have hsB : ∀ k, BPart bl m.flights k → w'.heap[k]? = w.heap[k]? := fun k hk => hC.block k (h.lt k (.inr (.inl hk))) (fun e => (h.plt p k hp e).2.2 hk)
  refine ⟨h.wire.same (fun k hk => hsW k (hk.imp id (fun h => .inr h))), h.perm, h.heap, ⟨h.numb.lt, h.numb.row⟩, owns_same h.row (fun k hk => hsW k (.inr (.inl hk))), h.pvn, h.pvl, fun q hq => ?_, fun q k hq hk => ?_, fun q q' k hq hq' h1 h2 => ?_, fun f hf => ⟨(hsB _ ⟨f, hf, rfl⟩).trans (h.bytes f hf).1, (h.bytes f hf).2⟩, h.fly, h.lags, h.hp⟩
  · by_cases e : q = p
    · subst e
      simp only [if_true, NetM.put]
      exact ⟨FS', v', st', hP⟩
    · obtain ⟨FS, v, st, hQ⟩ := h.peers q hq
      simp only [if_neg e, NetM.put]
      exact ⟨FS, v, st, hQ.same (fun k hk => hC.block k (h.plt q k hq hk).1 (fun e2 => e (h.papart q p k hq hp hk e2)))⟩
  · by_cases e : q = p
    · subst e
      simp only [if_true] at hk
      refine ⟨hlt k hk, ?_⟩
      rcases hF k hk with hk | hk
      · exact (h.plt q k hq hk).2
      · exact ⟨fun hw => by have := h.lt k (.inl hw); omega, fun hb => by have := h.lt k (.inr (.inl hb)); omega⟩
    · simp only [if_neg e] at hk
      have := h.plt q k hq hk
      exact ⟨Nat.lt_of_lt_of_le this.1 hC.size, this.2⟩
  · by_cases e : q = p
    · by_cases e' : q' = p
      · rw [e, e']
      · simp only [if_pos e, if_neg e'] at h1 h2
        rcases hF k h1 with h1 | h1
        · rw [e]; exact h.papart p q' k hp hq' h1 h2
        · have := (h.plt q' k hq' h2).1; omega
    · by_cases e' : q' = p
      · simp only [if_neg e, if_pos e'] at h1 h2
        rcases hF k h2 with h2 | h2
        · rw [e']; exact h.papart q p k hq hp h1 h2
        · have := (h.plt q k hq h1).1; omega
      · simp only [if_neg e, if_neg e'] at h1 h2
        exact h.papart q q' k hq hq' h1 h2
theorem NetP.footPeer {w : World} {g : Nat} {pv lv wv : Value} {bl : Nat → Nat} {Fp : Nat → Nat → Prop} {m : NetM} {p : Nat} {F' : Nat → Prop} {x' : PeerM} (hp : p < m.players) (hF : ∀ k, F' k → Fp p k ∨ w.heap.size ≤ k) (k : Nat) (hk : Foot g pv lv wv bl (fun i => if i = p then F' else Fp i) (m.put p x') k) : Foot g pv lv wv bl Fp m k ∨ w.heap.size ≤ k := by
  rcases hk with hk | hk | ⟨q, hq, hk⟩
  · exact .inl (.inl hk)
  · exact .inl (.inr (.inl hk))
  · by_cases e : q = p
    · simp only [if_pos e] at hk
      exact (hF k hk).imp (fun h => .inr (.inr ⟨p, hp, h⟩)) id
    · simp only [if_neg e] at hk
      exact .inl (.inr (.inr ⟨q, hq, hk⟩))
theorem NetP.lagRng {w : World} {g : Nat} {pv lv wv : Value} {bl : Nat → Nat} {l : List FlyM} {pb : Nat → Nat} {Fp : Nat → Nat → Prop} {m : NetM} (h : NetP w g pv lv wv bl l pb Fp m) : -1 ≤ lagI m.lags m.sent ∧ lagI m.lags m.sent ≤ 20 := by
  unfold lagI
  split
  · omega
  · rename_i hne
    have hl : 0 < m.lags.length := List.length_pos_iff.2 hne
    have hm : m.sent % m.lags.length < m.lags.length := Nat.mod_lt _ hl
    rw [List.getD_eq_getElem?_getD, List.getElem?_eq_getElem hm]
    exact h.lags _ (List.getElem_mem _)
theorem Nums.few {m : NetM} (h : Nums m) : m.flights.length ≤ m.sent := by
  have : ∀ (l : List FlyM) (lo s : Nat), (∀ f ∈ l, lo ≤ f.num ∧ f.num < s) → l.Pairwise (fun a b => a.num < b.num) → l.length ≤ s - lo := by
    intro l
    induction l with
    | nil => intro lo s _ _; exact Nat.zero_le _
    | cons f l ih =>
      intro lo s h1 h2
      rw [List.pairwise_cons] at h2
      have h3 := ih (f.num + 1) s (fun a ha => ⟨h2.1 a ha, (h1 a (by simp [ha])).2⟩) h2.2
      have h4 := h1 f (by simp)
      simp only [List.length_cons]; omega
  have := this m.flights 0 m.sent (fun f hf => ⟨Nat.zero_le _, h.lt f hf⟩) h.row
  omega
theorem packM_in {x : PeerM} {num n win delay q : Nat} (h : POk x num n win delay) (hn : n ≤ 4) (hnum : num < n) (hq : q < n) : (packM x num q).length ≤ 72 ∧ ∀ j : Nat, 0 ≤ (packM x num q).getD j 0 ∧ (packM x num q).getD j 0 ≤ 255 := by
  have hl : (((x.known num).drop (x.acked q)).take 64).length ≤ 64 := by simp; omega
  have h1 := h.len num hnum
  have h2 := h.len q hq
  have h3 := h.ack q hq
  refine ⟨by unfold packM; rw [packL_len]; omega, ?_⟩
  refine (InB.pack (f := (num : Int)) (st := (x.acked q : Int)) (ak := ((x.known q).length : Int)) (l := ((x.known num).drop (x.acked q)).take 64) ⟨⟨by omega, by omega⟩, ⟨by omega, by omega⟩, ⟨by omega, by omega⟩, hl⟩ ?_).get
  intro y hy
  have hy2 := List.mem_of_mem_drop (List.mem_of_mem_take hy)
  obtain ⟨j, hj, rfl⟩ := List.mem_iff_getElem.1 hy2
  have := h.rng num hnum j
  rw [List.getD_eq_getElem?_getD, List.getElem?_eq_getElem hj] at this
  exact this
end Go.Proofs.YtandblanpafjoabGreatDoor
