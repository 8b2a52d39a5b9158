import Derived.Test.YtandblanpafjoaaGreatDoorPack23
import Derived.Test.YtandblanpafjoaaGreatDoorPack19
namespace Go.Proofs.YtandblanpafjoaaGreatDoor
open Go.RowKit Go.Extern.Stop Go.Stop Go.Extern
/-- A net, its row of peers and their blocks; F: all its blocks. -/
def NetQ (w : World) (g : Nat) (pv : Value) (pb : Nat → Nat) (F : Nat → Prop) (m : NetM) : Prop := ∃ lv wv bl l Fp, NetP w g pv lv wv bl l pb Fp m ∧ ∀ k, F k ↔ Foot g pv lv wv bl Fp m k
theorem NetQ.lt {w : World} {g : Nat} {pv : Value} {pb : Nat → Nat} {F : Nat → Prop} {m : NetM} (h : NetQ w g pv pb F m) (k : Nat) (hk : F k) : k < w.heap.size := by
  obtain ⟨lv, wv, bl, l, Fp, hN, hF⟩ := h
  exact hN.lt k ((hF k).1 hk)
theorem NetQ.same {w w' : World} {g : Nat} {pv : Value} {pb : Nat → Nat} {F : Nat → Prop} {m : NetM} (h : NetQ w g pv pb F m) (hs : Same F w w') : NetQ w' g pv pb F m := by
  obtain ⟨lv, wv, bl, l, Fp, hN, hF⟩ := h
  exact ⟨lv, wv, bl, l, Fp, hN.same (fun k hk => hs k ((hF k).2 hk)), hF⟩
theorem NetQ.below {w w' : World} {g : Nat} {pv : Value} {pb : Nat → Nat} {F : Nat → Prop} {m : NetM} (h : NetQ w g pv pb F m) (hb : Below w.heap.size w w') : NetQ w' g pv pb F m := h.same (fun k hk => hb.block k (h.lt k hk))
/-- Bytes are put on their way. -/
def NetM.put1 (m : NetM) (q : Nat) (b : List Int) : NetM := { m with flights := if 0 ≤ m.lag then m.flights ++ [{ «to» := q, due := m.now + m.lag.toNat, num := m.sent, bytes := b }] else m.flights, sent := m.sent + 1 }
theorem send_put1 (m : NetM) (p q : Nat) : m.send p q = m.put1 q (packM (m.peers p) p q) := rfl
theorem putB_old {bl : Nat → Nat} {fs : List FlyM} {n b : Nat} (h : ∀ f ∈ fs, f.num < n) {f : FlyM} (hf : f ∈ fs) : putB bl n b f.num = bl f.num := by have := h f hf; simp [putB]; omega
theorem NetP.put1 {w w1 w' : World} {g : Nat} {pv lv wv wv' : Value} {bl : Nat → Nat} {l : List FlyM} {pb : Nat → Nat} {Fp : Nat → Nat → Prop} {m : NetM} (h : NetP w g pv lv wv bl l pb Fp m) (hb : Below w.heap.size w w1) {bb q : Nat} {b : List Int} (hB : Blk w1 bb (nums .u8 b) 5) (hbb : w.heap.size ≤ bb) (hq : q < m.players) (hl : b.length ≤ 70000) (hr : ∀ j : Nat, 0 ≤ b.getD j 0 ∧ b.getD j 0 ≤ 255)
    (hW : WireAt w' g pv m.lags m.now (m.sent + 1) lv wv' (putB bl m.sent bb) (sentL l (lagI m.lags m.sent) { «to» := q, due := m.now + (lagI m.lags m.sent).toNat, num := m.sent, bytes := b })) (hC : Chg (fun k => k = g ∨ wv.ownBlock = some k) w1 w') (hloc : ∀ k, wv'.ownBlock = some k → wv.ownBlock = some k ∨ w1.heap.size ≤ k) :
    NetP w' g pv lv wv' (putB bl m.sent bb) (sentL l (lagI m.lags m.sent) { «to» := q, due := m.now + (lagI m.lags m.sent).toNat, num := m.sent, bytes := b }) pb Fp (m.put1 q b) := by
  have hz := hb.size
  have hbl1 := hB.lt
  have hsm : ∀ k, k < w.heap.size → ¬ (k = g ∨ wv.ownBlock = some k) → w'.heap[k]? = w.heap[k]? := fun k hk hn => (hC.block k (by omega) hn).trans (hb.block k hk)
  have hwp : ∀ k, WPart g pv lv wv' k → WPart g pv lv wv k ∨ w1.heap.size ≤ k := by
    rintro k (e | e | e | e)
    · exact .inl (.inl e)
    · exact .inl (.inr (.inl e))
    · exact .inl (.inr (.inr (.inl e)))
    · exact (hloc k e).imp (fun h => .inr (.inr (.inr h))) id
  have hmem : ∀ f, f ∈ (m.put1 q b).flights → f ∈ m.flights ∨ (f.num = m.sent ∧ f.bytes = b ∧ f.to = q) := by
    intro f hf
    simp only [NetM.put1] at hf
    split at hf
    · rcases List.mem_append.1 hf with hf | hf
      · exact .inl hf
      · have := List.mem_singleton.1 hf
        exact .inr (by rw [this]; exact ⟨rfl, rfl, rfl⟩)
    · exact .inl hf
  refine ⟨hW, ?_, ?_, ?_, owns_same h.row (fun k hk => hsm k (h.row.lt k hk).2 (fun e => ?_)), h.pvn, fun k hk => ⟨(h.pvl k hk).1, fun e => ?_⟩, fun p hp => ?_, fun p k hp hk => ?_, h.papart, fun f hf => ?_, fun f hf => ?_, h.lags, h.hp⟩
  · by_cases hlg : 0 ≤ lagI m.lags m.sent
    · have e1 : sentL l (lagI m.lags m.sent) { «to» := q, due := m.now + (lagI m.lags m.sent).toNat, num := m.sent, bytes := b } = pushL l { «to» := q, due := m.now + (lagI m.lags m.sent).toNat, num := m.sent, bytes := b } := if_pos hlg
      have e2 : (m.put1 q b).flights = m.flights ++ [{ «to» := q, due := m.now + (lagI m.lags m.sent).toNat, num := m.sent, bytes := b }] := if_pos hlg
      rw [e1, e2]
      exact (pushL_perm _ _).trans (h.perm.append_right _)
    · have e1 : sentL l (lagI m.lags m.sent) { «to» := q, due := m.now + (lagI m.lags m.sent).toNat, num := m.sent, bytes := b } = l := if_neg hlg
      have e2 : (m.put1 q b).flights = m.flights := if_neg hlg
      rw [e1, e2]
      exact h.perm
  · simp only [sentL]
    split
    · exact pushL_heap _ h.heap
    · exact h.heap
  · refine ⟨fun f hf => ?_, ?_⟩
    · rcases hmem f hf with hf | hf
      · have := h.numb.lt f hf
        show f.num < m.sent + 1
        omega
      · show f.num < m.sent + 1
        omega
    · simp only [NetM.put1]
      split
      · rw [List.pairwise_append]
        refine ⟨h.numb.row, List.pairwise_singleton _ _, fun a ha c hc => ?_⟩
        rw [List.mem_singleton.1 hc]
        exact h.numb.lt a ha
      · exact h.numb.row
  · rcases e with e | e
    · exact h.pvn (by rw [hk, e])
    · exact (h.pvl k hk).2 e
  · rcases hloc k e with e | e
    · exact (h.pvl k hk).2 e
    · have := (h.row.lt k hk).2; omega
  · obtain ⟨FS, v, st, hP⟩ := h.peers p hp
    refine ⟨FS, v, st, hP.same (fun k hk => hsm k (h.plt p k hp hk).1 (fun e => (h.plt p k hp hk).2.1 ?_))⟩
    rcases e with e | e
    · exact .inl e
    · exact .inr (.inr (.inr e))
  · have h1 := h.plt p k hp hk
    refine ⟨by have := hC.size; omega, fun e => ?_, fun e => ?_⟩
    · rcases hwp k e with e | e
      · exact h1.2.1 e
      · omega
    · obtain ⟨f, hf, e⟩ := e
      rcases hmem f hf with hf | hf
      · rw [putB_old h.numb.lt hf] at e
        exact h1.2.2 ⟨f, hf, e⟩
      · rw [hf.1] at e
        simp only [putB, if_true] at e
        omega
  · rcases hmem f hf with hf | hf
    · rw [putB_old h.numb.lt hf]
      have h1 := h.bytes f hf
      refine ⟨(hsm _ h1.1.lt (fun e => h1.2 ?_)).trans h1.1, fun e => ?_⟩
      · rcases e with e | e
        · exact .inl e
        · exact .inr (.inr (.inr e))
      · rcases hwp _ e with e | e
        · exact h1.2 e
        · have := h1.1.lt; omega
    · rw [hf.1, hf.2.1]
      simp only [putB, if_true]
      refine ⟨(hC.block bb hbl1 (fun e => ?_)).trans hB, fun e => ?_⟩
      · have := h.lt bb (.inl (e.imp id (fun e => .inr (.inr e)))); omega
      · rcases hwp _ e with e | e
        · have := h.lt bb (.inl e); omega
        · omega
  · rcases hmem f hf with hf | hf
    · exact h.fly f hf
    · rw [hf.2.1, hf.2.2]; exact ⟨hq, hl, hr⟩
set_option maxHeartbeats 800000 in
theorem nsend_any (g : Nat) (pv : Value) (pb : Nat → Nat) (F : Nat → Prop) (m : NetM) (w w1 : World) (h : NetQ w g pv pb F m) (hb : Below w.heap.size w w1) (bb q : Nat) (b : List Int) (hB : Blk w1 bb (nums .u8 b) 5) (hbb : w.heap.size ≤ bb) (hq : q < m.players) (hl : b.length ≤ 70000) (hr : ∀ j : Nat, 0 ≤ b.getD j 0 ∧ b.getD j 0 ≤ 255) (hs : m.sent ≤ 900000) (hn : m.now ≤ 900000) :
    Calls Tryz.prog 33 #[.pointer (some ⟨g, 1, none⟩), .int .i64 (q : Int), .slice (some ⟨bb, 0, none⟩) b.length b.length] w1 fun e w' => e = .returned (.tuple #[]) ∧ Chg F w w' ∧ ∃ F', NetQ w' g pv pb F' (m.put1 q b) ∧ ∀ k, F' k → F k ∨ w.heap.size ≤ k := by
  obtain ⟨lv, wv, bl, l, Fp, hN, hF⟩ := h
  have hN1 := hN.below hb
  have hlen : l.length ≤ m.sent := by rw [hN.perm.length_eq]; exact hN.numb.few
  refine (send_any g pv m.lags m.now m.sent lv wv bl l w1 hN1.wire hs hn (by omega) hN.lagRng q bb b (fun f hf => hN.numb.lt f (hN.perm.mem_iff.1 hf))).mono ?_
  rintro e w' ⟨rfl, wv', hW, hC, hloc⟩
  have hN2 := hN.put1 hb hB hbb hq hl hr hW hC hloc
  refine ⟨rfl, (Chg.ofBelow (F := F) hb).trans hC (fun k _ e => (hF k).2 (.inl (e.imp id (fun e => .inr (.inr e))))), _, ⟨lv, wv', _, _, Fp, hN2, fun k => Iff.rfl⟩, fun k hk => ?_⟩
  have hz := hb.size
  rcases hk with hk | ⟨f, hf, e⟩ | hk
  · rcases hk with e | e | e | e
    · exact .inl ((hF k).2 (.inl (.inl e)))
    · exact .inl ((hF k).2 (.inl (.inr (.inl e))))
    · exact .inl ((hF k).2 (.inl (.inr (.inr (.inl e)))))
    · rcases hloc k e with e | e
      · exact .inl ((hF k).2 (.inl (.inr (.inr (.inr e)))))
      · right; omega
  · by_cases hfm : f ∈ m.flights
    · rw [putB_old hN.numb.lt hfm] at e
      exact .inl ((hF k).2 (.inr (.inl ⟨f, hfm, e⟩)))
    · right
      have : f.num = m.sent := by
        simp only [NetM.put1] at hf
        split at hf
        · rcases List.mem_append.1 hf with hf | hf
          · exact absurd hf hfm
          · rw [List.mem_singleton.1 hf]
        · exact absurd hf hfm
      rw [this] at e
      simp only [putB, if_true] at e
      omega
  · exact .inl ((hF k).2 (.inr (.inr hk)))
end Go.Proofs.YtandblanpafjoaaGreatDoor

namespace Go.Proofs.YtandblanpafjoaaGreatDoor
open Go.RowKit Go.Extern.Stop Go.Stop Go.Extern
theorem own_ptrs {w : World} {B n : Nat} {v : Value} {pb : Nat → Nat} (h : w.ownsRow B 67 1 v n ((List.range n).map fun p => Value.pointer (some ⟨pb p, 0, none⟩))) (hl : 0 < n) : ∃ g cap, v = .slice (some ⟨g, 0, none⟩) n cap ∧ ∀ j, j < n → w.cell? ⟨g, j, none⟩ = some (.pointer (some ⟨pb j, 0, none⟩)) := by
  obtain ⟨h1, h2⟩ := h
  rcases h2 with ⟨e, h0⟩ | ⟨g, cap, cur, e, hB, hg, hc, _, hs, ht⟩
  · omega
  · refine ⟨g, cap, e, fun j hj => ?_⟩
    rw [cell_of_row w g j cur 67 (0, 0) hg]
    have := congrArg (fun l => l[j]?) ht
    simp only [Nat.mul_one, List.getElem?_take, hj, if_true, Array.getElem?_toList, List.getElem?_map] at this
    rw [this]
    simp [hj]
theorem NetQ.parts {w : World} {g : Nat} {pv : Value} {pb : Nat → Nat} {F : Nat → Prop} {m : NetM} (h : NetQ w g pv pb F m) : ∃ rb cap, pv = .slice (some ⟨rb, 0, none⟩) m.players cap ∧ w.cell? ⟨g, 0, none⟩ = some pv ∧ (∀ j, j < m.players → w.cell? ⟨rb, j, none⟩ = some (.pointer (some ⟨pb j, 0, none⟩))) ∧ 2 ≤ m.players ∧ m.players ≤ 4 := by
  obtain ⟨lv, wv, bl, l, Fp, hN, hF⟩ := h
  obtain ⟨rb, cap, e, hc⟩ := own_ptrs hN.row (by have := hN.hp; omega)
  exact ⟨rb, cap, e, hN.wire.blk.cell 0, hc, hN.hp⟩
set_option maxHeartbeats 800000 in
theorem npeer_yes (g p : Nat) (pv : Value) (pb : Nat → Nat) (F : Nat → Prop) (m : NetM) (w : World) (h : NetQ w g pv pb F m) (hp : p < m.players) :
    Calls Tryz.prog 82 #[.pointer (some ⟨g, 0, none⟩), .int .i64 (p : Int)] w fun e w' => e = .returned (.tuple #[.pointer (some ⟨pb p, 0, none⟩), .nilIface]) ∧ w' = w := by
  obtain ⟨rb, cap, rfl, c0, hc, _, hn4⟩ := h.parts
  have cp := hc p hp
  have d1 : decide ((p : Int) < 0) = false := by simp
  have d2 : decide (m.players ≤ p) = false := by simp; omega
  have p0 : (0 : Int) ≤ (p : Int) := by omega
  have p1 : (p : Int) < (m.players : Int) := by omega
  generalize m.players = n at *
  clear h hc
  go_enter Tryz.func82, Tryz.ntmps82
  go_wp2
  go_ret2
  exact ⟨rfl, rfl⟩
end Go.Proofs.YtandblanpafjoaaGreatDoor

namespace Go.Proofs.YtandblanpafjoaaGreatDoor
open Go.RowKit Go.Extern.Stop Go.Stop Go.Extern
theorem StoreAt.clip {w : World} {st : Value} {F : Nat → Prop} {n win lo frame : Nat} {fs : Nat → List Int} (h : StoreAt w st F n win lo frame fs) : StoreAt w st (fun k => F k ∧ k < w.heap.size) n win lo frame fs := by
  rcases h with ⟨sb, pb, rb, e, h⟩ | ⟨sb, pb, rb, mb, e, h⟩
  · exact .inl ⟨sb, pb, rb, e, h.blk, h.pl, h.st, h.ne1, h.ne2, h.ne3, ⟨h.f1, h.blk.lt⟩, ⟨h.f2, h.pl.lt⟩, ⟨h.f3, h.st.lt⟩⟩
  · have hr : rb < w.heap.size := by obtain ⟨t, ht⟩ := h.ring; exact ht.lt
    exact .inr ⟨sb, pb, rb, mb, e, h.blk, h.pl, h.ring, h.maps, h.past, h.next, h.inj, fun i hi => ⟨(h.far i hi).1, (h.far i hi).2.1, (h.far i hi).2.2.1, (h.far i hi).2.2.2, by obtain ⟨M, hM⟩ := h.maps i hi; exact hM.lt⟩, h.ne1, h.ne2, h.ne3, ⟨h.f1, h.blk.lt⟩, ⟨h.f2, h.pl.lt⟩, ⟨h.f3, hr⟩⟩
theorem PeerAt.clip {w : World} {b : Nat} {F FS : Nat → Prop} {num n win delay : Nat} {x : PeerM} {v : Nat → Value} {st : Value} (h : PeerAt w b F FS num n win delay x v st) : PeerAt w b (fun k => F k ∧ k < w.heap.size) (fun k => FS k ∧ k < w.heap.size) num n win delay x v st :=
  ⟨⟨h.blk, h.known, h.nils, h.lens, ⟨h.fb, h.blk.lt⟩, fun q k hq hk => ⟨⟨(h.fk q k hq hk).1, ((h.known q hq).lt k hk).2⟩, (h.fk q k hq hk).2.1, fun e => (h.fk q k hq hk).2.2 e.1⟩, h.fd, fun k hk => ⟨⟨(h.fs k hk.1).1, hk.2⟩, (h.fs k hk.1).2⟩, h.hn2, h.hn4, h.hw, h.hnum, h.drop⟩, h.store.clip, h.ok⟩
theorem NetQ.peer {w w' : World} {g p : Nat} {pv : Value} {pb : Nat → Nat} {F : Nat → Prop} {m : NetM} {lv wv : Value} {bl : Nat → Nat} {l : List FlyM} {Fp : Nat → Nat → Prop} (hN : NetP w g pv lv wv bl l pb Fp m) (hF : ∀ k, F k ↔ Foot g pv lv wv bl Fp m k) (hp : p < m.players) (hC : Chg (Fp p) w w') {F' FS' : Nat → Prop} {x' : PeerM} {v' : Nat → Value} {st' : Value}
    (hP : PeerAt w' (pb p) F' FS' p m.players m.window m.delay x' v' st') (hF' : ∀ k, F' k → Fp p k ∨ w.heap.size ≤ k) : Chg F w w' ∧ ∃ F1, NetQ w' g pv pb F1 (m.put p x') ∧ ∀ k, F1 k → F k ∨ w.heap.size ≤ k :=
  ⟨hC.mono (fun k _ e => (hF k).2 (.inr (.inr ⟨p, hp, e⟩))), _, ⟨lv, wv, bl, l, _, hN.peer hp hC hP.clip (fun k hk => hF' k hk.1) (fun _ hk => hk.2), fun _ => Iff.rfl⟩, fun k hk => (NetP.footPeer (w := w) hp (F' := fun k => F' k ∧ k < w'.heap.size) (fun k hk => hF' k hk.1) k hk).imp (fun h => (hF k).2 h) id⟩
theorem sendTo_sent (n : NetM) (p : Nat) : ∀ k, (sendTo n p k).sent ≤ n.sent + k
  | 0 => Nat.le_refl _
  | k + 1 => by
    have := sendTo_sent n p k
    simp only [sendTo]
    split
    · omega
    · simp only [NetM.send]; omega
set_option maxRecDepth 10000 in
set_option maxHeartbeats 1600000 in
theorem nadvance_yes (g p : Nat) (i : Int) (pv : Value) (pb : Nat → Nat) (F : Nat → Prop) (m : NetM) (w : World) (h : NetQ w g pv pb F m) (hp : p < m.players) (hi : 0 ≤ i ∧ i ≤ 255) (hs : m.sent + 4 ≤ 900000) (hnow : m.now ≤ 900000) (he : (m.peers p).frame < 200) (hst : (m.peers p).frame < m.conf p + m.window) :
    Calls Tryz.prog 57 #[.pointer (some ⟨g, 0, none⟩), .int .i64 (p : Int), .int .u8 i] w fun e w' => e = .returned .nilIface ∧ Chg F w w' ∧ ∃ F', NetQ w' g pv pb F' (sendTo (m.stepped p i) p m.players) ∧ ∀ k, F' k → F k ∨ w.heap.size ≤ k := by
  have HN := hide h
  go_enter Tryz.func57, Tryz.ntmps57
  go_wp2_with fail
  refine (npeer_yes g p pv pb F m w h hp).mono ?_
  clear h
  rintro e w1 ⟨rfl, rfl⟩
  go_wp2_with fail
  obtain ⟨lv, wv, bl, l, Fp, hN, hF⟩ := unhide HN
  obtain ⟨FS, v, st, hP⟩ := hN.peers p hp
  refine (padvance_yes (pb p) p m.players m.window m.delay i (Fp p) FS (m.peers p) v st w1 hP hi (fun k hk => (hN.plt p k hp hk).1) he hst).mono ?_
  rintro e w2 ⟨rfl, hC, F', FS', v', hF', hP'⟩
  obtain ⟨hC2, F1, hQ1, hF1⟩ := NetQ.peer hN hF hp hC hP' hF'
  have hQ2 : NetQ w2 g pv pb F1 (m.stepped p i) := hQ1
  have hak : ∀ q, q < m.players → (stepM (m.peers p) p i).acked q < ((stepM (m.peers p) p i).known p).length := fun q hq => by
    have := hP.ok.ack q hq
    rw [stepM_known, if_pos rfl]
    simp only [stepM, PeerM.learn, List.length_append, List.length_cons, List.length_nil]
    omega
  obtain ⟨rb, cap, epv, c0, _, hn2, hn4⟩ := hQ2.parts
  have hpl : (m.stepped p i).players = m.players := rfl
  rw [hpl] at epv hn2 hn4
  have c0' : w2.cell? ⟨g, 0, none⟩ = some (.slice (some ⟨rb, 0, none⟩) m.players cap) := by rw [← epv]; exact c0
  have H2 := hide (And.intro hC2 (And.intro hQ2 (And.intro hF1 hak)))
  clear hN hF hP hC hP' hF' hC2 hQ1 hQ2 hF1 c0 hak hpl
  go_wp2_with fail
  clear c0'
  go_loopw [31] (fun s wr => ∃ (k : Nat) (F2 : Nat → Prop), k ≤ m.players ∧ s = .int .i64 (k : Int) ∧ NetQ wr g pv pb F2 (sendTo (m.stepped p i) p k) ∧ (∀ j, F2 j → F j ∨ w1.heap.size ≤ j) ∧ Chg F w1 wr) (fun s _ => m.players - (intOf s).toNat)
  case atStart =>
    obtain ⟨hC2, hQ2, hF1, _⟩ := unhide H2
    exact ⟨0, F1, by omega, rfl, hQ2, hF1, hC2⟩
  case round =>
    obtain ⟨k, F2, hk, rfl, hQ, hF2, hCr⟩ := hrel
    have HQ := hide (And.intro hQ (And.intro hF2 hCr))
    clear hQ hF2 hCr
    by_cases hlt : k < m.players
    · have hd : decide (k < m.players) = true := by simp; omega
      have hadd := i64_id ((k : Int) + 1) (by omega) (by omega)
      by_cases hkp : k = p
      · have hne : ((k : Int) != (p : Int)) = false := by simp [hkp]
        have HK := hide hkp
        clear hkp
        go_wp2
        obtain ⟨hQ, hF2, hCr⟩ := unhide HQ
        refine ⟨⟨k + 1, F2, by omega, by go_num, ?_, hF2, hCr⟩, by simp [intOf]; omega⟩
        simp only [sendTo, if_pos (unhide HK)]
        exact hQ
      · have hne : ((k : Int) != (p : Int)) = true := by simp; omega
        have HK := hide hkp
        clear hkp
        go_wp2_with fail
        refine wp_region_noPanic ?_
        refine wp_held_reads 6 (fun _ => True) (by kernel_rfl) (by simp) (by kernel_rfl) (by kernel_rfl) (fun _ _ _ _ _ h => h) trivial ?_
        simp only [List.take_succ_cons, List.take_zero]
        refine wpHeld_op ?y0 rfl ?z0 ?_
        case z0 => intro w' _; go_simp; rfl
        refine wpHeld_op ?y1 rfl ?z1 ?_
        case z1 => intro w' _; go_simp; rfl
        refine wpHeld_op ?y2 rfl ?z2 ?_
        case z2 => intro w' _; go_simp; rfl
        refine wpHeld_op ?y3 rfl ?z3 ?_
        case z3 => intro w' _; go_simp; rfl
        refine wpHeld_op ?y4 rfl ?z4 ?_
        case z4 => intro w' _; go_simp; rfl
        refine wpHeld_op ?y5 rfl ?z5 ?_
        case z5 => intro w' _; go_simp; rfl
        unfold wpHeld
        refine wpAnyH_all (rs := [6]) (by kernel_rfl) (by simp) ?_
        intro j hj
        obtain rfl : j = 6 := by simpa using hj
        refine wpOp_of_list _ rfl rfl ?_
        go_wp2_with fail
        have hpe : (sendTo (m.stepped p i) p k).peers p = stepM (m.peers p) p i := by
          rw [(sendTo_same (m.stepped p i) p k).2.1]; simp [NetM.stepped, NetM.put, stepM]
        have hsm := sendTo_same (m.stepped p i) p k
        have hplk : (sendTo (m.stepped p i) p k).players = m.players := hsm.1
        have hQd : NetQ wr.drew g pv pb F2 (sendTo (m.stepped p i) p k) := (unhide HQ).1.same (fun _ _ => rfl)
        have hpk : ∃ Fp3 FS3 v3 st3, PeerAt wr.drew (pb p) Fp3 FS3 p m.players m.window m.delay (stepM (m.peers p) p i) v3 st3 := by
          obtain ⟨lv3, wv3, bl3, l3, Fp3, hN3, hF3⟩ := hQd
          obtain ⟨FS3, v3, st3, hP3⟩ := hN3.peers p (by rw [hplk]; exact hp)
          rw [hpe, hplk, hsm.2.2.2.1, hsm.2.2.2.2.1] at hP3
          exact ⟨Fp3 p, FS3, v3, st3, hP3⟩
        obtain ⟨Fp3, FS3, v3, st3, hP3⟩ := hpk
        refine (packet_any (pb p) p m.players m.window m.delay k Fp3 FS3 (stepM (m.peers p) p i) v3 st3 wr.drew hP3.toPeerK hlt ((unhide H2).2.2.2 k hlt)).mono ?_
        rintro e w5 ⟨g5, rfl, hg5, hB5, hb5⟩
        have hin := packM_in hP3.ok hn4 hp hlt
        clear hP3
        go_wp2_with fail
        refine ⟨trivial, ?_⟩
        refine wpAnyH_all (rs := [7]) (by kernel_rfl) (by simp) ?_
        intro j hj
        obtain rfl : j = 7 := by simpa using hj
        refine wpOp_of_list _ rfl rfl ?_
        go_wp2_with fail
        have hss := sendTo_sent (m.stepped p i) p k
        have hss2 : (m.stepped p i).sent = m.sent := rfl
        have hnn : (sendTo (m.stepped p i) p k).now = m.now := hsm.2.2.1
        refine (nsend_any g pv pb F2 (sendTo (m.stepped p i) p k) wr.drew w5 hQd hb5 g5 k (packM (stepM (m.peers p) p i) p k) hB5 hg5 (by rw [hplk]; exact hlt) (by omega) hin.2 (by omega) (by omega)).mono ?_
        rintro e w6 ⟨rfl, hC6, F6, hQ6, hF6⟩
        have H6 := hide (And.intro hC6 (And.intro hQ6 hF6))
        clear hC6 hQ6 hF6 hQd hB5 hb5 hin
        go_wp2_with fail
        refine ⟨trivial, ⟨by kernel_rfl, ?_⟩⟩
        refine NoPanic.normal ?_
        go_wp2
        obtain ⟨hQ, hF2, hCr⟩ := unhide HQ
        obtain ⟨hC6, hQ6, hF6⟩ := unhide H6
        have hzr := hCr.size
        have hdz : wr.drew.heap.size = wr.heap.size := rfl
        refine ⟨⟨k + 1, F6, by omega, by go_num, ?_, fun j hj => ?_, ?_⟩, by simp [intOf]; omega⟩
        · simp only [sendTo, if_neg (unhide HK)]
          rw [send_put1, hpe]
          exact hQ6
        · rcases hF6 j hj with e | e
          · exact hF2 j e
          · right; omega
        · exact (hCr.trans (Chg.drew F wr) (fun _ _ h => h)).trans hC6 (fun j hj e => by
            rcases hF2 j e with e | e
            · exact e
            · omega)
    · have hd : decide (k < m.players) = false := by simp; omega
      have hke : k = m.players := by omega
      have HK := hide hke
      clear hke
      go_wp2
      go_ret
      obtain ⟨hQ, hF2, hCr⟩ := unhide HQ
      rw [unhide HK] at hQ
      exact ⟨rfl, hCr, F2, hQ, hF2⟩
end Go.Proofs.YtandblanpafjoaaGreatDoor

namespace Go.Proofs.YtandblanpafjoaaGreatDoor
open Go.RowKit Go.Extern.Stop Go.Stop Go.Extern
theorem NetQ.at {w : World} {g p : Nat} {pv : Value} {pb : Nat → Nat} {F : Nat → Prop} {m : NetM} (h : NetQ w g pv pb F m) (hp : p < m.players) : ∃ Fp FS v st, PeerAt w (pb p) Fp FS p m.players m.window m.delay (m.peers p) v st := by
  obtain ⟨lv, wv, bl, l, Fp, hN, hF⟩ := h
  obtain ⟨FS, v, st, hP⟩ := hN.peers p hp
  exact ⟨Fp p, FS, v, st, hP⟩
set_option maxHeartbeats 800000 in
theorem nadvance_no (g p : Nat) (i : Int) (k : Nat) (pv : Value) (pb : Nat → Nat) (F : Nat → Prop) (m : NetM) (w : World) (h : NetQ w g pv pb F m) (hp : p < m.players) (hk : (m.advance p i).1 = k) (hk0 : k ≠ 0) :
    Calls Tryz.prog 57 #[.pointer (some ⟨g, 0, none⟩), .int .i64 (p : Int), .int .u8 i] w fun e w' => FaultAt w' e w.heap.size p (k : Int) ∧ Below w.heap.size w w' := by
  have HN := hide h
  obtain ⟨Fp, FS, v, st, hP⟩ := h.at hp
  have hcall : Calls Tryz.prog 83 #[.pointer (some ⟨pb p, 0, none⟩), .int .u8 i] w fun e w' => ∃ g, e = .returned (.iface 149 (.pointer (some ⟨g, 0, none⟩))) ∧ w.heap.size ≤ g ∧ w'.cell? ⟨g, 0, none⟩ = some (.int .i64 (p : Int)) ∧ w'.cell? ⟨g, 1, none⟩ = some (.int .i64 (k : Int)) ∧ Below w.heap.size w w' := by
    unfold NetM.advance at hk
    by_cases h1 : (m.peers p).frame = 200
    · rw [if_pos h1] at hk
      subst hk
      exact padvance_end (pb p) p m.players m.window m.delay i Fp FS (m.peers p) v st w hP h1
    · rw [if_neg h1] at hk
      by_cases h2 : m.window ≤ (m.peers p).frame - m.conf p
      · rw [if_pos h2] at hk
        subst hk
        have h3 := hP.ok.win
        have h4 := hP.hw
        unfold NetM.conf at h2
        exact padvance_stall (pb p) p m.players m.window m.delay i Fp FS (m.peers p) v st w hP h1 (by omega)
      · rw [if_neg h2] at hk
        exact absurd hk.symm hk0
  clear hP hk hk0
  go_enter Tryz.func57, Tryz.ntmps57
  go_wp2_with fail
  refine (npeer_yes g p pv pb F m w h hp).mono ?_
  clear h
  rintro e w1 ⟨rfl, rfl⟩
  have HC := hide hcall
  clear hcall
  go_wp2_with fail
  refine (unhide HC).mono ?_
  rintro e w2 ⟨g2, rfl, hg2, c0, c1, hb2⟩
  go_wp2
  go_ret
  exact ⟨⟨g2, rfl, hg2, c0, c1⟩, hb2⟩
set_option maxHeartbeats 800000 in
theorem nmemory_any (g p : Nat) (pv : Value) (pb : Nat → Nat) (F : Nat → Prop) (m : NetM) (w : World) (h : NetQ w g pv pb F m) (hp : p < m.players) :
    Calls Tryz.prog 67 #[.pointer (some ⟨g, 0, none⟩), .int .i64 (p : Int)] w fun e w' => ∃ g2, e = .returned (.tuple #[.slice (some ⟨g2, 0, none⟩) 288 288, .nilIface]) ∧ w.heap.size ≤ g2 ∧ Blk w' g2 (nums .u8 (stF m.players (insM (m.peers p) m.players) (m.peers p).frame)) 5 ∧ Below w.heap.size w w' := by
  obtain ⟨Fp, FS, v, st, hP⟩ := h.at hp
  have HP := hide hP
  clear hP
  go_enter Tryz.func67, Tryz.ntmps67
  go_wp2_with fail
  refine (npeer_yes g p pv pb F m w h hp).mono ?_
  clear h
  rintro e w1 ⟨rfl, rfl⟩
  go_wp2_with fail
  refine (memory_any (pb p) p m.players m.window m.delay Fp FS (m.peers p) v st w1 (unhide HP)).mono ?_
  rintro e w2 ⟨g2, rfl, hg2, hB2, hb2⟩
  have H2 := hide hB2
  clear hB2
  go_wp2
  go_ret2
  exact ⟨g2, rfl, hg2, unhide H2, hb2⟩
end Go.Proofs.YtandblanpafjoaaGreatDoor

namespace Go.Proofs.YtandblanpafjoaaGreatDoor
open Go.RowKit Go.Extern.Stop Go.Stop Go.Extern
theorem top_first {m : NetM} {l : List FlyM} (hp : l.Perm m.flights) (hh : HeapO l l.length) (hn : Nums m) (hl : 0 < l.length) : m.flights.getD (firstM m.flights) fly0 = fl l 0 := by
  have hm : fl l 0 ∈ m.flights := by
    refine hp.mem_iff.1 ?_
    unfold fl
    rw [List.getD_eq_getElem?_getD, List.getElem?_eq_getElem hl]
    exact List.getElem_mem _
  refine first_is m.flights (fl l 0) hm (fun f hf => ?_)
  rcases before_total hn.row hf hm with e | e | e
  · exact .inl e
  · exact absurd e (heap_first hh f (hp.mem_iff.2 hf))
  · exact .inr e
theorem pop_erase {m : NetM} {l : List FlyM} (hp : l.Perm m.flights) (hh : HeapO l l.length) (hn : Nums m) (hl : 0 < l.length) : (popL l).Perm (m.flights.eraseIdx (firstM m.flights)) := by
  have h1 := popL_perm l hl
  have hne : m.flights ≠ [] := fun e => by rw [hp.length_eq, e] at hl; simp at hl
  have h2 := erase_perm m.flights (firstM m.flights) (firstM_lt _ hne)
  rw [top_first hp hh hn hl] at h2
  exact List.Perm.cons_inv ((h1.trans hp).trans h2.symm)
theorem NetP.popped {w w' : World} {g : Nat} {pv lv wv wv' : Value} {bl : Nat → Nat} {l : List FlyM} {pb : Nat → Nat} {Fp : Nat → Nat → Prop} {m : NetM} (h : NetP w g pv lv wv bl l pb Fp m) (hl : 0 < l.length) (hW : WireAt w' g pv m.lags m.now m.sent lv wv' bl (popL l)) (hC : Chg (fun k => k = g ∨ wv.ownBlock = some k) w w') (hloc : wv'.ownBlock = wv.ownBlock) :
    NetP w' g pv lv wv' bl (popL l) pb Fp { m with flights := m.flights.eraseIdx (firstM m.flights) } := by
  have hsub : (m.flights.eraseIdx (firstM m.flights)).Sublist m.flights := List.eraseIdx_sublist _ _
  have hwp : ∀ k, WPart g pv lv wv' k → WPart g pv lv wv k := by
    rintro k (e | e | e | e)
    · exact .inl e
    · exact .inr (.inl e)
    · exact .inr (.inr (.inl e))
    · exact .inr (.inr (.inr (by rw [← hloc]; exact e)))
  have hsm : ∀ k, k < w.heap.size → ¬ WPart g pv lv wv k → w'.heap[k]? = w.heap[k]? := fun k hk hn => hC.block k hk (fun e => hn (e.imp id (fun e => .inr (.inr e))))
  refine ⟨hW, pop_erase h.perm h.heap h.numb hl, popL_heap hl h.heap, h.numb.fewer hsub, owns_same h.row (fun k hk => hC.block k (h.row.lt k hk).2 (fun e => ?_)), h.pvn, fun k hk => ⟨(h.pvl k hk).1, fun e => (h.pvl k hk).2 (by rw [← hloc]; exact e)⟩, fun p hp => ?_, fun p k hp hk => ?_, h.papart, fun f hf => ?_, fun f hf => h.fly f (hsub.subset hf), h.lags, h.hp⟩
  · rcases e with e | e
    · exact h.pvn (by rw [hk, e])
    · exact (h.pvl k hk).2 e
  · obtain ⟨FS, v, st, hP⟩ := h.peers p hp
    exact ⟨FS, v, st, hP.same (fun k hk => hsm k (h.plt p k hp hk).1 (h.plt p k hp hk).2.1)⟩
  · have h1 := h.plt p k hp hk
    exact ⟨Nat.lt_of_lt_of_le h1.1 hC.size, fun e => h1.2.1 (hwp k e), fun ⟨f, hf, e⟩ => h1.2.2 ⟨f, hsub.subset hf, e⟩⟩
  · have h1 := h.bytes f (hsub.subset hf)
    exact ⟨(hsm _ h1.1.lt h1.2).trans h1.1, fun e => h1.2 (hwp _ e)⟩
def erased (m : NetM) : NetM := { m with flights := m.flights.eraseIdx (firstM m.flights) }
theorem comeM_stop0 {m : NetM} (h : m.flights = []) : comeM m.flights.length m = m := by rw [h]; rfl
theorem comeM_stop1 {m : NetM} (h : m.now < (m.flights.getD (firstM m.flights) fly0).due) : comeM m.flights.length m = m := by
  by_cases h0 : m.flights = []
  · exact comeM_stop0 h0
  · obtain ⟨j, hj⟩ : ∃ j, m.flights.length = j + 1 := ⟨m.flights.length - 1, by have := List.length_pos_iff.2 h0; omega⟩
    rw [hj]
    simp only [comeM, if_neg h0, if_pos h]
theorem comeM_go {m : NetM} (h0 : m.flights ≠ []) (h : ¬ m.now < (m.flights.getD (firstM m.flights) fly0).due) : comeM m.flights.length m = comeM (erased m).flights.length ((erased m).take (m.flights.getD (firstM m.flights) fly0).to (m.flights.getD (firstM m.flights) fly0).bytes).2 := by
  obtain ⟨j, hj⟩ : ∃ j, m.flights.length = j + 1 := ⟨m.flights.length - 1, by have := List.length_pos_iff.2 h0; omega⟩
  have hf := firstM_lt m.flights h0
  have hlen : (erased m).flights.length = j := by simp only [erased, List.length_eraseIdx, if_pos hf]; omega
  rw [hj, hlen]
  simp only [comeM, if_neg h0, if_neg h]
  rfl
def flA (t : FlyM) (bb : Nat) : Array Value := #[.int .i64 (t.to : Int), .int .i64 (t.due : Int), .slice (some ⟨bb, 0, none⟩) t.bytes.length t.bytes.length]
theorem ncome_any (g : Nat) (pv : Value) (pb : Nat → Nat) (F : Nat → Prop) (m : NetM) (w : World) (h : NetQ w g pv pb F m) (hs : m.sent ≤ 900000) :
    Calls Tryz.prog 59 #[.pointer (some ⟨g, 1, none⟩)] w fun e w' => Chg F w w' ∧ ∃ F', (∀ k, F' k → F k) ∧
      ((e = .returned (.tuple #[.agg Z3f, .bool false]) ∧ NetQ w' g pv pb F' m ∧ comeM m.flights.length m = m) ∨
       (∃ (t : FlyM) (bb : Nat), e = .returned (.tuple #[.agg (flA t bb), .bool true]) ∧ NetQ w' g pv pb F' (erased m) ∧ (erased m).flights.length + 1 = m.flights.length ∧ Blk w' bb (nums .u8 t.bytes) 5 ∧ (t.to < m.players ∧ t.bytes.length ≤ 70000 ∧ ∀ j : Nat, 0 ≤ t.bytes.getD j 0 ∧ t.bytes.getD j 0 ≤ 255) ∧
          comeM m.flights.length m = comeM (erased m).flights.length ((erased m).take t.to t.bytes).2)) := by
  obtain ⟨lv, wv, bl, l, Fp, hN, hF⟩ := h
  have hlen : l.length = m.flights.length := hN.perm.length_eq
  have hfew := hN.numb.few
  by_cases h0 : l = []
  · subst h0
    refine (come_nil g pv m.lags m.now m.sent lv wv bl w hN.wire).mono ?_
    rintro e w' ⟨rfl, hb⟩
    exact ⟨Chg.ofBelow hb, F, fun _ h => h, .inl ⟨rfl, ⟨lv, wv, bl, [], Fp, hN.below hb, hF⟩, comeM_stop0 (List.length_eq_zero_iff.1 (by rw [← hlen]; rfl))⟩⟩
  · obtain ⟨n, hn⟩ : ∃ n, l.length = n + 1 := ⟨l.length - 1, by have := List.length_pos_iff.2 h0; omega⟩
    have htop := top_first hN.perm hN.heap hN.numb (by omega)
    by_cases h1 : m.now < (fl l 0).due
    · refine (come_later g n pv m.lags m.now m.sent lv wv bl l w hN.wire hn h1).mono ?_
      rintro e w' ⟨rfl, hb⟩
      exact ⟨Chg.ofBelow hb, F, fun _ h => h, .inl ⟨rfl, ⟨lv, wv, bl, l, Fp, hN.below hb, hF⟩, comeM_stop1 (by rw [htop]; exact h1)⟩⟩
    · refine (come_some g n pv m.lags m.now m.sent lv wv bl l w hN.wire hn (by omega) (by omega)).mono ?_
      rintro e w' ⟨rfl, wv', hW, hC, hloc⟩
      have hne : m.flights ≠ [] := fun e => by rw [e] at hlen; simp at hlen; exact h0 hlen
      have hmem : fl l 0 ∈ m.flights := by
        refine hN.perm.mem_iff.1 ?_
        unfold fl
        rw [List.getD_eq_getElem?_getD, List.getElem?_eq_getElem (by omega)]
        exact List.getElem_mem _
      have hbt := hN.bytes _ hmem
      have hN2 := hN.popped (by omega) hW hC hloc
      refine ⟨hC.mono (fun k _ e => (hF k).2 (.inl (e.imp id (fun e => .inr (.inr e))))), _, fun k hk => ?_, .inr ⟨fl l 0, bl (fl l 0).num, rfl, ⟨lv, wv', bl, popL l, Fp, hN2, fun _ => Iff.rfl⟩, ?_, ?_, hN.fly _ hmem, ?_⟩⟩
      · refine (hF k).2 ?_
        rcases hk with (e | e | e | e) | ⟨f, hf, e⟩ | hk
        · exact .inl (.inl e)
        · exact .inl (.inr (.inl e))
        · exact .inl (.inr (.inr (.inl e)))
        · exact .inl (.inr (.inr (.inr (by rw [← hloc]; exact e))))
        · exact .inr (.inl ⟨f, (List.eraseIdx_sublist _ _).subset hf, e⟩)
        · exact .inr (.inr hk)
      · have hf := firstM_lt m.flights hne
        simp only [erased, List.length_eraseIdx, if_pos hf]; omega
      · exact (hC.block _ hbt.1.lt (fun e => hbt.2 (e.imp id (fun e => .inr (.inr e))))).trans hbt.1
      · have := comeM_go hne (by rw [htop]; exact h1)
        rw [htop] at this
        exact this
end Go.Proofs.YtandblanpafjoaaGreatDoor

