import Derived.Test.YtandblanpafjoabGreatDoorNetA
namespace Go.Proofs.YtandblanpafjoabGreatDoor
open Go.RowKit Go.Extern.Stop Go.Stop Go.Extern

/-! Nets: what they hold, and sending. -/
/-- A net, its row of peers and their blocks; F: all its blocks. -/
def NetQ (w : World) (g : Nat) (pv : Value) (pb : Nat → Nat) (F : Nat → Prop) (m : NetM) : Prop := ∃ lv wv bl l Fp, NetP w g pv lv wv bl l pb Fp m ∧ ∀ k, F k ↔ Foot g pv lv wv bl Fp m k
theorem NetQ.lt {w : World} {g : Nat} {pv : Value} {pb : Nat → Nat} {F : Nat → Prop} {m : NetM} (h : NetQ w g pv pb F m) (k : Nat) (hk : F k) : k < w.heap.size := by
  obtain ⟨lv, wv, bl, l, Fp, hN, hF⟩ := h
  exact hN.lt k ((hF k).1 hk)
theorem NetQ.same {w w' : World} {g : Nat} {pv : Value} {pb : Nat → Nat} {F : Nat → Prop} {m : NetM} (h : NetQ w g pv pb F m) (hs : Same F w w') : NetQ w' g pv pb F m := by
  obtain ⟨lv, wv, bl, l, Fp, hN, hF⟩ := h
  exact ⟨lv, wv, bl, l, Fp, hN.same (fun k hk => hs k ((hF k).2 hk)), hF⟩
theorem NetQ.below {w w' : World} {g : Nat} {pv : Value} {pb : Nat → Nat} {F : Nat → Prop} {m : NetM} (h : NetQ w g pv pb F m) (hb : Below w.heap.size w w') : NetQ w' g pv pb F m := h.same (fun k hk => hb.block k (h.lt k hk))
/-- Bytes are put on their way. -/
def NetM.put1 (m : NetM) (q : Nat) (b : List Int) : NetM := { m with flights := if 0 ≤ m.lag then m.flights ++ [{ «to» := q, due := m.now + m.lag.toNat, num := m.sent, bytes := b }] else m.flights, sent := m.sent + 1 }
theorem send_put1 (m : NetM) (p q : Nat) : m.send p q = m.put1 q (packM (m.peers p) p q) := rfl
theorem lag_is (m : NetM) : lagI m.lags m.sent = m.lag := rfl
theorem putB_old {bl : Nat → Nat} {fs : List FlyM} {n b : Nat} (h : ∀ f ∈ fs, f.num < n) {f : FlyM} (hf : f ∈ fs) : putB bl n b f.num = bl f.num := by have := h f hf; simp [putB]; omega
theorem NetP.put1 {w w1 w' : World} {g : Nat} {pv lv wv wv' : Value} {bl : Nat → Nat} {l : List FlyM} {pb : Nat → Nat} {Fp : Nat → Nat → Prop} {m : NetM} (h : NetP w g pv lv wv bl l pb Fp m) (hb : Below w.heap.size w w1) {bb q : Nat} {b : List Int} (hB : Blk w1 bb (nums .u8 b) 5) (hbb : w.heap.size ≤ bb) (hq : q < m.players) (hl : b.length ≤ 70000) (hr : ∀ j : Nat, 0 ≤ b.getD j 0 ∧ b.getD j 0 ≤ 255)
    (hW : WireAt w' g pv m.lags m.now (m.sent + 1) lv wv' (putB bl m.sent bb) (sentL l (lagI m.lags m.sent) { «to» := q, due := m.now + (lagI m.lags m.sent).toNat, num := m.sent, bytes := b })) (hC : Chg (fun k => k = g ∨ wv.ownBlock = some k) w1 w') (hloc : ∀ k, wv'.ownBlock = some k → wv.ownBlock = some k ∨ w1.heap.size ≤ k) :
    NetP w' g pv lv wv' (putB bl m.sent bb) (sentL l (lagI m.lags m.sent) { «to» := q, due := m.now + (lagI m.lags m.sent).toNat, num := m.sent, bytes := b }) pb Fp (m.put1 q b) := by
  have hz := hb.size
  have hbl1 := hB.lt
  have hsm : ∀ k, k < w.heap.size → ¬ (k = g ∨ wv.ownBlock = some k) → w'.heap[k]? = w.heap[k]? := fun k hk hn => (hC.block k (by omega) hn).trans (hb.block k hk)
  have hwp : ∀ k, WPart g pv lv wv' k → WPart g pv lv wv k ∨ w1.heap.size ≤ k := by
    rintro k (e | e | e | e)
    · exact .inl (.inl e)
    · exact .inl (.inr (.inl e))
    · exact .inl (.inr (.inr (.inl e)))
    · exact (hloc k e).imp (fun h => .inr (.inr (.inr h))) id
  have hmem : ∀ f, f ∈ (m.put1 q b).flights → f ∈ m.flights ∨ (f.num = m.sent ∧ f.bytes = b ∧ f.to = q) := by
    intro f hf
    simp only [NetM.put1] at hf
    split at hf
    · rcases List.mem_append.1 hf with hf | hf
      · exact .inl hf
      · have := List.mem_singleton.1 hf
        exact .inr (by rw [this]; exact ⟨rfl, rfl, rfl⟩)
    · exact .inl hf
  refine ⟨hW, ?_, ?_, ?_, owns_same h.row (fun k hk => hsm k (h.row.lt k hk).2 (fun e => ?_)), h.pvn, fun k hk => ⟨(h.pvl k hk).1, fun e => ?_⟩, fun p hp => ?_, fun p k hp hk => ?_, h.papart, fun f hf => ?_, fun f hf => ?_, h.lags, h.hp⟩
  · by_cases hlg : 0 ≤ lagI m.lags m.sent
    · have e1 : sentL l (lagI m.lags m.sent) { «to» := q, due := m.now + (lagI m.lags m.sent).toNat, num := m.sent, bytes := b } = pushL l { «to» := q, due := m.now + (lagI m.lags m.sent).toNat, num := m.sent, bytes := b } := if_pos hlg
      have e2 : (m.put1 q b).flights = m.flights ++ [{ «to» := q, due := m.now + (lagI m.lags m.sent).toNat, num := m.sent, bytes := b }] := if_pos hlg
      rw [e1, e2]
      exact (pushL_perm _ _).trans (h.perm.append_right _)
    · have e1 : sentL l (lagI m.lags m.sent) { «to» := q, due := m.now + (lagI m.lags m.sent).toNat, num := m.sent, bytes := b } = l := if_neg hlg
      have e2 : (m.put1 q b).flights = m.flights := if_neg hlg
      rw [e1, e2]
      exact h.perm
  · simp only [sentL]
    split
    · exact pushL_heap _ h.heap
    · exact h.heap
  · refine ⟨fun f hf => ?_, ?_⟩
    · rcases hmem f hf with hf | hf
      · have := h.numb.lt f hf
        show f.num < m.sent + 1
        omega
      · show f.num < m.sent + 1
        omega
    · simp only [NetM.put1]
      split
      · rw [List.pairwise_append]
        refine ⟨h.numb.row, List.pairwise_singleton _ _, fun a ha c hc => ?_⟩
        rw [List.mem_singleton.1 hc]
        exact h.numb.lt a ha
      · exact h.numb.row
  · rcases e with e | e
    · exact h.pvn (by rw [hk, e])
    · exact (h.pvl k hk).2 e
  · rcases hloc k e with e | e
    · exact (h.pvl k hk).2 e
    · have := (h.row.lt k hk).2; omega
  · obtain ⟨FS, v, st, hP⟩ := h.peers p hp
    refine ⟨FS, v, st, hP.same (fun k hk => hsm k (h.plt p k hp hk).1 (fun e => (h.plt p k hp hk).2.1 ?_))⟩
    rcases e with e | e
    · exact .inl e
    · exact .inr (.inr (.inr e))
  · have h1 := h.plt p k hp hk
    refine ⟨by have := hC.size; omega, fun e => ?_, fun e => ?_⟩
    · rcases hwp k e with e | e
      · exact h1.2.1 e
      · omega
    · obtain ⟨f, hf, e⟩ := e
      rcases hmem f hf with hf | hf
      · rw [putB_old h.numb.lt hf] at e
        exact h1.2.2 ⟨f, hf, e⟩
      · rw [hf.1] at e
        simp only [putB, if_true] at e
        omega
  · rcases hmem f hf with hf | hf
    · rw [putB_old h.numb.lt hf]
      have h1 := h.bytes f hf
      refine ⟨(hsm _ h1.1.lt (fun e => h1.2 ?_)).trans h1.1, fun e => ?_⟩
      · rcases e with e | e
        · exact .inl e
        · exact .inr (.inr (.inr e))
      · rcases hwp _ e with e | e
        · exact h1.2 e
        · have := h1.1.lt; omega
    · rw [hf.1, hf.2.1]
      simp only [putB, if_true]
      refine ⟨(hC.block bb hbl1 (fun e => ?_)).trans hB, fun e => ?_⟩
      · have := h.lt bb (.inl (e.imp id (fun e => .inr (.inr e)))); omega
      · rcases hwp _ e with e | e
        · have := h.lt bb (.inl e); omega
        · omega
  · rcases hmem f hf with hf | hf
    · exact h.fly f hf
    · rw [hf.2.1, hf.2.2]; exact ⟨hq, hl, hr⟩
set_option maxHeartbeats 800000 in
theorem nsend_any (g : Nat) (pv : Value) (pb : Nat → Nat) (F : Nat → Prop) (m : NetM) (w w1 : World) (h : NetQ w g pv pb F m) (hb : Below w.heap.size w w1) (bb q : Nat) (b : List Int) (hB : Blk w1 bb (nums .u8 b) 5) (hbb : w.heap.size ≤ bb) (hq : q < m.players) (hl : b.length ≤ 70000) (hr : ∀ j : Nat, 0 ≤ b.getD j 0 ∧ b.getD j 0 ≤ 255) (hs : m.sent ≤ 900000) (hn : m.now ≤ 900000) :
    Calls Tryz.prog 33 #[.pointer (some ⟨g, 1, none⟩), .int .i64 (q : Int), .slice (some ⟨bb, 0, none⟩) b.length b.length] w1 fun e w' => e = .returned (.tuple #[]) ∧ Chg F w w' ∧ ∃ F', NetQ w' g pv pb F' (m.put1 q b) ∧ ∀ k, F' k → F k ∨ w.heap.size ≤ k := by
  obtain ⟨lv, wv, bl, l, Fp, hN, hF⟩ := h
  have hN1 := hN.below hb
  have hlen : l.length ≤ m.sent := by rw [hN.perm.length_eq]; exact hN.numb.few
  refine (send_any g pv m.lags m.now m.sent lv wv bl l w1 hN1.wire hs hn (by omega) hN.lagRng q bb b (fun f hf => hN.numb.lt f (hN.perm.mem_iff.1 hf))).mono ?_
  rintro e w' ⟨rfl, wv', hW, hC, hloc⟩
  have hN2 := hN.put1 hb hB hbb hq hl hr hW hC hloc
  refine ⟨rfl, (Chg.ofBelow (F := F) hb).trans hC (fun k _ e => (hF k).2 (.inl (e.imp id (fun e => .inr (.inr e))))), _, ⟨lv, wv', _, _, Fp, hN2, fun k => Iff.rfl⟩, fun k hk => ?_⟩
  have hz := hb.size
  rcases hk with hk | ⟨f, hf, e⟩ | hk
  · rcases hk with e | e | e | e
    · exact .inl ((hF k).2 (.inl (.inl e)))
    · exact .inl ((hF k).2 (.inl (.inr (.inl e))))
    · exact .inl ((hF k).2 (.inl (.inr (.inr (.inl e)))))
    · rcases hloc k e with e | e
      · exact .inl ((hF k).2 (.inl (.inr (.inr (.inr e)))))
      · right; omega
  · by_cases hfm : f ∈ m.flights
    · rw [putB_old hN.numb.lt hfm] at e
      exact .inl ((hF k).2 (.inr (.inl ⟨f, hfm, e⟩)))
    · right
      have : f.num = m.sent := by
        simp only [NetM.put1] at hf
        split at hf
        · rcases List.mem_append.1 hf with hf | hf
          · exact absurd hf hfm
          · rw [List.mem_singleton.1 hf]
        · exact absurd hf hfm
      rw [this] at e
      simp only [putB, if_true] at e
      omega
  · exact .inl ((hF k).2 (.inr (.inr hk)))
end Go.Proofs.YtandblanpafjoabGreatDoor
