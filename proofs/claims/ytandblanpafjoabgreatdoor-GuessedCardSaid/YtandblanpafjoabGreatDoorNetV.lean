import Derived.Test.YtandblanpafjoabGreatDoorNetU
namespace Go.Proofs.YtandblanpafjoabGreatDoor
open Go.RowKit Go.Extern.Stop Go.Stop Go.Extern

/-! What is due comes. -/
theorem top_first {m : NetM} {l : List FlyM} (hp : l.Perm m.flights) (hh : HeapO l l.length) (hn : Nums m) (hl : 0 < l.length) : m.flights.getD (firstM m.flights) fly0 = fl l 0 := by
  have hm : fl l 0 ∈ m.flights := by
    refine hp.mem_iff.1 ?_
    unfold fl
    rw [List.getD_eq_getElem?_getD, List.getElem?_eq_getElem hl]
    exact List.getElem_mem _
  refine first_is m.flights (fl l 0) hm (fun f hf => ?_)
  rcases before_total hn.row hf hm with e | e | e
  · exact .inl e
  · exact absurd e (heap_first hh f (hp.mem_iff.2 hf))
  · exact .inr e
theorem pop_erase {m : NetM} {l : List FlyM} (hp : l.Perm m.flights) (hh : HeapO l l.length) (hn : Nums m) (hl : 0 < l.length) : (popL l).Perm (m.flights.eraseIdx (firstM m.flights)) := by
  have h1 := popL_perm l hl
  have hne : m.flights ≠ [] := fun e => by rw [hp.length_eq, e] at hl; simp at hl
  have h2 := erase_perm m.flights (firstM m.flights) (firstM_lt _ hne)
  rw [top_first hp hh hn hl] at h2
  exact List.Perm.cons_inv ((h1.trans hp).trans h2.symm)
theorem NetP.popped {w w' : World} {g : Nat} {pv lv wv wv' : Value} {bl : Nat → Nat} {l : List FlyM} {pb : Nat → Nat} {Fp : Nat → Nat → Prop} {m : NetM} (h : NetP w g pv lv wv bl l pb Fp m) (hl : 0 < l.length) (hW : WireAt w' g pv m.lags m.now m.sent lv wv' bl (popL l)) (hC : Chg (fun k => k = g ∨ wv.ownBlock = some k) w w') (hloc : wv'.ownBlock = wv.ownBlock) :
    NetP w' g pv lv wv' bl (popL l) pb Fp { m with flights := m.flights.eraseIdx (firstM m.flights) } := by
  have hsub : (m.flights.eraseIdx (firstM m.flights)).Sublist m.flights := List.eraseIdx_sublist _ _
  have hwp : ∀ k, WPart g pv lv wv' k → WPart g pv lv wv k := by
    rintro k (e | e | e | e)
    · exact .inl e
    · exact .inr (.inl e)
    · exact .inr (.inr (.inl e))
    · exact .inr (.inr (.inr (by rw [← hloc]; exact e)))
  have hsm : ∀ k, k < w.heap.size → ¬ WPart g pv lv wv k → w'.heap[k]? = w.heap[k]? := fun k hk hn => hC.block k hk (fun e => hn (e.imp id (fun e => .inr (.inr e))))
  refine ⟨hW, pop_erase h.perm h.heap h.numb hl, popL_heap hl h.heap, h.numb.fewer hsub, owns_same h.row (fun k hk => hC.block k (h.row.lt k hk).2 (fun e => ?_)), h.pvn, fun k hk => ⟨(h.pvl k hk).1, fun e => (h.pvl k hk).2 (by rw [← hloc]; exact e)⟩, fun p hp => ?_, fun p k hp hk => ?_, h.papart, fun f hf => ?_, fun f hf => h.fly f (hsub.subset hf), h.lags, h.hp⟩
  · rcases e with e | e
    · exact h.pvn (by rw [hk, e])
    · exact (h.pvl k hk).2 e
  · obtain ⟨FS, v, st, hP⟩ := h.peers p hp
    exact ⟨FS, v, st, hP.same (fun k hk => hsm k (h.plt p k hp hk).1 (h.plt p k hp hk).2.1)⟩
  · have h1 := h.plt p k hp hk
    exact ⟨Nat.lt_of_lt_of_le h1.1 hC.size, fun e => h1.2.1 (hwp k e), fun ⟨f, hf, e⟩ => h1.2.2 ⟨f, hsub.subset hf, e⟩⟩
  · have h1 := h.bytes f (hsub.subset hf)
    exact ⟨(hsm _ h1.1.lt h1.2).trans h1.1, fun e => h1.2 (hwp _ e)⟩
theorem comeM_fuel : ∀ (k : Nat) (n : NetM), n.flights.length ≤ k → comeM k n = comeM n.flights.length n := by
  intro k
  induction k with
  | zero => intro n h; rw [Nat.le_zero.1 h]
  | succ k ih =>
    intro n h
    by_cases h0 : n.flights = []
    · rw [h0]; simp [comeM, h0]
    · obtain ⟨j, hj⟩ : ∃ j, n.flights.length = j + 1 := ⟨n.flights.length - 1, by have := List.length_pos_iff.2 h0; omega⟩
      rw [hj]
      simp only [comeM, if_neg h0]
      by_cases h1 : n.now < (n.flights.getD (firstM n.flights) fly0).due
      · rw [if_pos h1, if_pos h1]
      · rw [if_neg h1, if_neg h1]
        have hf := firstM_lt n.flights h0
        have hlen : (({ n with flights := n.flights.eraseIdx (firstM n.flights) } : NetM).take (n.flights.getD (firstM n.flights) fly0).to (n.flights.getD (firstM n.flights) fly0).bytes).2.flights.length = j := by
          rw [take_flights]
          simp only [List.length_eraseIdx, if_pos hf]
          omega
        rw [ih _ (by omega), ← hlen]
def erased (m : NetM) : NetM := { m with flights := m.flights.eraseIdx (firstM m.flights) }
theorem comeM_stop0 {m : NetM} (h : m.flights = []) : comeM m.flights.length m = m := by rw [h]; rfl
theorem comeM_stop1 {m : NetM} (h : m.now < (m.flights.getD (firstM m.flights) fly0).due) : comeM m.flights.length m = m := by
  by_cases h0 : m.flights = []
  · exact comeM_stop0 h0
  · obtain ⟨j, hj⟩ : ∃ j, m.flights.length = j + 1 := ⟨m.flights.length - 1, by have := List.length_pos_iff.2 h0; omega⟩
    rw [hj]
    simp only [comeM, if_neg h0, if_pos h]
theorem comeM_go {m : NetM} (h0 : m.flights ≠ []) (h : ¬ m.now < (m.flights.getD (firstM m.flights) fly0).due) : comeM m.flights.length m = comeM (erased m).flights.length ((erased m).take (m.flights.getD (firstM m.flights) fly0).to (m.flights.getD (firstM m.flights) fly0).bytes).2 := by
  obtain ⟨j, hj⟩ : ∃ j, m.flights.length = j + 1 := ⟨m.flights.length - 1, by have := List.length_pos_iff.2 h0; omega⟩
  have hf := firstM_lt m.flights h0
  have hlen : (erased m).flights.length = j := by simp only [erased, List.length_eraseIdx, if_pos hf]; omega
  rw [hj, hlen]
  simp only [comeM, if_neg h0, if_neg h]
  rfl
def flA (t : FlyM) (bb : Nat) : Array Value := #[.int .i64 (t.to : Int), .int .i64 (t.due : Int), .slice (some ⟨bb, 0, none⟩) t.bytes.length t.bytes.length]
theorem ncome_any (g : Nat) (pv : Value) (pb : Nat → Nat) (F : Nat → Prop) (m : NetM) (w : World) (h : NetQ w g pv pb F m) (hs : m.sent ≤ 900000) :
    Calls Tryz.prog 51 #[.pointer (some ⟨g, 1, none⟩)] w fun e w' => Chg F w w' ∧ ∃ F', (∀ k, F' k → F k) ∧
      ((e = .returned (.tuple #[.agg Z3f, .bool false]) ∧ NetQ w' g pv pb F' m ∧ comeM m.flights.length m = m) ∨
       (∃ (t : FlyM) (bb : Nat), e = .returned (.tuple #[.agg (flA t bb), .bool true]) ∧ NetQ w' g pv pb F' (erased m) ∧ (erased m).flights.length + 1 = m.flights.length ∧ Blk w' bb (nums .u8 t.bytes) 5 ∧ (t.to < m.players ∧ t.bytes.length ≤ 70000 ∧ ∀ j : Nat, 0 ≤ t.bytes.getD j 0 ∧ t.bytes.getD j 0 ≤ 255) ∧
          comeM m.flights.length m = comeM (erased m).flights.length ((erased m).take t.to t.bytes).2)) := by
  obtain ⟨lv, wv, bl, l, Fp, hN, hF⟩ := h
  have hlen : l.length = m.flights.length := hN.perm.length_eq
  have hfew := hN.numb.few
  by_cases h0 : l = []
  · subst h0
    refine (come_nil g pv m.lags m.now m.sent lv wv bl w hN.wire).mono ?_
    rintro e w' ⟨rfl, hb⟩
    exact ⟨Chg.ofBelow hb, F, fun _ h => h, .inl ⟨rfl, ⟨lv, wv, bl, [], Fp, hN.below hb, hF⟩, comeM_stop0 (List.length_eq_zero_iff.1 (by rw [← hlen]; rfl))⟩⟩
  · obtain ⟨n, hn⟩ : ∃ n, l.length = n + 1 := ⟨l.length - 1, by have := List.length_pos_iff.2 h0; omega⟩
    have htop := top_first hN.perm hN.heap hN.numb (by omega)
    by_cases h1 : m.now < (fl l 0).due
    · refine (come_later g n pv m.lags m.now m.sent lv wv bl l w hN.wire hn h1).mono ?_
      rintro e w' ⟨rfl, hb⟩
      exact ⟨Chg.ofBelow hb, F, fun _ h => h, .inl ⟨rfl, ⟨lv, wv, bl, l, Fp, hN.below hb, hF⟩, comeM_stop1 (by rw [htop]; exact h1)⟩⟩
    · refine (come_some g n pv m.lags m.now m.sent lv wv bl l w hN.wire hn (by omega) (by omega)).mono ?_
      rintro e w' ⟨rfl, wv', hW, hC, hloc⟩
      have hne : m.flights ≠ [] := fun e => by rw [e] at hlen; simp at hlen; exact h0 hlen
      have hmem : fl l 0 ∈ m.flights := by
        refine hN.perm.mem_iff.1 ?_
        unfold fl
        rw [List.getD_eq_getElem?_getD, List.getElem?_eq_getElem (by omega)]
        exact List.getElem_mem _
      have hbt := hN.bytes _ hmem
      have hN2 := hN.popped (by omega) hW hC hloc
      refine ⟨hC.mono (fun k _ e => (hF k).2 (.inl (e.imp id (fun e => .inr (.inr e))))), _, fun k hk => ?_, .inr ⟨fl l 0, bl (fl l 0).num, rfl, ⟨lv, wv', bl, popL l, Fp, hN2, fun _ => Iff.rfl⟩, ?_, ?_, hN.fly _ hmem, ?_⟩⟩
      · refine (hF k).2 ?_
        rcases hk with (e | e | e | e) | ⟨f, hf, e⟩ | hk
        · exact .inl (.inl e)
        · exact .inl (.inr (.inl e))
        · exact .inl (.inr (.inr (.inl e)))
        · exact .inl (.inr (.inr (.inr (by rw [← hloc]; exact e))))
        · exact .inr (.inl ⟨f, (List.eraseIdx_sublist _ _).subset hf, e⟩)
        · exact .inr (.inr hk)
      · have hf := firstM_lt m.flights hne
        simp only [erased, List.length_eraseIdx, if_pos hf]; omega
      · exact (hC.block _ hbt.1.lt (fun e => hbt.2 (e.imp id (fun e => .inr (.inr e))))).trans hbt.1
      · have := comeM_go hne (by rw [htop]; exact h1)
        rw [htop] at this
        exact this
end Go.Proofs.YtandblanpafjoabGreatDoor
