import Derived.Test.YtandblanpafjoabGreatDoorPack32
import Derived.Test.YtandblanpafjoabGreatDoorPack27
import Derived.Deep.LoopGhost
namespace Go.Proofs.YtandblanpafjoabGreatDoor
open Go.RowKit Go.Extern.Stop Go.Stop Go.Extern

/-! A peer that cannot go on; what it sees. -/
theorem NetQ.at {w : World} {g p : Nat} {pv : Value} {pb : Nat → Nat} {F : Nat → Prop} {m : NetM} (h : NetQ w g pv pb F m) (hp : p < m.players) : ∃ Fp FS v st, PeerAt w (pb p) Fp FS p m.players m.window m.delay (m.peers p) v st := by
  obtain ⟨lv, wv, bl, l, Fp, hN, hF⟩ := h
  obtain ⟨FS, v, st, hP⟩ := hN.peers p hp
  exact ⟨Fp p, FS, v, st, hP⟩
set_option maxHeartbeats 800000 in
theorem nadvance_no (g p : Nat) (i : Int) (k : Nat) (pv : Value) (pb : Nat → Nat) (F : Nat → Prop) (m : NetM) (w : World) (h : NetQ w g pv pb F m) (hp : p < m.players) (hk : (m.advance p i).1 = k) (hk0 : k ≠ 0) :
    Calls Tryz.prog 36 #[.pointer (some ⟨g, 0, none⟩), .int .i64 (p : Int), .int .u8 i] w fun e w' => FaultAt w' e w.heap.size p (k : Int) ∧ Below w.heap.size w w' := by
  have HN := hide h
  obtain ⟨Fp, FS, v, st, hP⟩ := h.at hp
  have hcall : Calls Tryz.prog 60 #[.pointer (some ⟨pb p, 0, none⟩), .int .u8 i] w fun e w' => ∃ g, e = .returned (.iface 96 (.pointer (some ⟨g, 0, none⟩))) ∧ w.heap.size ≤ g ∧ w'.cell? ⟨g, 0, none⟩ = some (.int .i64 (p : Int)) ∧ w'.cell? ⟨g, 1, none⟩ = some (.int .i64 (k : Int)) ∧ Below w.heap.size w w' := by
    unfold NetM.advance at hk
    by_cases h1 : (m.peers p).frame = 200
    · rw [if_pos h1] at hk
      subst hk
      exact padvance_end (pb p) p m.players m.window m.delay i Fp FS (m.peers p) v st w hP h1
    · rw [if_neg h1] at hk
      by_cases h2 : m.window ≤ (m.peers p).frame - m.conf p
      · rw [if_pos h2] at hk
        subst hk
        have h3 := hP.ok.win
        have h4 := hP.hw
        unfold NetM.conf at h2
        exact padvance_stall (pb p) p m.players m.window m.delay i Fp FS (m.peers p) v st w hP h1 (by omega)
      · rw [if_neg h2] at hk
        exact absurd hk.symm hk0
  clear hP hk hk0
  go_enter Tryz.func36, Tryz.ntmps36
  go_wp2_with fail
  refine (npeer_yes g p pv pb F m w h hp).mono ?_
  clear h
  rintro e w1 ⟨rfl, rfl⟩
  have HC := hide hcall
  clear hcall
  go_wp2_with fail
  refine (unhide HC).mono ?_
  rintro e w2 ⟨g2, rfl, hg2, c0, c1, hb2⟩
  go_wp2
  go_ret
  exact ⟨⟨g2, rfl, hg2, c0, c1⟩, hb2⟩
set_option maxHeartbeats 800000 in
theorem nmemory_any (g p : Nat) (pv : Value) (pb : Nat → Nat) (F : Nat → Prop) (m : NetM) (w : World) (h : NetQ w g pv pb F m) (hp : p < m.players) :
    Calls Tryz.prog 39 #[.pointer (some ⟨g, 0, none⟩), .int .i64 (p : Int)] w fun e w' => ∃ g2, e = .returned (.tuple #[.slice (some ⟨g2, 0, none⟩) 288 288, .nilIface]) ∧ w.heap.size ≤ g2 ∧ Blk w' g2 (nums .u8 (stF m.players (insM (m.peers p) m.players) (m.peers p).frame)) 5 ∧ Below w.heap.size w w' := by
  obtain ⟨Fp, FS, v, st, hP⟩ := h.at hp
  have HP := hide hP
  clear hP
  go_enter Tryz.func39, Tryz.ntmps39
  go_wp2_with fail
  refine (npeer_yes g p pv pb F m w h hp).mono ?_
  clear h
  rintro e w1 ⟨rfl, rfl⟩
  go_wp2_with fail
  refine (memory_any (pb p) p m.players m.window m.delay Fp FS (m.peers p) v st w1 (unhide HP)).mono ?_
  rintro e w2 ⟨g2, rfl, hg2, hB2, hb2⟩
  have H2 := hide hB2
  clear hB2
  go_wp2
  go_ret2
  exact ⟨g2, rfl, hg2, unhide H2, hb2⟩
end Go.Proofs.YtandblanpafjoabGreatDoor

namespace Go.Proofs.YtandblanpafjoabGreatDoor
open Go.RowKit Go.Extern.Stop Go.Stop Go.Extern

/-! What is due comes. -/
theorem top_first {m : NetM} {l : List FlyM} (hp : l.Perm m.flights) (hh : HeapO l l.length) (hn : Nums m) (hl : 0 < l.length) : m.flights.getD (firstM m.flights) fly0 = fl l 0 := by
  have hm : fl l 0 ∈ m.flights := by
    refine hp.mem_iff.1 ?_
    unfold fl
    rw [List.getD_eq_getElem?_getD, List.getElem?_eq_getElem hl]
    exact List.getElem_mem _
  refine first_is m.flights (fl l 0) hm (fun f hf => ?_)
  rcases before_total hn.row hf hm with e | e | e
  · exact .inl e
  · exact absurd e (heap_first hh f (hp.mem_iff.2 hf))
  · exact .inr e
theorem pop_erase {m : NetM} {l : List FlyM} (hp : l.Perm m.flights) (hh : HeapO l l.length) (hn : Nums m) (hl : 0 < l.length) : (popL l).Perm (m.flights.eraseIdx (firstM m.flights)) := by
  have h1 := popL_perm l hl
  have hne : m.flights ≠ [] := fun e => by rw [hp.length_eq, e] at hl; simp at hl
  have h2 := erase_perm m.flights (firstM m.flights) (firstM_lt _ hne)
  rw [top_first hp hh hn hl] at h2
  exact List.Perm.cons_inv ((h1.trans hp).trans h2.symm)
theorem NetP.popped {w w' : World} {g : Nat} {pv lv wv wv' : Value} {bl : Nat → Nat} {l : List FlyM} {pb : Nat → Nat} {Fp : Nat → Nat → Prop} {m : NetM} (h : NetP w g pv lv wv bl l pb Fp m) (hl : 0 < l.length) (hW : WireAt w' g pv m.lags m.now m.sent lv wv' bl (popL l)) (hC : Chg (fun k => k = g ∨ wv.ownBlock = some k) w w') (hloc : wv'.ownBlock = wv.ownBlock) :
    NetP w' g pv lv wv' bl (popL l) pb Fp { m with flights := m.flights.eraseIdx (firstM m.flights) } := by
  have hsub : (m.flights.eraseIdx (firstM m.flights)).Sublist m.flights := List.eraseIdx_sublist _ _
  have hwp : ∀ k, WPart g pv lv wv' k → WPart g pv lv wv k := by
    rintro k (e | e | e | e)
    · exact .inl e
    · exact .inr (.inl e)
    · exact .inr (.inr (.inl e))
    · exact .inr (.inr (.inr (by rw [← hloc]; exact e)))
  have hsm : ∀ k, k < w.heap.size → ¬ WPart g pv lv wv k → w'.heap[k]? = w.heap[k]? := fun k hk hn => hC.block k hk (fun e => hn (e.imp id (fun e => .inr (.inr e))))
  refine ⟨hW, pop_erase h.perm h.heap h.numb hl, popL_heap hl h.heap, h.numb.fewer hsub, owns_same h.row (fun k hk => hC.block k (h.row.lt k hk).2 (fun e => ?_)), h.pvn, fun k hk => ⟨(h.pvl k hk).1, fun e => (h.pvl k hk).2 (by rw [← hloc]; exact e)⟩, fun p hp => ?_, fun p k hp hk => ?_, h.papart, fun f hf => ?_, fun f hf => h.fly f (hsub.subset hf), h.lags, h.hp⟩
  · rcases e with e | e
    · exact h.pvn (by rw [hk, e])
    · exact (h.pvl k hk).2 e
  · obtain ⟨FS, v, st, hP⟩ := h.peers p hp
    exact ⟨FS, v, st, hP.same (fun k hk => hsm k (h.plt p k hp hk).1 (h.plt p k hp hk).2.1)⟩
  · have h1 := h.plt p k hp hk
    exact ⟨Nat.lt_of_lt_of_le h1.1 hC.size, fun e => h1.2.1 (hwp k e), fun ⟨f, hf, e⟩ => h1.2.2 ⟨f, hsub.subset hf, e⟩⟩
  · have h1 := h.bytes f (hsub.subset hf)
    exact ⟨(hsm _ h1.1.lt h1.2).trans h1.1, fun e => h1.2 (hwp _ e)⟩
theorem comeM_fuel : ∀ (k : Nat) (n : NetM), n.flights.length ≤ k → comeM k n = comeM n.flights.length n := by
  intro k
  induction k with
  | zero => intro n h; rw [Nat.le_zero.1 h]
  | succ k ih =>
    intro n h
    by_cases h0 : n.flights = []
    · rw [h0]; simp [comeM, h0]
    · obtain ⟨j, hj⟩ : ∃ j, n.flights.length = j + 1 := ⟨n.flights.length - 1, by have := List.length_pos_iff.2 h0; omega⟩
      rw [hj]
      simp only [comeM, if_neg h0]
      by_cases h1 : n.now < (n.flights.getD (firstM n.flights) fly0).due
      · rw [if_pos h1, if_pos h1]
      · rw [if_neg h1, if_neg h1]
        have hf := firstM_lt n.flights h0
        have hlen : (({ n with flights := n.flights.eraseIdx (firstM n.flights) } : NetM).take (n.flights.getD (firstM n.flights) fly0).to (n.flights.getD (firstM n.flights) fly0).bytes).2.flights.length = j := by
          rw [take_flights]
          simp only [List.length_eraseIdx, if_pos hf]
          omega
        rw [ih _ (by omega), ← hlen]
def erased (m : NetM) : NetM := { m with flights := m.flights.eraseIdx (firstM m.flights) }
theorem comeM_stop0 {m : NetM} (h : m.flights = []) : comeM m.flights.length m = m := by rw [h]; rfl
theorem comeM_stop1 {m : NetM} (h : m.now < (m.flights.getD (firstM m.flights) fly0).due) : comeM m.flights.length m = m := by
  by_cases h0 : m.flights = []
  · exact comeM_stop0 h0
  · obtain ⟨j, hj⟩ : ∃ j, m.flights.length = j + 1 := ⟨m.flights.length - 1, by have := List.length_pos_iff.2 h0; omega⟩
    rw [hj]
    simp only [comeM, if_neg h0, if_pos h]
theorem comeM_go {m : NetM} (h0 : m.flights ≠ []) (h : ¬ m.now < (m.flights.getD (firstM m.flights) fly0).due) : comeM m.flights.length m = comeM (erased m).flights.length ((erased m).take (m.flights.getD (firstM m.flights) fly0).to (m.flights.getD (firstM m.flights) fly0).bytes).2 := by
  obtain ⟨j, hj⟩ : ∃ j, m.flights.length = j + 1 := ⟨m.flights.length - 1, by have := List.length_pos_iff.2 h0; omega⟩
  have hf := firstM_lt m.flights h0
  have hlen : (erased m).flights.length = j := by simp only [erased, List.length_eraseIdx, if_pos hf]; omega
  rw [hj, hlen]
  simp only [comeM, if_neg h0, if_neg h]
  rfl
def flA (t : FlyM) (bb : Nat) : Array Value := #[.int .i64 (t.to : Int), .int .i64 (t.due : Int), .slice (some ⟨bb, 0, none⟩) t.bytes.length t.bytes.length]
theorem ncome_any (g : Nat) (pv : Value) (pb : Nat → Nat) (F : Nat → Prop) (m : NetM) (w : World) (h : NetQ w g pv pb F m) (hs : m.sent ≤ 900000) :
    Calls Tryz.prog 51 #[.pointer (some ⟨g, 1, none⟩)] w fun e w' => Chg F w w' ∧ ∃ F', (∀ k, F' k → F k) ∧
      ((e = .returned (.tuple #[.agg Z3f, .bool false]) ∧ NetQ w' g pv pb F' m ∧ comeM m.flights.length m = m) ∨
       (∃ (t : FlyM) (bb : Nat), e = .returned (.tuple #[.agg (flA t bb), .bool true]) ∧ NetQ w' g pv pb F' (erased m) ∧ (erased m).flights.length + 1 = m.flights.length ∧ Blk w' bb (nums .u8 t.bytes) 5 ∧ (t.to < m.players ∧ t.bytes.length ≤ 70000 ∧ ∀ j : Nat, 0 ≤ t.bytes.getD j 0 ∧ t.bytes.getD j 0 ≤ 255) ∧
          comeM m.flights.length m = comeM (erased m).flights.length ((erased m).take t.to t.bytes).2)) := by
  obtain ⟨lv, wv, bl, l, Fp, hN, hF⟩ := h
  have hlen : l.length = m.flights.length := hN.perm.length_eq
  have hfew := hN.numb.few
  by_cases h0 : l = []
  · subst h0
    refine (come_nil g pv m.lags m.now m.sent lv wv bl w hN.wire).mono ?_
    rintro e w' ⟨rfl, hb⟩
    exact ⟨Chg.ofBelow hb, F, fun _ h => h, .inl ⟨rfl, ⟨lv, wv, bl, [], Fp, hN.below hb, hF⟩, comeM_stop0 (List.length_eq_zero_iff.1 (by rw [← hlen]; rfl))⟩⟩
  · obtain ⟨n, hn⟩ : ∃ n, l.length = n + 1 := ⟨l.length - 1, by have := List.length_pos_iff.2 h0; omega⟩
    have htop := top_first hN.perm hN.heap hN.numb (by omega)
    by_cases h1 : m.now < (fl l 0).due
    · refine (come_later g n pv m.lags m.now m.sent lv wv bl l w hN.wire hn h1).mono ?_
      rintro e w' ⟨rfl, hb⟩
      exact ⟨Chg.ofBelow hb, F, fun _ h => h, .inl ⟨rfl, ⟨lv, wv, bl, l, Fp, hN.below hb, hF⟩, comeM_stop1 (by rw [htop]; exact h1)⟩⟩
    · refine (come_some g n pv m.lags m.now m.sent lv wv bl l w hN.wire hn (by omega) (by omega)).mono ?_
      rintro e w' ⟨rfl, wv', hW, hC, hloc⟩
      have hne : m.flights ≠ [] := fun e => by rw [e] at hlen; simp at hlen; exact h0 hlen
      have hmem : fl l 0 ∈ m.flights := by
        refine hN.perm.mem_iff.1 ?_
        unfold fl
        rw [List.getD_eq_getElem?_getD, List.getElem?_eq_getElem (by omega)]
        exact List.getElem_mem _
      have hbt := hN.bytes _ hmem
      have hN2 := hN.popped (by omega) hW hC hloc
      refine ⟨hC.mono (fun k _ e => (hF k).2 (.inl (e.imp id (fun e => .inr (.inr e))))), _, fun k hk => ?_, .inr ⟨fl l 0, bl (fl l 0).num, rfl, ⟨lv, wv', bl, popL l, Fp, hN2, fun _ => Iff.rfl⟩, ?_, ?_, hN.fly _ hmem, ?_⟩⟩
      · refine (hF k).2 ?_
        rcases hk with (e | e | e | e) | ⟨f, hf, e⟩ | hk
        · exact .inl (.inl e)
        · exact .inl (.inr (.inl e))
        · exact .inl (.inr (.inr (.inl e)))
        · exact .inl (.inr (.inr (.inr (by rw [← hloc]; exact e))))
        · exact .inr (.inl ⟨f, (List.eraseIdx_sublist _ _).subset hf, e⟩)
        · exact .inr (.inr hk)
      · have hf := firstM_lt m.flights hne
        simp only [erased, List.length_eraseIdx, if_pos hf]; omega
      · exact (hC.block _ hbt.1.lt (fun e => hbt.2 (e.imp id (fun e => .inr (.inr e))))).trans hbt.1
      · have := comeM_go hne (by rw [htop]; exact h1)
        rw [htop] at this
        exact this
end Go.Proofs.YtandblanpafjoabGreatDoor

namespace Go.Proofs.YtandblanpafjoabGreatDoor
open Go.RowKit Go.Extern.Stop Go.Stop Go.Extern

/-! Handing out what is due. -/
/-- Between two packets: k rounds at most are to come; B, F: the world's size and the net's blocks at the beginning. -/
def ArrR (w : World) (g : Nat) (pv : Value) (pb : Nat → Nat) (F : Nat → Prop) (m : NetM) (k : Nat) (s2 s3 : Value) (wr : World) : Prop :=
  ∃ (m1 : NetM) (F1 : Nat → Prop) (fb : Nat), s2 = .pointer (some ⟨fb, 0, none⟩) ∧ NetQ wr g pv pb F1 m1 ∧ (∀ j, F1 j → F j ∨ w.heap.size ≤ j) ∧ w.heap.size ≤ fb ∧ ¬ F1 fb ∧ Chg F w wr ∧ m1.players = m.players ∧ m1.sent = m.sent ∧
    ((s3 = .bool false ∧ Blk wr fb Z3f 66 ∧ comeM m.flights.length m = m1) ∨
     (s3 = .bool true ∧ m1.flights.length + 1 ≤ k ∧ ∃ (t : FlyM) (bb : Nat), Blk wr fb (flA t bb) 66 ∧ Blk wr bb (nums .u8 t.bytes) 5 ∧ (t.to < m.players ∧ t.bytes.length ≤ 70000 ∧ ∀ j : Nat, 0 ≤ t.bytes.getD j 0 ∧ t.bytes.getD j 0 ≤ 255) ∧
       (∀ p, p < m.players → (m1.peers p).dropped + m1.flights.length + 1 ≤ 1000000000) ∧ comeM m.flights.length m = comeM m1.flights.length (m1.take t.to t.bytes).2))
theorem take_net (n : NetM) (p : Nat) (b : List Int) : (n.take p b).2.players = n.players ∧ (n.take p b).2.sent = n.sent ∧ (n.take p b).2.flights = n.flights ∧ ∀ q, ((n.take p b).2.peers q).dropped ≤ (n.peers q).dropped + 1 := by
  unfold NetM.take
  split
  · refine ⟨rfl, rfl, rfl, fun q => ?_⟩
    simp only [NetM.put]
    split
    · rename_i e; subst e; simp [taken, PeerM.learn]
    · omega
  · refine ⟨rfl, rfl, rfl, fun q => ?_⟩
    simp only [NetM.put]
    split
    · rename_i e; subst e; exact Nat.le_refl _
    · omega
/-- A peer takes a packet, or refuses it. -/
theorem ntake_any (g : Nat) (pv : Value) (pb : Nat → Nat) (F : Nat → Prop) (m : NetM) (w : World) (h : NetQ w g pv pb F m) (p bb o L c : Nat) (l : List Int) (hp : p < m.players) (hl : l.length = L) (hn : L ≤ 70000) (hcap : L ≤ c) (hr : ∀ j : Nat, 0 ≤ l.getD j 0 ∧ l.getD j 0 ≤ 255) (hcells : ∀ j, j < L → w.cell? ⟨bb, o + j, none⟩ = some (.int .u8 (l.getD j 0))) (hbb : bb < w.heap.size) (hdrop : (m.peers p).dropped + 1 ≤ 1000000000) :
    Calls Tryz.prog 52 #[.pointer (some ⟨pb p, 0, none⟩), .slice (some ⟨bb, o, none⟩) L c] w fun e w' => Chg F w w' ∧ ∃ F', NetQ w' g pv pb F' (m.take p l).2 ∧ (∀ k, F' k → F k ∨ w.heap.size ≤ k) ∧ (((m.take p l).1 = true ∧ e = .returned .nilIface) ∨ ((m.take p l).1 = false ∧ FaultAt w' e w.heap.size p 5)) := by
  obtain ⟨lv, wv, bl, fl, Fp, hN, hF⟩ := h
  obtain ⟨FS, v, st, hP⟩ := hN.peers p hp
  refine (take_any (pb p) p m.players m.window m.delay bb o L c l (Fp p) FS (m.peers p) v st w hP (fun k hk => (hN.plt p k hp hk).1) hl hn hcap hr hcells hbb hdrop).mono ?_
  rintro e w' ⟨hC, F', FS', v', hF', _, hcase⟩
  have htk : takesP (m.peers p) p m.players m.delay l ↔ m.takes p l := Iff.rfl
  rcases hcase with ⟨ht, rfl, hP'⟩ | ⟨ht, hfa, hP'⟩
  · obtain ⟨hC2, F1, hQ1, hF1⟩ := NetQ.peer hN hF hp hC hP' hF'
    have e : m.take p l = (true, m.put p (taken (m.peers p) (fromL l).toNat (startL l).toNat (ackL l).toNat (inputsL l))) := if_pos (htk.1 ht)
    rw [e]
    exact ⟨hC2, F1, hQ1, hF1, .inl ⟨rfl, rfl⟩⟩
  · obtain ⟨hC2, F1, hQ1, hF1⟩ := NetQ.peer hN hF hp hC hP' hF'
    have e : m.take p l = (false, m.put p { m.peers p with dropped := (m.peers p).dropped + 1 }) := if_neg (fun h => ht (htk.2 h))
    rw [e]
    exact ⟨hC2, F1, hQ1, hF1, .inr ⟨rfl, hfa⟩⟩

set_option maxRecDepth 10000 in
set_option maxHeartbeats 1600000 in
theorem arrive_any (g : Nat) (pv : Value) (pb : Nat → Nat) (F : Nat → Prop) (m : NetM) (w : World) (h : NetQ w g pv pb F m) (hs : m.sent ≤ 900000) (hd : ∀ p, p < m.players → (m.peers p).dropped + m.flights.length ≤ 1000000000) :
    Calls Tryz.prog 31 #[.pointer (some ⟨g, 0, none⟩)] w fun e w' => e = .returned (.tuple #[]) ∧ Chg F w w' ∧ ∃ F', NetQ w' g pv pb F' (comeM m.flights.length m) ∧ ∀ k, F' k → F k ∨ w.heap.size ≤ k := by
  have hz := Tryz.zeroFl
  have HN := hide h
  clear h
  go_enter Tryz.func31, Tryz.ntmps31
  go_upto_region 0 with fail
  go_cut [2, 3] from 4 (fun s2 s3 wx => ArrR w g pv pb F m (m.flights.length + 1) s2 s3 wx)
  case first =>
    go_wp2_with fail
    refine (ncome_any g pv pb F m w (unhide HN) hs).mono ?_
    rintro e w1 ⟨hC, F1, hF1, hcase⟩
    have hzz := hC.size
    rcases hcase with ⟨rfl, hQ, hst⟩ | ⟨t, bb, rfl, hQ, hlen, hB, hfl, hst⟩
    · have H1 := hide (And.intro hC (And.intro hF1 (And.intro hQ hst)))
      clear hC hF1 hQ hst
      unfold Z3f
      go_wp2_with fail
      go_meet
      case rel =>
        obtain ⟨hC, hF1, hQ, hst⟩ := unhide H1
        have hb2 : Below w1.heap.size w1 (w1.alloc (.cells #[.int .i64 0, .int .i64 0, .slice none 0 0] 66)) := (Below.refl _ w1).alloc (Nat.le_refl _) _
        exact ⟨m, F1, w1.heap.size, rfl, hQ.below hb2, fun j hj => .inl (hF1 j hj), hzz, fun e => by have := hQ.lt _ e; omega, hC.thenBelow (hb2.mono hzz), rfl, rfl, .inl ⟨rfl, Blk.new _ _ _, hst⟩⟩
    · have H1 := hide (And.intro hC (And.intro hF1 (And.intro hQ (And.intro hst (And.intro hB hfl)))))
      clear hC hF1 hQ hst hB hfl
      unfold flA
      go_wp2_with fail
      go_meet
      case rel =>
        obtain ⟨hC, hF1, hQ, hst, hB, hfl⟩ := unhide H1
        have hb2 : Below w1.heap.size w1 (w1.alloc (.cells (flA t bb) 66)) := (Below.refl _ w1).alloc (Nat.le_refl _) _
        exact ⟨erased m, F1, w1.heap.size, rfl, hQ.below hb2, fun j hj => .inl (hF1 j hj), hzz, fun e => by have := hQ.lt _ e; omega, hC.thenBelow (hb2.mono hzz), rfl, rfl, .inr ⟨rfl, by omega, t, bb, Blk.new _ _ _, hB.alloc _, hfl, fun p hp => (by have h1 := hd p hp; have h2 : ((erased m).peers p).dropped = (m.peers p).dropped := rfl; omega), hst⟩⟩
  case rest =>
    go_wp2_with fail
    go_loopg [2, 3] (m.flights.length + 1) (fun k s2 s3 wr => ArrR w g pv pb F m k s2 s3 wr)
    case atStart => exact hcut
    case round =>
      obtain ⟨m1, F1, fb, rfl, hQ, hF1, hfb, hnf, hC, hpl, hse, hcase⟩ := hrel
      rcases hcase with ⟨rfl, hB, hst⟩ | ⟨rfl, hlen, t, bb, hB, hbb, hfl, hdr, hst⟩
      · have H1 := hide (And.intro hQ (And.intro hC (And.intro hst hF1)))
        clear hQ hC hst hF1 hB
        go_wp2
        go_end0
        obtain ⟨hQ, hC, hst, hF1⟩ := unhide H1
        exact ⟨rfl, hC, F1, by rw [hst]; exact hQ, hF1⟩
      · obtain ⟨rb, cap, rfl, c0, hcp, _, hn4⟩ := hQ.parts
        rw [hpl] at c0 hcp hn4
        have cp := hcp t.to hfl.1
        have t0 : (0 : Int) ≤ (t.to : Int) := by omega
        have t1 : (t.to : Int) < (m.players : Int) := by have := hfl.1; omega
        have f0 : wr.cell? ⟨fb, 0, none⟩ = some (.int .i64 (t.to : Int)) := hB.cell 0
        have f2 : wr.cell? ⟨fb, 2, none⟩ = some (.slice (some ⟨bb, 0, none⟩) t.bytes.length t.bytes.length) := hB.cell 2
        have hfl0 := hB.lt
        have hgk : 1 ≤ gk := by omega
        have H1 := hide (And.intro hQ (And.intro hF1 (And.intro hC (And.intro hB (And.intro hbb (And.intro hfl (And.intro hdr hst)))))))
        clear hQ hF1 hC hB hbb hfl hdr hst hcp
        go_wp2_with fail
        refine wp_moves_reads_tail0 10 (by kernel_rfl) (by kernel_rfl) (by kernel_rfl) (by kernel_rfl) ?_
        simp only [List.take_succ_cons, List.take_zero, List.drop_succ_cons, List.drop_zero]
        repeat still_step
        refine wpStill_nil ?_
        go_wp2_with fail
        obtain ⟨hQ, hF1, hC, hB, hbb, hfl, hdr, hst⟩ := unhide H1
        have hdp : (m1.peers t.to).dropped + 1 ≤ 1000000000 := by have := hdr t.to hfl.1; omega
        refine (ntake_any g _ pb F1 m1 wr.drew (hQ.same (fun _ _ => rfl)) t.to bb 0 t.bytes.length t.bytes.length t.bytes (by rw [hpl]; exact hfl.1) rfl hfl.2.1 (Nat.le_refl _) hfl.2.2 (fun j hj => by rw [Nat.zero_add]; exact hbb.num j hj) hbb.lt hdp).mono ?_
        rintro e w2 ⟨hC2, F2, hQ2, hF2, hres⟩
        have htn := take_net m1 t.to t.bytes
        obtain ⟨ev, rfl⟩ : ∃ ev, e = .returned ev := by
          rcases hres with ⟨_, rfl⟩ | ⟨_, g2, rfl, _⟩
          · exact ⟨_, rfl⟩
          · exact ⟨_, rfl⟩
        clear hres
        have hdz : wr.drew.heap.size = wr.heap.size := rfl
        have hz2 := hC2.size
        have x2 : Blk w2 fb (flA t bb) 66 := (hC2.block fb (by omega) hnf).trans hB
        have g0 : w2.cell? ⟨fb, 0, none⟩ = some (.int .i64 (t.to : Int)) := x2.cell 0
        have g1 : w2.cell? ⟨fb, 1, none⟩ = some (.int .i64 (t.due : Int)) := x2.cell 1
        have g2 : w2.cell? ⟨fb, 2, none⟩ = some (.slice (some ⟨bb, 0, none⟩) t.bytes.length t.bytes.length) := x2.cell 2
        have hzr := hC.size
        have H2 := hide (And.intro hC2 (And.intro hQ2 hF2))
        clear hQ hF1 hC hB hbb hfl hdr hst hC2 hQ2 hF2 x2 c0 cp f0 f2
        go_wp2_with fail
        obtain ⟨hC2, hQ2, hF2⟩ := unhide H2
        have hb3 : Below w2.heap.size w2 (w2.alloc (.cells (flA t bb) 66)) := (Below.refl _ w2).alloc (Nat.le_refl _) _
        have x3 : Blk (w2.alloc (.cells (flA t bb) 66)) w2.heap.size (flA t bb) 66 := Blk.new _ _ _
        have hF2n : ¬ F2 w2.heap.size := fun e => by have := hQ2.lt _ e; omega
        refine (ncome_any g _ pb F2 (m1.take t.to t.bytes).2 (w2.alloc (.cells (flA t bb) 66)) (hQ2.below hb3) (by rw [htn.2.1, hse]; exact hs)).mono ?_
        rintro e w4 ⟨hC4, F4, hF4, hcase⟩
        have x4 : Blk w4 w2.heap.size (flA t bb) 66 := x3.chg hC4 hF2n
        have hz4 := hC4.size
        have hzA : (w2.alloc (.cells (flA t bb) 66)).heap.size = w2.heap.size + 1 := by simp
        have r0 : w4.cell? ⟨w2.heap.size, 0, none⟩ = some (.int .i64 (t.to : Int)) := x4.cell 0
        have r1 : w4.cell? ⟨w2.heap.size, 1, none⟩ = some (.int .i64 (t.due : Int)) := x4.cell 1
        have r2 : w4.cell? ⟨w2.heap.size, 2, none⟩ = some (.slice (some ⟨bb, 0, none⟩) t.bytes.length t.bytes.length) := x4.cell 2
        have q0 : w4.frozen? ⟨w2.heap.size, 0, none⟩ = false := x4.frozen 0
        have q1 : w4.frozen? ⟨w2.heap.size, 1, none⟩ = false := x4.frozen 1
        have q2 : w4.frozen? ⟨w2.heap.size, 2, none⟩ = false := x4.frozen 2
        have hF1 := (unhide H1).2.1
        have hst := (unhide H1).2.2.2.2.2.2.2
        have hdr := (unhide H1).2.2.2.2.2.2.1
        have hC4' : Chg F w w4 := ((((unhide H1).2.2.1.trans (Chg.drew F wr) (fun _ _ h => h)).trans hC2 (fun j hj e => by
          rcases hF1 j e with e | e
          · exact e
          · omega)).thenBelow (hb3.mono (by omega))).trans hC4 (fun j hj e => by
          rcases hF2 j e with e | e
          · rcases hF1 j e with e | e
            · exact e
            · omega
          · omega)
        have HK := hide (And.intro hF1 (And.intro hst (And.intro hdr (And.intro hC4' (And.intro hF2 hF2n)))))
        rcases hcase with ⟨rfl, hQ4, hst4⟩ | ⟨t4, bb4, rfl, hQ4, hlen4, hB4, hfl4, hst4⟩
        · skip
          clear hF1 hst hdr hC4' hF2 hF2n hC2 hQ2 hb3 x3 g0 g1 g2
          have H4 := hide (And.intro hC4 (And.intro hF4 (And.intro hQ4 (And.intro hst4 x4))))
          clear hC4 hF4 hQ4 hst4 x4
          unfold Z3f
          go_wp2_with fail
          go_roundg (gk - 1)
          case measure => omega
          case rel =>
            obtain ⟨hC4, hF4, hQ4, hst4, x4⟩ := unhide H4
            obtain ⟨hF1, hst, hdr, hC4', hF2, hF2n⟩ := unhide HK
            refine ⟨(m1.take t.to t.bytes).2, F4, w2.heap.size, rfl, hQ4.same (fun j hj => ?_), fun j hj => ?_, by omega, fun e => ?_, ?_, ?_, ?_, .inl ⟨rfl, ?_, ?_⟩⟩
            · have hne : j ≠ w2.heap.size := fun e => by subst e; exact hF2n (hF4 _ hj)
              rw [heap_setCell_other _ _ _ _ (fun e => hne e), heap_setCell_other _ _ _ _ (fun e => hne e), heap_setCell_other _ _ _ _ (fun e => hne e)]
            · rcases hF2 j (hF4 j hj) with e | e
              · exact hF1 j e
              · right; omega
            · exact hF2n (hF4 _ e)
            · exact ((hC4'.thenNew w2.heap.size 0 _ (by omega)).thenNew w2.heap.size 1 _ (by omega)).thenNew w2.heap.size 2 _ (by omega)
            · exact htn.1.trans hpl
            · exact htn.2.1.trans hse
            · have := ((x4.set 0 (.int .i64 0)).set 1 (.int .i64 0)).set 2 (.slice none 0 0)
              simpa [flA, Z3f] using this
            · exact hst.trans (by rw [← htn.2.2.1]; exact hst4)
        · skip
          clear hF1 hst hdr hC4' hF2 hF2n hC2 hQ2 hb3 x3 g0 g1 g2
          have H4 := hide (And.intro hC4 (And.intro hF4 (And.intro hQ4 (And.intro hst4 (And.intro x4 (And.intro hB4 hfl4))))))
          clear hC4 hF4 hQ4 hst4 x4 hB4 hfl4
          unfold flA
          go_wp2_with fail
          go_roundg (gk - 1)
          case measure => omega
          case rel =>
            obtain ⟨hC4, hF4, hQ4, hst4, x4, hB4, hfl4⟩ := unhide H4
            obtain ⟨hF1, hst, hdr, hC4', hF2, hF2n⟩ := unhide HK
            have hbn : bb4 ≠ w2.heap.size := fun e => by
              subst e
              have h1 : (nums .u8 t4.bytes).size = 3 ∧ 5 = 66 := by
                have := x4
                unfold Blk at this hB4
                rw [hB4] at this
                injection this with this
                injection this with e1 e2 e3
                exact ⟨by rw [e1]; rfl, e2⟩
              exact absurd h1.2 (by decide)
            refine ⟨erased (m1.take t.to t.bytes).2, F4, w2.heap.size, rfl, hQ4.same (fun j hj => ?_), fun j hj => ?_, by omega, fun e => ?_, ?_, ?_, ?_, .inr ⟨rfl, ?_, t4, bb4, ?_, ?_, ?_, ?_, ?_⟩⟩
            · have hne : j ≠ w2.heap.size := fun e => by subst e; exact hF2n (hF4 _ hj)
              rw [heap_setCell_other _ _ _ _ (fun e => hne e), heap_setCell_other _ _ _ _ (fun e => hne e), heap_setCell_other _ _ _ _ (fun e => hne e)]
            · rcases hF2 j (hF4 j hj) with e | e
              · exact hF1 j e
              · right; omega
            · exact hF2n (hF4 _ e)
            · exact ((hC4'.thenNew w2.heap.size 0 _ (by omega)).thenNew w2.heap.size 1 _ (by omega)).thenNew w2.heap.size 2 _ (by omega)
            · exact htn.1.trans hpl
            · exact htn.2.1.trans hse
            · rw [htn.2.2.1] at hlen4; omega
            · have := ((x4.set 0 (.int .i64 (t4.to : Int))).set 1 (.int .i64 (t4.due : Int))).set 2 (.slice (some ⟨bb4, 0, none⟩) t4.bytes.length t4.bytes.length)
              simpa [flA] using this
            · exact ((hB4.setOther ⟨w2.heap.size, 0, none⟩ _ (by simpa using hbn)).setOther ⟨w2.heap.size, 1, none⟩ _ (by simpa using hbn)).setOther ⟨w2.heap.size, 2, none⟩ _ (by simpa using hbn)
            · rw [htn.1, hpl] at hfl4; exact hfl4
            · intro p hp
              have h1 := hdr p hp
              have h2 := htn.2.2.2 p
              have h3 : ((erased (m1.take t.to t.bytes).2).peers p).dropped = ((m1.take t.to t.bytes).2.peers p).dropped := rfl
              rw [htn.2.2.1] at hlen4
              omega
            · rw [hst, ← hst4, htn.2.2.1]
end Go.Proofs.YtandblanpafjoabGreatDoor

