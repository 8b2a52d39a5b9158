import Derived.Test.YtandblanpafjoaaGreatDoorPack24
import Derived.Deep.LoopGhost
namespace Go.Proofs.YtandblanpafjoaaGreatDoor
open Go.RowKit Go.Extern.Stop Go.Stop Go.Extern
/-- Between two packets: k rounds at most are to come; B, F: the world's size and the net's blocks at the beginning. -/
def ArrR (w : World) (g : Nat) (pv : Value) (pb : Nat → Nat) (F : Nat → Prop) (m : NetM) (k : Nat) (s2 s3 : Value) (wr : World) : Prop :=
  ∃ (m1 : NetM) (F1 : Nat → Prop) (fb : Nat), s2 = .pointer (some ⟨fb, 0, none⟩) ∧ NetQ wr g pv pb F1 m1 ∧ (∀ j, F1 j → F j ∨ w.heap.size ≤ j) ∧ w.heap.size ≤ fb ∧ ¬ F1 fb ∧ Chg F w wr ∧ m1.players = m.players ∧ m1.sent = m.sent ∧
    ((s3 = .bool false ∧ Blk wr fb Z3f 91 ∧ comeM m.flights.length m = m1) ∨
     (s3 = .bool true ∧ m1.flights.length + 1 ≤ k ∧ ∃ (t : FlyM) (bb : Nat), Blk wr fb (flA t bb) 91 ∧ Blk wr bb (nums .u8 t.bytes) 5 ∧ (t.to < m.players ∧ t.bytes.length ≤ 70000 ∧ ∀ j : Nat, 0 ≤ t.bytes.getD j 0 ∧ t.bytes.getD j 0 ≤ 255) ∧
       (∀ p, p < m.players → (m1.peers p).dropped + m1.flights.length + 1 ≤ 1000000000) ∧ comeM m.flights.length m = comeM m1.flights.length (m1.take t.to t.bytes).2))
theorem take_net (n : NetM) (p : Nat) (b : List Int) : (n.take p b).2.players = n.players ∧ (n.take p b).2.sent = n.sent ∧ (n.take p b).2.flights = n.flights ∧ ∀ q, ((n.take p b).2.peers q).dropped ≤ (n.peers q).dropped + 1 := by
  unfold NetM.take
  split
  · refine ⟨rfl, rfl, rfl, fun q => ?_⟩
    simp only [NetM.put]
    split
    · rename_i e; subst e; simp [taken, PeerM.learn]
    · omega
  · refine ⟨rfl, rfl, rfl, fun q => ?_⟩
    simp only [NetM.put]
    split
    · rename_i e; subst e; exact Nat.le_refl _
    · omega
/-- A peer takes a packet, or refuses it. -/
theorem ntake_any (g : Nat) (pv : Value) (pb : Nat → Nat) (F : Nat → Prop) (m : NetM) (w : World) (h : NetQ w g pv pb F m) (p bb o L c : Nat) (l : List Int) (hp : p < m.players) (hl : l.length = L) (hn : L ≤ 70000) (hcap : L ≤ c) (hr : ∀ j : Nat, 0 ≤ l.getD j 0 ∧ l.getD j 0 ≤ 255) (hcells : ∀ j, j < L → w.cell? ⟨bb, o + j, none⟩ = some (.int .u8 (l.getD j 0))) (hbb : bb < w.heap.size) (hdrop : (m.peers p).dropped + 1 ≤ 1000000000) :
    Calls Tryz.prog 60 #[.pointer (some ⟨pb p, 0, none⟩), .slice (some ⟨bb, o, none⟩) L c] w fun e w' => Chg F w w' ∧ ∃ F', NetQ w' g pv pb F' (m.take p l).2 ∧ (∀ k, F' k → F k ∨ w.heap.size ≤ k) ∧ (((m.take p l).1 = true ∧ e = .returned .nilIface) ∨ ((m.take p l).1 = false ∧ FaultAt w' e w.heap.size p 5)) := by
  obtain ⟨lv, wv, bl, fl, Fp, hN, hF⟩ := h
  obtain ⟨FS, v, st, hP⟩ := hN.peers p hp
  refine (take_any (pb p) p m.players m.window m.delay bb o L c l (Fp p) FS (m.peers p) v st w hP (fun k hk => (hN.plt p k hp hk).1) hl hn hcap hr hcells hbb hdrop).mono ?_
  rintro e w' ⟨hC, F', FS', v', hF', _, hcase⟩
  have htk : takesP (m.peers p) p m.players m.delay l ↔ m.takes p l := Iff.rfl
  rcases hcase with ⟨ht, rfl, hP'⟩ | ⟨ht, hfa, hP'⟩
  · obtain ⟨hC2, F1, hQ1, hF1⟩ := NetQ.peer hN hF hp hC hP' hF'
    have e : m.take p l = (true, m.put p (taken (m.peers p) (fromL l).toNat (startL l).toNat (ackL l).toNat (inputsL l))) := if_pos (htk.1 ht)
    rw [e]
    exact ⟨hC2, F1, hQ1, hF1, .inl ⟨rfl, rfl⟩⟩
  · obtain ⟨hC2, F1, hQ1, hF1⟩ := NetQ.peer hN hF hp hC hP' hF'
    have e : m.take p l = (false, m.put p { m.peers p with dropped := (m.peers p).dropped + 1 }) := if_neg (fun h => ht (htk.2 h))
    rw [e]
    exact ⟨hC2, F1, hQ1, hF1, .inr ⟨rfl, hfa⟩⟩
set_option maxRecDepth 10000 in
set_option maxHeartbeats 1600000 in
theorem arrive_any (g : Nat) (pv : Value) (pb : Nat → Nat) (F : Nat → Prop) (m : NetM) (w : World) (h : NetQ w g pv pb F m) (hs : m.sent ≤ 900000) (hd : ∀ p, p < m.players → (m.peers p).dropped + m.flights.length ≤ 1000000000) :
    Calls Tryz.prog 31 #[.pointer (some ⟨g, 0, none⟩)] w fun e w' => e = .returned (.tuple #[]) ∧ Chg F w w' ∧ ∃ F', NetQ w' g pv pb F' (comeM m.flights.length m) ∧ ∀ k, F' k → F k ∨ w.heap.size ≤ k := by
  have hz := Tryz.zeroFl
  have HN := hide h
  clear h
  go_enter Tryz.func31, Tryz.ntmps31
  go_upto_region 0 with fail
  go_cut [2, 3] from 4 (fun s2 s3 wx => ArrR w g pv pb F m (m.flights.length + 1) s2 s3 wx)
  case first =>
    go_wp2_with fail
    refine (ncome_any g pv pb F m w (unhide HN) hs).mono ?_
    rintro e w1 ⟨hC, F1, hF1, hcase⟩
    have hzz := hC.size
    rcases hcase with ⟨rfl, hQ, hst⟩ | ⟨t, bb, rfl, hQ, hlen, hB, hfl, hst⟩
    · have H1 := hide (And.intro hC (And.intro hF1 (And.intro hQ hst)))
      clear hC hF1 hQ hst
      unfold Z3f
      go_wp2_with fail
      go_meet
      case rel =>
        obtain ⟨hC, hF1, hQ, hst⟩ := unhide H1
        have hb2 : Below w1.heap.size w1 (w1.alloc (.cells #[.int .i64 0, .int .i64 0, .slice none 0 0] 91)) := (Below.refl _ w1).alloc (Nat.le_refl _) _
        exact ⟨m, F1, w1.heap.size, rfl, hQ.below hb2, fun j hj => .inl (hF1 j hj), hzz, fun e => by have := hQ.lt _ e; omega, hC.thenBelow (hb2.mono hzz), rfl, rfl, .inl ⟨rfl, Blk.new _ _ _, hst⟩⟩
    · have H1 := hide (And.intro hC (And.intro hF1 (And.intro hQ (And.intro hst (And.intro hB hfl)))))
      clear hC hF1 hQ hst hB hfl
      unfold flA
      go_wp2_with fail
      go_meet
      case rel =>
        obtain ⟨hC, hF1, hQ, hst, hB, hfl⟩ := unhide H1
        have hb2 : Below w1.heap.size w1 (w1.alloc (.cells (flA t bb) 91)) := (Below.refl _ w1).alloc (Nat.le_refl _) _
        exact ⟨erased m, F1, w1.heap.size, rfl, hQ.below hb2, fun j hj => .inl (hF1 j hj), hzz, fun e => by have := hQ.lt _ e; omega, hC.thenBelow (hb2.mono hzz), rfl, rfl, .inr ⟨rfl, by omega, t, bb, Blk.new _ _ _, hB.alloc _, hfl, fun p hp => (by have h1 := hd p hp; have h2 : ((erased m).peers p).dropped = (m.peers p).dropped := rfl; omega), hst⟩⟩
  case rest =>
    go_wp2_with fail
    go_loopg [2, 3] (m.flights.length + 1) (fun k s2 s3 wr => ArrR w g pv pb F m k s2 s3 wr)
    case atStart => exact hcut
    case round =>
      obtain ⟨m1, F1, fb, rfl, hQ, hF1, hfb, hnf, hC, hpl, hse, hcase⟩ := hrel
      rcases hcase with ⟨rfl, hB, hst⟩ | ⟨rfl, hlen, t, bb, hB, hbb, hfl, hdr, hst⟩
      · have H1 := hide (And.intro hQ (And.intro hC (And.intro hst hF1)))
        clear hQ hC hst hF1 hB
        go_wp2
        go_end0
        obtain ⟨hQ, hC, hst, hF1⟩ := unhide H1
        exact ⟨rfl, hC, F1, by rw [hst]; exact hQ, hF1⟩
      · obtain ⟨rb, cap, rfl, c0, hcp, _, hn4⟩ := hQ.parts
        rw [hpl] at c0 hcp hn4
        have cp := hcp t.to hfl.1
        have t0 : (0 : Int) ≤ (t.to : Int) := by omega
        have t1 : (t.to : Int) < (m.players : Int) := by have := hfl.1; omega
        have f0 : wr.cell? ⟨fb, 0, none⟩ = some (.int .i64 (t.to : Int)) := hB.cell 0
        have f2 : wr.cell? ⟨fb, 2, none⟩ = some (.slice (some ⟨bb, 0, none⟩) t.bytes.length t.bytes.length) := hB.cell 2
        have hfl0 := hB.lt
        have hgk : 1 ≤ gk := by omega
        have H1 := hide (And.intro hQ (And.intro hF1 (And.intro hC (And.intro hB (And.intro hbb (And.intro hfl (And.intro hdr hst)))))))
        clear hQ hF1 hC hB hbb hfl hdr hst hcp
        go_wp2_with fail
        refine wp_moves_reads_tail0 10 (by kernel_rfl) (by kernel_rfl) (by kernel_rfl) (by kernel_rfl) ?_
        simp only [List.take_succ_cons, List.take_zero, List.drop_succ_cons, List.drop_zero]
        repeat still_step
        refine wpStill_nil ?_
        go_wp2_with fail
        obtain ⟨hQ, hF1, hC, hB, hbb, hfl, hdr, hst⟩ := unhide H1
        have hdp : (m1.peers t.to).dropped + 1 ≤ 1000000000 := by have := hdr t.to hfl.1; omega
        refine (ntake_any g _ pb F1 m1 wr.drew (hQ.same (fun _ _ => rfl)) t.to bb 0 t.bytes.length t.bytes.length t.bytes (by rw [hpl]; exact hfl.1) rfl hfl.2.1 (Nat.le_refl _) hfl.2.2 (fun j hj => by rw [Nat.zero_add]; exact hbb.num j hj) hbb.lt hdp).mono ?_
        rintro e w2 ⟨hC2, F2, hQ2, hF2, hres⟩
        have htn := take_net m1 t.to t.bytes
        obtain ⟨ev, rfl⟩ : ∃ ev, e = .returned ev := by
          rcases hres with ⟨_, rfl⟩ | ⟨_, g2, rfl, _⟩
          · exact ⟨_, rfl⟩
          · exact ⟨_, rfl⟩
        clear hres
        have hdz : wr.drew.heap.size = wr.heap.size := rfl
        have hz2 := hC2.size
        have x2 : Blk w2 fb (flA t bb) 91 := (hC2.block fb (by omega) hnf).trans hB
        have g0 : w2.cell? ⟨fb, 0, none⟩ = some (.int .i64 (t.to : Int)) := x2.cell 0
        have g1 : w2.cell? ⟨fb, 1, none⟩ = some (.int .i64 (t.due : Int)) := x2.cell 1
        have g2 : w2.cell? ⟨fb, 2, none⟩ = some (.slice (some ⟨bb, 0, none⟩) t.bytes.length t.bytes.length) := x2.cell 2
        have hzr := hC.size
        have H2 := hide (And.intro hC2 (And.intro hQ2 hF2))
        clear hQ hF1 hC hB hbb hfl hdr hst hC2 hQ2 hF2 x2 c0 cp f0 f2
        go_wp2_with fail
        obtain ⟨hC2, hQ2, hF2⟩ := unhide H2
        have hb3 : Below w2.heap.size w2 (w2.alloc (.cells (flA t bb) 91)) := (Below.refl _ w2).alloc (Nat.le_refl _) _
        have x3 : Blk (w2.alloc (.cells (flA t bb) 91)) w2.heap.size (flA t bb) 91 := Blk.new _ _ _
        have hF2n : ¬ F2 w2.heap.size := fun e => by have := hQ2.lt _ e; omega
        refine (ncome_any g _ pb F2 (m1.take t.to t.bytes).2 (w2.alloc (.cells (flA t bb) 91)) (hQ2.below hb3) (by rw [htn.2.1, hse]; exact hs)).mono ?_
        rintro e w4 ⟨hC4, F4, hF4, hcase⟩
        have x4 : Blk w4 w2.heap.size (flA t bb) 91 := x3.chg hC4 hF2n
        have hz4 := hC4.size
        have hzA : (w2.alloc (.cells (flA t bb) 91)).heap.size = w2.heap.size + 1 := by simp
        have r0 : w4.cell? ⟨w2.heap.size, 0, none⟩ = some (.int .i64 (t.to : Int)) := x4.cell 0
        have r1 : w4.cell? ⟨w2.heap.size, 1, none⟩ = some (.int .i64 (t.due : Int)) := x4.cell 1
        have r2 : w4.cell? ⟨w2.heap.size, 2, none⟩ = some (.slice (some ⟨bb, 0, none⟩) t.bytes.length t.bytes.length) := x4.cell 2
        have q0 : w4.frozen? ⟨w2.heap.size, 0, none⟩ = false := x4.frozen 0
        have q1 : w4.frozen? ⟨w2.heap.size, 1, none⟩ = false := x4.frozen 1
        have q2 : w4.frozen? ⟨w2.heap.size, 2, none⟩ = false := x4.frozen 2
        have hF1 := (unhide H1).2.1
        have hst := (unhide H1).2.2.2.2.2.2.2
        have hdr := (unhide H1).2.2.2.2.2.2.1
        have hC4' : Chg F w w4 := ((((unhide H1).2.2.1.trans (Chg.drew F wr) (fun _ _ h => h)).trans hC2 (fun j hj e => by
          rcases hF1 j e with e | e
          · exact e
          · omega)).thenBelow (hb3.mono (by omega))).trans hC4 (fun j hj e => by
          rcases hF2 j e with e | e
          · rcases hF1 j e with e | e
            · exact e
            · omega
          · omega)
        have HK := hide (And.intro hF1 (And.intro hst (And.intro hdr (And.intro hC4' (And.intro hF2 hF2n)))))
        rcases hcase with ⟨rfl, hQ4, hst4⟩ | ⟨t4, bb4, rfl, hQ4, hlen4, hB4, hfl4, hst4⟩
        · skip
          clear hF1 hst hdr hC4' hF2 hF2n hC2 hQ2 hb3 x3 g0 g1 g2
          have H4 := hide (And.intro hC4 (And.intro hF4 (And.intro hQ4 (And.intro hst4 x4))))
          clear hC4 hF4 hQ4 hst4 x4
          unfold Z3f
          go_wp2_with fail
          go_roundg (gk - 1)
          case measure => omega
          case rel =>
            obtain ⟨hC4, hF4, hQ4, hst4, x4⟩ := unhide H4
            obtain ⟨hF1, hst, hdr, hC4', hF2, hF2n⟩ := unhide HK
            refine ⟨(m1.take t.to t.bytes).2, F4, w2.heap.size, rfl, hQ4.same (fun j hj => ?_), fun j hj => ?_, by omega, fun e => ?_, ?_, ?_, ?_, .inl ⟨rfl, ?_, ?_⟩⟩
            · have hne : j ≠ w2.heap.size := fun e => by subst e; exact hF2n (hF4 _ hj)
              rw [heap_setCell_other _ _ _ _ (fun e => hne e), heap_setCell_other _ _ _ _ (fun e => hne e), heap_setCell_other _ _ _ _ (fun e => hne e)]
            · rcases hF2 j (hF4 j hj) with e | e
              · exact hF1 j e
              · right; omega
            · exact hF2n (hF4 _ e)
            · exact ((hC4'.thenNew w2.heap.size 0 _ (by omega)).thenNew w2.heap.size 1 _ (by omega)).thenNew w2.heap.size 2 _ (by omega)
            · exact htn.1.trans hpl
            · exact htn.2.1.trans hse
            · have := ((x4.set 0 (.int .i64 0)).set 1 (.int .i64 0)).set 2 (.slice none 0 0)
              simpa [flA, Z3f] using this
            · exact hst.trans (by rw [← htn.2.2.1]; exact hst4)
        · skip
          clear hF1 hst hdr hC4' hF2 hF2n hC2 hQ2 hb3 x3 g0 g1 g2
          have H4 := hide (And.intro hC4 (And.intro hF4 (And.intro hQ4 (And.intro hst4 (And.intro x4 (And.intro hB4 hfl4))))))
          clear hC4 hF4 hQ4 hst4 x4 hB4 hfl4
          unfold flA
          go_wp2_with fail
          go_roundg (gk - 1)
          case measure => omega
          case rel =>
            obtain ⟨hC4, hF4, hQ4, hst4, x4, hB4, hfl4⟩ := unhide H4
            obtain ⟨hF1, hst, hdr, hC4', hF2, hF2n⟩ := unhide HK
            have hbn : bb4 ≠ w2.heap.size := fun e => by
              subst e
              have h1 : (nums .u8 t4.bytes).size = 3 ∧ 5 = 91 := by
                have := x4
                unfold Blk at this hB4
                rw [hB4] at this
                injection this with this
                injection this with e1 e2 e3
                exact ⟨by rw [e1]; rfl, e2⟩
              exact absurd h1.2 (by decide)
            refine ⟨erased (m1.take t.to t.bytes).2, F4, w2.heap.size, rfl, hQ4.same (fun j hj => ?_), fun j hj => ?_, by omega, fun e => ?_, ?_, ?_, ?_, .inr ⟨rfl, ?_, t4, bb4, ?_, ?_, ?_, ?_, ?_⟩⟩
            · have hne : j ≠ w2.heap.size := fun e => by subst e; exact hF2n (hF4 _ hj)
              rw [heap_setCell_other _ _ _ _ (fun e => hne e), heap_setCell_other _ _ _ _ (fun e => hne e), heap_setCell_other _ _ _ _ (fun e => hne e)]
            · rcases hF2 j (hF4 j hj) with e | e
              · exact hF1 j e
              · right; omega
            · exact hF2n (hF4 _ e)
            · exact ((hC4'.thenNew w2.heap.size 0 _ (by omega)).thenNew w2.heap.size 1 _ (by omega)).thenNew w2.heap.size 2 _ (by omega)
            · exact htn.1.trans hpl
            · exact htn.2.1.trans hse
            · rw [htn.2.2.1] at hlen4; omega
            · have := ((x4.set 0 (.int .i64 (t4.to : Int))).set 1 (.int .i64 (t4.due : Int))).set 2 (.slice (some ⟨bb4, 0, none⟩) t4.bytes.length t4.bytes.length)
              simpa [flA] using this
            · exact ((hB4.setOther ⟨w2.heap.size, 0, none⟩ _ (by simpa using hbn)).setOther ⟨w2.heap.size, 1, none⟩ _ (by simpa using hbn)).setOther ⟨w2.heap.size, 2, none⟩ _ (by simpa using hbn)
            · rw [htn.1, hpl] at hfl4; exact hfl4
            · intro p hp
              have h1 := hdr p hp
              have h2 := htn.2.2.2 p
              have h3 : ((erased (m1.take t.to t.bytes).2).peers p).dropped = ((m1.take t.to t.bytes).2.peers p).dropped := rfl
              rw [htn.2.2.1] at hlen4
              omega
            · rw [hst, ← hst4, htn.2.2.1]
end Go.Proofs.YtandblanpafjoaaGreatDoor

namespace Go.Proofs.YtandblanpafjoaaGreatDoor
open Go.RowKit Go.Extern.Stop Go.Stop Go.Extern
theorem comeM_same : ∀ k (n : NetM), (comeM k n).players = n.players ∧ (comeM k n).sent = n.sent ∧ (comeM k n).now = n.now
  | 0, n => ⟨rfl, rfl, rfl⟩
  | k + 1, n => by
    simp only [comeM]
    split
    · exact ⟨rfl, rfl, rfl⟩
    · split
      · exact ⟨rfl, rfl, rfl⟩
      · have h1 := comeM_same k (({ n with flights := n.flights.eraseIdx (firstM n.flights) } : NetM).take (n.flights.getD (firstM n.flights) fly0).to (n.flights.getD (firstM n.flights) fly0).bytes).2
        have h2 := take_net ({ n with flights := n.flights.eraseIdx (firstM n.flights) } : NetM) (n.flights.getD (firstM n.flights) fly0).to (n.flights.getD (firstM n.flights) fly0).bytes
        have h3 : (({ n with flights := n.flights.eraseIdx (firstM n.flights) } : NetM).take (n.flights.getD (firstM n.flights) fly0).to (n.flights.getD (firstM n.flights) fly0).bytes).2.now = n.now := by
          unfold NetM.take; split <;> rfl
        exact ⟨h1.1.trans h2.1, h1.2.1.trans h2.2.1, h1.2.2.trans h3⟩
theorem againTo_sent (n : NetM) (p : Nat) : ∀ k, (againTo n p k).sent ≤ n.sent + k
  | 0 => Nat.le_refl _
  | k + 1 => by
    have := againTo_sent n p k
    simp only [againTo]
    split
    · simp only [NetM.send]; omega
    · omega
theorem againAll_sent (n : NetM) : ∀ k, (againAll n k).sent ≤ n.sent + k * n.players
  | 0 => by simp [againAll]
  | k + 1 => by
    have h1 := againAll_sent n k
    have h2 := againTo_sent (againAll n k) k n.players
    simp only [againAll]
    rw [Nat.succ_mul]; omega
theorem NetQ.passed {w w' : World} {g : Nat} {pv lv wv : Value} {pb : Nat → Nat} {F : Nat → Prop} {m : NetM} {bl : Nat → Nat} {l : List FlyM} {Fp : Nat → Nat → Prop} (hN : NetP w g pv lv wv bl l pb Fp m) (hF : ∀ k, F k ↔ Foot g pv lv wv bl Fp m k) (hW : WireAt w' g pv m.lags (m.now + 1) m.sent lv wv bl l) (hC : Chg (fun k => k = g) w w') : NetQ w' g pv pb F { m with now := m.now + 1 } := by
  have hsm : ∀ k, k < w.heap.size → k ≠ g → w'.heap[k]? = w.heap[k]? := fun k hk hn => hC.block k hk hn
  refine ⟨lv, wv, bl, l, Fp, ⟨hW, hN.perm, hN.heap, ⟨hN.numb.lt, hN.numb.row⟩, owns_same hN.row (fun k hk => hsm k (hN.row.lt k hk).2 (fun e => hN.pvn (by rw [hk, e]))), hN.pvn, hN.pvl, fun p hp => ?_, fun p k hp hk => ⟨Nat.lt_of_lt_of_le (hN.plt p k hp hk).1 hC.size, (hN.plt p k hp hk).2⟩, hN.papart, fun f hf => ⟨(hsm _ (hN.bytes f hf).1.lt (fun e => (hN.bytes f hf).2 (.inl e))).trans (hN.bytes f hf).1, (hN.bytes f hf).2⟩, hN.fly, hN.lags, hN.hp⟩, hF⟩
  obtain ⟨FS, v, st, hP⟩ := hN.peers p hp
  exact ⟨FS, v, st, hP.same (fun k hk => hsm k (hN.plt p k hp hk).1 (fun e => (hN.plt p k hp hk).2.1 (.inl e)))⟩
theorem NetQ.atLt {w : World} {g p : Nat} {pv : Value} {pb : Nat → Nat} {F : Nat → Prop} {m : NetM} (h : NetQ w g pv pb F m) (hp : p < m.players) : ∃ Fp FS v st, PeerAt w (pb p) Fp FS p m.players m.window m.delay (m.peers p) v st ∧ ∀ k, Fp k → k < w.heap.size := by
  obtain ⟨lv, wv, bl, l, Fp, hN, hF⟩ := h
  obtain ⟨FS, v, st, hP⟩ := hN.peers p hp
  exact ⟨Fp p, FS, v, st, hP, fun k hk => (hN.plt p k hp hk).1⟩
set_option maxRecDepth 10000 in
set_option maxHeartbeats 1600000 in
theorem ntick_any (g : Nat) (pv : Value) (pb : Nat → Nat) (F : Nat → Prop) (m : NetM) (w : World) (h : NetQ w g pv pb F m) (hs : m.sent + 20 ≤ 900000) (hnow : m.now + 1 ≤ 900000) (hd : ∀ p, p < m.players → (m.peers p).dropped + m.flights.length ≤ 1000000000) :
    Calls Tryz.prog 15 #[.pointer (some ⟨g, 0, none⟩)] w fun e w' => e = .returned (.tuple #[]) ∧ Chg F w w' ∧ ∃ F', NetQ w' g pv pb F' m.tick ∧ ∀ k, F' k → F k ∨ w.heap.size ≤ k := by
  have HN := hide h
  obtain ⟨rb, cap, epv, _, _, hn2, hn4⟩ := h.parts
  clear h
  go_enter Tryz.func15, Tryz.ntmps15
  go_wp2_with fail
  obtain ⟨lv, wv, bl, l, Fp, hN, hF⟩ := unhide HN
  refine (pass_any g pv m.lags m.now m.sent lv wv bl l w hN.wire (by omega)).mono ?_
  rintro e w1 ⟨rfl, hW1, hC1⟩
  have hQ1 := NetQ.passed hN hF hW1 hC1
  have hC1' : Chg F w w1 := hC1.mono (fun k _ e => (hF k).2 (.inl (.inl e)))
  have H1 := hide (And.intro hQ1 hC1')
  clear hN hF hW1 hC1 hQ1 hC1'
  go_wp2_with fail
  refine (arrive_any g pv pb F { m with now := m.now + 1 } w1 (unhide H1).1 (by show m.sent ≤ 900000; omega) hd).mono ?_
  rintro e w2 ⟨rfl, hC2, F2, hQ2, hF2⟩
  obtain ⟨M, hM⟩ : ∃ M, comeM m.flights.length { m with now := m.now + 1 } = M := ⟨_, rfl⟩
  have hMs := comeM_same m.flights.length { m with now := m.now + 1 }
  rw [hM] at hMs hQ2
  have htick : m.tick = againAll M M.players := by unfold NetM.tick; simp only [hM]
  have hz1 := (unhide H1).2.size
  have hC2' : Chg F w w2 := (unhide H1).2.trans hC2 (fun _ _ h => h)
  have hF2' : ∀ k, F2 k → F k ∨ w.heap.size ≤ k := fun k hk => (hF2 k hk).imp id (fun h => by omega)
  have hMp : M.players = m.players := hMs.1
  have hMsent : M.sent = m.sent := hMs.2.1
  have hMnow : M.now = m.now + 1 := hMs.2.2
  obtain ⟨rb2, cap2, epv2, c0, _⟩ := hQ2.parts
  rw [epv] at c0
  have H2 := hide (And.intro hQ2 (And.intro hC2' hF2'))
  have HT := hide (And.intro htick hM)
  clear hQ2 hC2 hF2 hC2' hF2' epv2 hMs htick hM
  go_wp2_with fail
  clear c0
  go_loopw [18] (fun s wr => ∃ (k : Nat) (F3 : Nat → Prop), k ≤ m.players ∧ s = .int .i64 (k : Int) ∧ NetQ wr g pv pb F3 (againAll M k) ∧ (∀ j, F3 j → F j ∨ w.heap.size ≤ j) ∧ Chg F w wr) (fun s _ => m.players - (intOf s).toNat)
  case atStart =>
    obtain ⟨hQ2, hC2, hF2⟩ := unhide H2
    exact ⟨0, F2, by omega, rfl, hQ2, hF2, hC2⟩
  case round =>
    obtain ⟨k, F3, hk, rfl, hQ, hF3, hCr⟩ := hrel
    by_cases hlt : k < m.players
    · have hdk : decide (k < m.players) = true := by simp; omega
      have hadd := i64_id ((k : Int) + 1) (by omega) (by omega)
      have k0 : (0 : Int) ≤ (k : Int) := by omega
      have k1 : (k : Int) < (m.players : Int) := by omega
      have hpa := (againAll_same M k)
      obtain ⟨rb3, cap3, epv3, c0, hcp, _⟩ := hQ.parts
      rw [epv] at epv3 c0
      injection epv3 with e1 e2 e3
      injection e1 with e1
      injection e1 with e1 _ _
      subst e1
      have cp := hcp k (by rw [hpa.1, hMp]; exact hlt)
      have HQ := hide (And.intro hQ (And.intro hF3 hCr))
      clear hQ hF3 hCr hcp e2 e3
      go_wp2_with fail
      clear c0 cp
      go_loopw [28] (fun s wi => ∃ (j : Nat) (F4 : Nat → Prop), j ≤ m.players ∧ s = .int .i64 (j : Int) ∧ NetQ wi g pv pb F4 (againTo (againAll M k) k j) ∧ (∀ i, F4 i → F i ∨ w.heap.size ≤ i) ∧ Chg F w wi) (fun s _ => m.players - (intOf s).toNat)
      case atStart =>
        obtain ⟨hQ, hF3, hCr⟩ := unhide HQ
        exact ⟨0, F3, by omega, rfl, hQ, hF3, hCr⟩
      case round =>
        obtain ⟨j, F4, hj, rfl, hQ4, hF4, hC4⟩ := hrel
        have H4 := hide (And.intro hQ4 (And.intro hF4 hC4))
        clear hQ4 hF4 hC4
        by_cases hjl : j < m.players
        · have hdj : decide (j < m.players) = true := by simp; omega
          have haj := i64_id ((j : Int) + 1) (by omega) (by omega)
          have hsmj := againTo_same (againAll M k) k j
          have hplj : (againTo (againAll M k) k j).players = m.players := (hsmj.1.trans hpa.1).trans hMp
          by_cases hjk : j = k
          · have hne : ((j : Int) != (k : Int)) = false := by simp [hjk]
            have HK := hide hjk
            clear hjk
            go_wp2
            obtain ⟨hQ4, hF4, hC4⟩ := unhide H4
            refine ⟨⟨j + 1, F4, by omega, by go_num, ?_, hF4, hC4⟩, by simp [intOf]; omega⟩
            rw [againTo, if_neg (fun h => h.1 (unhide HK))]
            exact hQ4
          · have hne : ((j : Int) != (k : Int)) = true := by simp; omega
            obtain ⟨Fp4, FS4, v4, st4, hP4, hlt4⟩ := (unhide H4).1.atLt (p := k) (by rw [hplj]; exact hlt)
            rw [hplj] at hP4
            have HK := hide hjk
            have HP := hide hP4
            clear hjk hP4
            go_wp2_with fail
            refine (owes_any (pb k) k m.players _ _ j Fp4 FS4 _ v4 st4 _ (unhide HP) hjl).mono ?_
            rintro e w5 ⟨rfl, hb5⟩
            obtain ⟨x, hx⟩ : ∃ x, (againTo (againAll M k) k j).peers k = x := ⟨_, rfl⟩
            rw [hx]
            have hQ5 : NetQ w5 g pv pb F4 (againTo (againAll M k) k j) := (unhide H4).1.below hb5
            have hC5 : Chg F w w5 := (unhide H4).2.2.thenBelow (hb5.mono (unhide H4).2.2.size)
            have hP5 := (unhide HP).same (w' := w5) (fun i hi => hb5.block i (hlt4 i hi))
            by_cases how : x.acked j < (x.known k).length
            · have hdo : decide (x.acked j < (x.known k).length) = true := decide_eq_true how
              have HO := hide how
              have H5 := hide (And.intro hQ5 (And.intro hC5 hP5))
              clear how hQ5 hC5 hP5 hb5
              rw [hdo]
              clear hdo
              go_wp2_with fail
              refine wp_region_noPanic ?_
              refine wp_held_reads 6 (fun _ => True) (by kernel_rfl) (by simp) (by kernel_rfl) (by kernel_rfl) (fun _ _ _ _ _ h => h) trivial ?_
              simp only [List.take_succ_cons, List.take_zero]
              refine wpHeld_op ?y0 rfl ?z0 ?_
              case z0 => intro w' _; go_simp; rfl
              refine wpHeld_op ?y1 rfl ?z1 ?_
              case z1 => intro w' _; go_simp; rfl
              refine wpHeld_op ?y2 rfl ?z2 ?_
              case z2 => intro w' _; go_simp; rfl
              refine wpHeld_op ?y3 rfl ?z3 ?_
              case z3 => intro w' _; go_simp; rfl
              refine wpHeld_op ?y4 rfl ?z4 ?_
              case z4 => intro w' _; go_simp; rfl
              refine wpHeld_op ?y5 rfl ?z5 ?_
              case z5 => intro w' _; go_simp; rfl
              unfold wpHeld
              refine wpAnyH_all (rs := [6]) (by kernel_rfl) (by simp) ?_
              intro q hq
              obtain rfl : q = 6 := by simpa using hq
              refine wpOp_of_list _ rfl rfl ?_
              go_wp2_with fail
              obtain ⟨hQ5, hC5, hP5⟩ := unhide H5
              rw [hx] at hP5
              refine (packet_any (pb k) k m.players _ _ j Fp4 FS4 x v4 st4 w5.drew (hP5.toPeerK.same (fun _ _ => rfl)) hjl (unhide HO)).mono ?_
              rintro e w6 ⟨g6, rfl, hg6, hB6, hb6⟩
              have hin := packM_in hP5.ok hn4 hlt hjl
              clear hP5
              go_wp2_with fail
              refine ⟨trivial, ?_⟩
              refine wpAnyH_all (rs := [7]) (by kernel_rfl) (by simp) ?_
              intro q hq
              obtain rfl : q = 7 := by simpa using hq
              refine wpOp_of_list _ rfl rfl ?_
              go_wp2_with fail
              have hss := againTo_sent (againAll M k) k j
              have hss2 := againAll_sent M k
              have hkm : k * M.players ≤ 4 * 4 := Nat.mul_le_mul (by omega) (by omega)
              have hnn : (againTo (againAll M k) k j).now = m.now + 1 := (hsmj.2.2.1.trans hpa.2.2.1).trans hMnow
              refine (nsend_any g pv pb F4 (againTo (againAll M k) k j) w5.drew w6 (hQ5.same (fun _ _ => rfl)) hb6 g6 j (packM x k j) hB6 hg6 (by rw [hplj]; exact hjl) (by omega) hin.2 (by omega) (by omega)).mono ?_
              rintro e w7 ⟨rfl, hC7, F7, hQ7, hF7⟩
              have H7 := hide (And.intro hC7 (And.intro hQ7 hF7))
              clear hC7 hQ7 hF7 hB6 hb6 hin hQ5
              go_wp2_with fail
              refine ⟨trivial, ⟨by kernel_rfl, ?_⟩⟩
              refine NoPanic.normal ?_
              go_wp2
              obtain ⟨hQ4, hF4, hC4⟩ := unhide H4
              obtain ⟨hC7, hQ7, hF7⟩ := unhide H7
              have hz5 := hC5.size
              have hdz : w5.drew.heap.size = w5.heap.size := rfl
              refine ⟨⟨j + 1, F7, by omega, by go_num, ?_, fun i hi => ?_, ?_⟩, by simp [intOf]; omega⟩
              · rw [againTo, if_pos ⟨unhide HK, by rw [hx]; exact unhide HO⟩, send_put1, hx]
                exact hQ7
              · rcases hF7 i hi with e | e
                · exact hF4 i e
                · right; omega
              · exact (hC5.trans (Chg.drew F w5) (fun _ _ h => h)).trans hC7 (fun i hi e => by
                  rcases hF4 i e with e | e
                  · exact e
                  · omega)
            · have hdo : decide (x.acked j < (x.known k).length) = false := decide_eq_false how
              have HO := hide how
              have H5 := hide (And.intro hQ5 hC5)
              clear how hQ5 hC5 hP5 hb5
              rw [hdo]
              clear hdo
              go_wp2
              obtain ⟨hQ5, hC5⟩ := unhide H5
              refine ⟨⟨j + 1, F4, by omega, by go_num, ?_, (unhide H4).2.1, hC5⟩, by simp [intOf]; omega⟩
              rw [againTo, if_neg (fun h => unhide HO (by rw [← hx]; exact h.2))]
              exact hQ5
        · have hdj : decide (j < m.players) = false := by simp; omega
          have hje : j = m.players := by omega
          have HJ := hide hje
          clear hje
          go_wp2
          obtain ⟨hQ4, hF4, hC4⟩ := unhide H4
          refine ⟨⟨k + 1, F4, by omega, by go_num, ?_, hF4, hC4⟩, by simp [intOf]; omega⟩
          rw [unhide HJ, ← hMp] at hQ4
          exact hQ4
    · have hdk : decide (k < m.players) = false := by simp; omega
      have hke : k = m.players := by omega
      have HK := hide hke
      have HQ := hide (And.intro hQ (And.intro hF3 hCr))
      clear hke hQ hF3 hCr
      go_wp2
      go_end0
      obtain ⟨hQ, hF3, hCr⟩ := unhide HQ
      rw [unhide HK, ← hMp] at hQ
      rw [(unhide HT).1]
      exact ⟨rfl, hCr, F3, hQ, hF3⟩
end Go.Proofs.YtandblanpafjoaaGreatDoor

namespace Go.Proofs.YtandblanpafjoaaGreatDoor
open Go.RowKit
structure Bd (m : NetM) (n s t h : Nat) : Prop where
  players : m.players = n
  sent : m.sent ≤ s
  now : m.now ≤ t
  drop : ∀ q, (m.peers q).dropped + m.flights.length ≤ m.sent + h
theorem Bd.new (n win delay : Nat) (lags : List Int) : Bd (newM n win delay lags) n 0 0 0 := ⟨rfl, Nat.le_refl _, Nat.le_refl _, fun _ => Nat.le_refl _⟩
theorem Bd.mono {m : NetM} {n s t h s' t' h' : Nat} (b : Bd m n s t h) (hs : s ≤ s') (ht : t ≤ t') (hh : h ≤ h') : Bd m n s' t' h' := ⟨b.players, Nat.le_trans b.sent hs, Nat.le_trans b.now ht, fun q => by have := b.drop q; omega⟩
theorem Bd.send {m : NetM} {n s t h : Nat} (b : Bd m n s t h) (p q : Nat) : Bd (m.send p q) n (s + 1) t h := by
  refine ⟨b.players, by show m.sent + 1 ≤ s + 1; have := b.sent; omega, b.now, fun i => ?_⟩
  have h1 := b.drop i
  show (m.peers i).dropped + (if 0 ≤ m.lag then m.flights ++ [_] else m.flights).length ≤ m.sent + 1 + h
  split
  · simp only [List.length_append, List.length_cons, List.length_nil]; omega
  · omega
theorem Bd.sendTo {m : NetM} {n s t h : Nat} (b : Bd m n s t h) (p : Nat) : ∀ k, Bd (sendTo m p k) n (s + (k - if p < k then 1 else 0)) t h
  | 0 => by simpa [Proofs.YtandblanpafjoaaGreatDoor.sendTo] using b
  | k + 1 => by
    have ih := Bd.sendTo b p k
    unfold Proofs.YtandblanpafjoaaGreatDoor.sendTo
    by_cases e : k = p
    · rw [if_pos e]
      exact ih.mono (by split <;> split <;> omega) (Nat.le_refl _) (Nat.le_refl _)
    · rw [if_neg e]
      exact (ih.send p k).mono (by split <;> split <;> omega) (Nat.le_refl _) (Nat.le_refl _)
theorem Bd.againTo {m : NetM} {n s t h : Nat} (b : Bd m n s t h) (p : Nat) : ∀ k, Bd (againTo m p k) n (s + (k - if p < k then 1 else 0)) t h
  | 0 => by simpa [Proofs.YtandblanpafjoaaGreatDoor.againTo] using b
  | k + 1 => by
    have ih := Bd.againTo b p k
    unfold Proofs.YtandblanpafjoaaGreatDoor.againTo
    by_cases e : k = p
    · rw [if_neg (fun h => h.1 e)]
      exact ih.mono (by split <;> split <;> omega) (Nat.le_refl _) (Nat.le_refl _)
    · split
      · exact (ih.send p k).mono (by split <;> split <;> omega) (Nat.le_refl _) (Nat.le_refl _)
      · exact ih.mono (by split <;> split <;> omega) (Nat.le_refl _) (Nat.le_refl _)
theorem Bd.againAll {m : NetM} {n s t h : Nat} (b : Bd m n s t h) : ∀ k, k ≤ n → Bd (againAll m k) n (s + k * (n - 1)) t h
  | 0, _ => by simpa [Proofs.YtandblanpafjoaaGreatDoor.againAll] using b
  | k + 1, hk => by
    have ih := Bd.againAll b k (by omega)
    unfold Proofs.YtandblanpafjoaaGreatDoor.againAll
    rw [b.players]
    refine (ih.againTo k n).mono ?_ (Nat.le_refl _) (Nat.le_refl _)
    rw [if_pos (by omega), Nat.succ_mul, ← Nat.add_assoc]
    exact Nat.le_refl _
theorem Bd.take {m : NetM} {n s t h : Nat} (b : Bd m n s t h) (p : Nat) (l : List Int) : Bd (m.take p l).2 n s t (h + 1) := by
  have h1 := take_net m p l
  have h2 : (m.take p l).2.now = m.now := by unfold NetM.take; split <;> rfl
  refine ⟨h1.1.trans b.players, by rw [h1.2.1]; exact b.sent, by rw [h2]; exact b.now, fun q => ?_⟩
  have h3 := b.drop q
  have h4 := h1.2.2.2 q
  rw [h1.2.1, h1.2.2.1]; omega
theorem Bd.come : ∀ k (m : NetM) {n s t h : Nat}, Bd m n s t h → Bd (comeM k m) n s t h
  | 0, m, n, s, t, h, b => b
  | k + 1, m, n, s, t, h, b => by
    simp only [comeM]
    split
    · exact b
    · rename_i hne
      split
      · exact b
      · apply Bd.come k
        have hl : firstM m.flights < m.flights.length := firstM_lt _ hne
        have h1 := take_net ({ m with flights := m.flights.eraseIdx (firstM m.flights) } : NetM) (m.flights.getD (firstM m.flights) fly0).to (m.flights.getD (firstM m.flights) fly0).bytes
        have h2 : (({ m with flights := m.flights.eraseIdx (firstM m.flights) } : NetM).take (m.flights.getD (firstM m.flights) fly0).to (m.flights.getD (firstM m.flights) fly0).bytes).2.now = m.now := by unfold NetM.take; split <;> rfl
        refine ⟨h1.1.trans b.players, by rw [h1.2.1]; exact b.sent, by rw [h2]; exact b.now, fun q => ?_⟩
        have h3 := b.drop q
        have h4 := h1.2.2.2 q
        have h5 : (({ m with flights := m.flights.eraseIdx (firstM m.flights) } : NetM).peers q).dropped = (m.peers q).dropped := rfl
        rw [h1.2.1, h1.2.2.1]
        show _ + (m.flights.eraseIdx (firstM m.flights)).length ≤ m.sent + h
        rw [List.length_eraseIdx_of_lt hl]
        omega
theorem Bd.tick {m : NetM} {n s t h : Nat} (b : Bd m n s t h) (hn : n ≤ 4) : Bd m.tick n (s + 12) (t + 1) h := by
  have b1 : Bd { m with now := m.now + 1 } n s (t + 1) h := ⟨b.players, b.sent, by show m.now + 1 ≤ t + 1; have := b.now; omega, b.drop⟩
  have b2 := Bd.come m.flights.length _ b1
  have e : m.tick = Proofs.YtandblanpafjoaaGreatDoor.againAll (comeM m.flights.length { m with now := m.now + 1 }) (comeM m.flights.length { m with now := m.now + 1 }).players := rfl
  rw [e, b2.players]
  refine (b2.againAll n (Nat.le_refl _)).mono ?_ (Nat.le_refl _) (Nat.le_refl _)
  have : n * (n - 1) ≤ 12 := by
    rcases n with _ | _ | _ | _ | _ | n <;> omega
  omega
theorem Bd.adv {m : NetM} {n s t h : Nat} (b : Bd m n s t h) (hn : n ≤ 4) (p : Nat) (v : Int) : Bd (m.advance p v).2 n (s + 12) t h := by
  unfold NetM.advance
  split
  · exact b.mono (by omega) (Nat.le_refl _) (Nat.le_refl _)
  · split
    · exact b.mono (by omega) (Nat.le_refl _) (Nat.le_refl _)
    · have b1 : Bd (m.stepped p v) n s t h := ⟨b.players, b.sent, b.now, fun q => by rw [stepped_dropped]; exact b.drop q⟩
      exact (b1.sendTo p m.players).mono (by rw [b.players]; omega) (Nat.le_refl _) (Nat.le_refl _)
end Go.Proofs.YtandblanpafjoaaGreatDoor

