import Derived.Test.YtandblanpafjoabGreatDoorPack33
import Derived.Test.YtandblanpafjoabGreatDoorPack28
import Derived.Laws.MakeOwn
import Derived.Laws.Tables
namespace Go.Proofs.YtandblanpafjoabGreatDoor
open Go.RowKit Go.Extern.Stop Go.Stop Go.Extern

/-! A tick. -/
theorem comeM_same : ∀ k (n : NetM), (comeM k n).players = n.players ∧ (comeM k n).sent = n.sent ∧ (comeM k n).now = n.now
  | 0, n => ⟨rfl, rfl, rfl⟩
  | k + 1, n => by
    simp only [comeM]
    split
    · exact ⟨rfl, rfl, rfl⟩
    · split
      · exact ⟨rfl, rfl, rfl⟩
      · have h1 := comeM_same k (({ n with flights := n.flights.eraseIdx (firstM n.flights) } : NetM).take (n.flights.getD (firstM n.flights) fly0).to (n.flights.getD (firstM n.flights) fly0).bytes).2
        have h2 := take_net ({ n with flights := n.flights.eraseIdx (firstM n.flights) } : NetM) (n.flights.getD (firstM n.flights) fly0).to (n.flights.getD (firstM n.flights) fly0).bytes
        have h3 : (({ n with flights := n.flights.eraseIdx (firstM n.flights) } : NetM).take (n.flights.getD (firstM n.flights) fly0).to (n.flights.getD (firstM n.flights) fly0).bytes).2.now = n.now := by
          unfold NetM.take; split <;> rfl
        exact ⟨h1.1.trans h2.1, h1.2.1.trans h2.2.1, h1.2.2.trans h3⟩
theorem againTo_sent (n : NetM) (p : Nat) : ∀ k, (againTo n p k).sent ≤ n.sent + k
  | 0 => Nat.le_refl _
  | k + 1 => by
    have := againTo_sent n p k
    simp only [againTo]
    split
    · simp only [NetM.send]; omega
    · omega
theorem againAll_sent (n : NetM) : ∀ k, (againAll n k).sent ≤ n.sent + k * n.players
  | 0 => by simp [againAll]
  | k + 1 => by
    have h1 := againAll_sent n k
    have h2 := againTo_sent (againAll n k) k n.players
    simp only [againAll]
    rw [Nat.succ_mul]; omega
theorem NetQ.passed {w w' : World} {g : Nat} {pv lv wv : Value} {pb : Nat → Nat} {F : Nat → Prop} {m : NetM} {bl : Nat → Nat} {l : List FlyM} {Fp : Nat → Nat → Prop} (hN : NetP w g pv lv wv bl l pb Fp m) (hF : ∀ k, F k ↔ Foot g pv lv wv bl Fp m k) (hW : WireAt w' g pv m.lags (m.now + 1) m.sent lv wv bl l) (hC : Chg (fun k => k = g) w w') : NetQ w' g pv pb F { m with now := m.now + 1 } := by
  have hsm : ∀ k, k < w.heap.size → k ≠ g → w'.heap[k]? = w.heap[k]? := fun k hk hn => hC.block k hk hn
  refine ⟨lv, wv, bl, l, Fp, ⟨hW, hN.perm, hN.heap, ⟨hN.numb.lt, hN.numb.row⟩, owns_same hN.row (fun k hk => hsm k (hN.row.lt k hk).2 (fun e => hN.pvn (by rw [hk, e]))), hN.pvn, hN.pvl, fun p hp => ?_, fun p k hp hk => ⟨Nat.lt_of_lt_of_le (hN.plt p k hp hk).1 hC.size, (hN.plt p k hp hk).2⟩, hN.papart, fun f hf => ⟨(hsm _ (hN.bytes f hf).1.lt (fun e => (hN.bytes f hf).2 (.inl e))).trans (hN.bytes f hf).1, (hN.bytes f hf).2⟩, hN.fly, hN.lags, hN.hp⟩, hF⟩
  obtain ⟨FS, v, st, hP⟩ := hN.peers p hp
  exact ⟨FS, v, st, hP.same (fun k hk => hsm k (hN.plt p k hp hk).1 (fun e => (hN.plt p k hp hk).2.1 (.inl e)))⟩

theorem NetQ.atLt {w : World} {g p : Nat} {pv : Value} {pb : Nat → Nat} {F : Nat → Prop} {m : NetM} (h : NetQ w g pv pb F m) (hp : p < m.players) : ∃ Fp FS v st, PeerAt w (pb p) Fp FS p m.players m.window m.delay (m.peers p) v st ∧ ∀ k, Fp k → k < w.heap.size := by
  obtain ⟨lv, wv, bl, l, Fp, hN, hF⟩ := h
  obtain ⟨FS, v, st, hP⟩ := hN.peers p hp
  exact ⟨Fp p, FS, v, st, hP, fun k hk => (hN.plt p k hp hk).1⟩
set_option maxRecDepth 10000 in
set_option maxHeartbeats 1600000 in
theorem ntick_any (g : Nat) (pv : Value) (pb : Nat → Nat) (F : Nat → Prop) (m : NetM) (w : World) (h : NetQ w g pv pb F m) (hs : m.sent + 20 ≤ 900000) (hnow : m.now + 1 ≤ 900000) (hd : ∀ p, p < m.players → (m.peers p).dropped + m.flights.length ≤ 1000000000) :
    Calls Tryz.prog 18 #[.pointer (some ⟨g, 0, none⟩)] w fun e w' => e = .returned (.tuple #[]) ∧ Chg F w w' ∧ ∃ F', NetQ w' g pv pb F' m.tick ∧ ∀ k, F' k → F k ∨ w.heap.size ≤ k := by
  have HN := hide h
  obtain ⟨rb, cap, epv, _, _, hn2, hn4⟩ := h.parts
  clear h
  go_enter Tryz.func18, Tryz.ntmps18
  go_wp2_with fail
  obtain ⟨lv, wv, bl, l, Fp, hN, hF⟩ := unhide HN
  refine (pass_any g pv m.lags m.now m.sent lv wv bl l w hN.wire (by omega)).mono ?_
  rintro e w1 ⟨rfl, hW1, hC1⟩
  have hQ1 := NetQ.passed hN hF hW1 hC1
  have hC1' : Chg F w w1 := hC1.mono (fun k _ e => (hF k).2 (.inl (.inl e)))
  have H1 := hide (And.intro hQ1 hC1')
  clear hN hF hW1 hC1 hQ1 hC1'
  go_wp2_with fail
  refine (arrive_any g pv pb F { m with now := m.now + 1 } w1 (unhide H1).1 (by show m.sent ≤ 900000; omega) hd).mono ?_
  rintro e w2 ⟨rfl, hC2, F2, hQ2, hF2⟩
  obtain ⟨M, hM⟩ : ∃ M, comeM m.flights.length { m with now := m.now + 1 } = M := ⟨_, rfl⟩
  have hMs := comeM_same m.flights.length { m with now := m.now + 1 }
  rw [hM] at hMs hQ2
  have htick : m.tick = againAll M M.players := by unfold NetM.tick; simp only [hM]
  have hz1 := (unhide H1).2.size
  have hC2' : Chg F w w2 := (unhide H1).2.trans hC2 (fun _ _ h => h)
  have hF2' : ∀ k, F2 k → F k ∨ w.heap.size ≤ k := fun k hk => (hF2 k hk).imp id (fun h => by omega)
  have hMp : M.players = m.players := hMs.1
  have hMsent : M.sent = m.sent := hMs.2.1
  have hMnow : M.now = m.now + 1 := hMs.2.2
  obtain ⟨rb2, cap2, epv2, c0, _⟩ := hQ2.parts
  rw [epv] at c0
  have H2 := hide (And.intro hQ2 (And.intro hC2' hF2'))
  have HT := hide (And.intro htick hM)
  clear hQ2 hC2 hF2 hC2' hF2' epv2 hMs htick hM
  go_wp2_with fail
  clear c0
  go_loopw [18] (fun s wr => ∃ (k : Nat) (F3 : Nat → Prop), k ≤ m.players ∧ s = .int .i64 (k : Int) ∧ NetQ wr g pv pb F3 (againAll M k) ∧ (∀ j, F3 j → F j ∨ w.heap.size ≤ j) ∧ Chg F w wr) (fun s _ => m.players - (intOf s).toNat)
  case atStart =>
    obtain ⟨hQ2, hC2, hF2⟩ := unhide H2
    exact ⟨0, F2, by omega, rfl, hQ2, hF2, hC2⟩
  case round =>
    obtain ⟨k, F3, hk, rfl, hQ, hF3, hCr⟩ := hrel
    by_cases hlt : k < m.players
    · have hdk : decide (k < m.players) = true := by simp; omega
      have hadd := i64_id ((k : Int) + 1) (by omega) (by omega)
      have k0 : (0 : Int) ≤ (k : Int) := by omega
      have k1 : (k : Int) < (m.players : Int) := by omega
      have hpa := (againAll_same M k)
      obtain ⟨rb3, cap3, epv3, c0, hcp, _⟩ := hQ.parts
      rw [epv] at epv3 c0
      injection epv3 with e1 e2 e3
      injection e1 with e1
      injection e1 with e1 _ _
      subst e1
      have cp := hcp k (by rw [hpa.1, hMp]; exact hlt)
      have HQ := hide (And.intro hQ (And.intro hF3 hCr))
      clear hQ hF3 hCr hcp e2 e3
      go_wp2_with fail
      clear c0 cp
      go_loopw [28] (fun s wi => ∃ (j : Nat) (F4 : Nat → Prop), j ≤ m.players ∧ s = .int .i64 (j : Int) ∧ NetQ wi g pv pb F4 (againTo (againAll M k) k j) ∧ (∀ i, F4 i → F i ∨ w.heap.size ≤ i) ∧ Chg F w wi) (fun s _ => m.players - (intOf s).toNat)
      case atStart =>
        obtain ⟨hQ, hF3, hCr⟩ := unhide HQ
        exact ⟨0, F3, by omega, rfl, hQ, hF3, hCr⟩
      case round =>
        obtain ⟨j, F4, hj, rfl, hQ4, hF4, hC4⟩ := hrel
        have H4 := hide (And.intro hQ4 (And.intro hF4 hC4))
        clear hQ4 hF4 hC4
        by_cases hjl : j < m.players
        · have hdj : decide (j < m.players) = true := by simp; omega
          have haj := i64_id ((j : Int) + 1) (by omega) (by omega)
          have hsmj := againTo_same (againAll M k) k j
          have hplj : (againTo (againAll M k) k j).players = m.players := (hsmj.1.trans hpa.1).trans hMp
          by_cases hjk : j = k
          · have hne : ((j : Int) != (k : Int)) = false := by simp [hjk]
            have HK := hide hjk
            clear hjk
            go_wp2
            obtain ⟨hQ4, hF4, hC4⟩ := unhide H4
            refine ⟨⟨j + 1, F4, by omega, by go_num, ?_, hF4, hC4⟩, by simp [intOf]; omega⟩
            rw [againTo, if_neg (fun h => h.1 (unhide HK))]
            exact hQ4
          · have hne : ((j : Int) != (k : Int)) = true := by simp; omega
            obtain ⟨Fp4, FS4, v4, st4, hP4, hlt4⟩ := (unhide H4).1.atLt (p := k) (by rw [hplj]; exact hlt)
            rw [hplj] at hP4
            have HK := hide hjk
            have HP := hide hP4
            clear hjk hP4
            go_wp2_with fail
            refine (owes_any (pb k) k m.players _ _ j Fp4 FS4 _ v4 st4 _ (unhide HP) hjl).mono ?_
            rintro e w5 ⟨rfl, hb5⟩
            obtain ⟨x, hx⟩ : ∃ x, (againTo (againAll M k) k j).peers k = x := ⟨_, rfl⟩
            rw [hx]
            have hQ5 : NetQ w5 g pv pb F4 (againTo (againAll M k) k j) := (unhide H4).1.below hb5
            have hC5 : Chg F w w5 := (unhide H4).2.2.thenBelow (hb5.mono (unhide H4).2.2.size)
            have hP5 := (unhide HP).same (w' := w5) (fun i hi => hb5.block i (hlt4 i hi))
            by_cases how : x.acked j < (x.known k).length
            · have hdo : decide (x.acked j < (x.known k).length) = true := decide_eq_true how
              have HO := hide how
              have H5 := hide (And.intro hQ5 (And.intro hC5 hP5))
              clear how hQ5 hC5 hP5 hb5
              rw [hdo]
              clear hdo
              go_wp2_with fail
              refine wp_region_noPanic ?_
              refine wp_held_reads 6 (fun _ => True) (by kernel_rfl) (by simp) (by kernel_rfl) (by kernel_rfl) (fun _ _ _ _ _ h => h) trivial ?_
              simp only [List.take_succ_cons, List.take_zero]
              refine wpHeld_op ?y0 rfl ?z0 ?_
              case z0 => intro w' _; go_simp; rfl
              refine wpHeld_op ?y1 rfl ?z1 ?_
              case z1 => intro w' _; go_simp; rfl
              refine wpHeld_op ?y2 rfl ?z2 ?_
              case z2 => intro w' _; go_simp; rfl
              refine wpHeld_op ?y3 rfl ?z3 ?_
              case z3 => intro w' _; go_simp; rfl
              refine wpHeld_op ?y4 rfl ?z4 ?_
              case z4 => intro w' _; go_simp; rfl
              refine wpHeld_op ?y5 rfl ?z5 ?_
              case z5 => intro w' _; go_simp; rfl
              unfold wpHeld
              refine wpAnyH_all (rs := [6]) (by kernel_rfl) (by simp) ?_
              intro q hq
              obtain rfl : q = 6 := by simpa using hq
              refine wpOp_of_list _ rfl rfl ?_
              go_wp2_with fail
              obtain ⟨hQ5, hC5, hP5⟩ := unhide H5
              rw [hx] at hP5
              refine (packet_any (pb k) k m.players _ _ j Fp4 FS4 x v4 st4 w5.drew (hP5.toPeerK.same (fun _ _ => rfl)) hjl (unhide HO)).mono ?_
              rintro e w6 ⟨g6, rfl, hg6, hB6, hb6⟩
              have hin := packM_in hP5.ok hn4 hlt hjl
              clear hP5
              go_wp2_with fail
              refine ⟨trivial, ?_⟩
              refine wpAnyH_all (rs := [7]) (by kernel_rfl) (by simp) ?_
              intro q hq
              obtain rfl : q = 7 := by simpa using hq
              refine wpOp_of_list _ rfl rfl ?_
              go_wp2_with fail
              have hss := againTo_sent (againAll M k) k j
              have hss2 := againAll_sent M k
              have hkm : k * M.players ≤ 4 * 4 := Nat.mul_le_mul (by omega) (by omega)
              have hnn : (againTo (againAll M k) k j).now = m.now + 1 := (hsmj.2.2.1.trans hpa.2.2.1).trans hMnow
              refine (nsend_any g pv pb F4 (againTo (againAll M k) k j) w5.drew w6 (hQ5.same (fun _ _ => rfl)) hb6 g6 j (packM x k j) hB6 hg6 (by rw [hplj]; exact hjl) (by omega) hin.2 (by omega) (by omega)).mono ?_
              rintro e w7 ⟨rfl, hC7, F7, hQ7, hF7⟩
              have H7 := hide (And.intro hC7 (And.intro hQ7 hF7))
              clear hC7 hQ7 hF7 hB6 hb6 hin hQ5
              go_wp2_with fail
              refine ⟨trivial, ⟨by kernel_rfl, ?_⟩⟩
              refine NoPanic.normal ?_
              go_wp2
              obtain ⟨hQ4, hF4, hC4⟩ := unhide H4
              obtain ⟨hC7, hQ7, hF7⟩ := unhide H7
              have hz5 := hC5.size
              have hdz : w5.drew.heap.size = w5.heap.size := rfl
              refine ⟨⟨j + 1, F7, by omega, by go_num, ?_, fun i hi => ?_, ?_⟩, by simp [intOf]; omega⟩
              · rw [againTo, if_pos ⟨unhide HK, by rw [hx]; exact unhide HO⟩, send_put1, hx]
                exact hQ7
              · rcases hF7 i hi with e | e
                · exact hF4 i e
                · right; omega
              · exact (hC5.trans (Chg.drew F w5) (fun _ _ h => h)).trans hC7 (fun i hi e => by
                  rcases hF4 i e with e | e
                  · exact e
                  · omega)
            · have hdo : decide (x.acked j < (x.known k).length) = false := decide_eq_false how
              have HO := hide how
              have H5 := hide (And.intro hQ5 hC5)
              clear how hQ5 hC5 hP5 hb5
              rw [hdo]
              clear hdo
              go_wp2
              obtain ⟨hQ5, hC5⟩ := unhide H5
              refine ⟨⟨j + 1, F4, by omega, by go_num, ?_, (unhide H4).2.1, hC5⟩, by simp [intOf]; omega⟩
              rw [againTo, if_neg (fun h => unhide HO (by rw [← hx]; exact h.2))]
              exact hQ5
        · have hdj : decide (j < m.players) = false := by simp; omega
          have hje : j = m.players := by omega
          have HJ := hide hje
          clear hje
          go_wp2
          obtain ⟨hQ4, hF4, hC4⟩ := unhide H4
          refine ⟨⟨k + 1, F4, by omega, by go_num, ?_, hF4, hC4⟩, by simp [intOf]; omega⟩
          rw [unhide HJ, ← hMp] at hQ4
          exact hQ4
    · have hdk : decide (k < m.players) = false := by simp; omega
      have hke : k = m.players := by omega
      have HK := hide hke
      have HQ := hide (And.intro hQ (And.intro hF3 hCr))
      clear hke hQ hF3 hCr
      go_wp2
      go_end0
      obtain ⟨hQ, hF3, hCr⟩ := unhide HQ
      rw [unhide HK, ← hMp] at hQ
      rw [(unhide HT).1]
      exact ⟨rfl, hCr, F3, hQ, hF3⟩
end Go.Proofs.YtandblanpafjoabGreatDoor

namespace Go.Proofs.YtandblanpafjoabGreatDoor
open Go.RowKit

/-! Bounds of a net over a long script. -/
structure Bd (m : NetM) (n s t h : Nat) : Prop where
  players : m.players = n
  sent : m.sent ≤ s
  now : m.now ≤ t
  drop : ∀ q, (m.peers q).dropped + m.flights.length ≤ m.sent + h
theorem Bd.new (n win delay : Nat) (lags : List Int) : Bd (newM n win delay lags) n 0 0 0 := ⟨rfl, Nat.le_refl _, Nat.le_refl _, fun _ => Nat.le_refl _⟩
theorem Bd.mono {m : NetM} {n s t h s' t' h' : Nat} (b : Bd m n s t h) (hs : s ≤ s') (ht : t ≤ t') (hh : h ≤ h') : Bd m n s' t' h' := ⟨b.players, Nat.le_trans b.sent hs, Nat.le_trans b.now ht, fun q => by have := b.drop q; omega⟩
theorem Bd.send {m : NetM} {n s t h : Nat} (b : Bd m n s t h) (p q : Nat) : Bd (m.send p q) n (s + 1) t h := by
  refine ⟨b.players, by show m.sent + 1 ≤ s + 1; have := b.sent; omega, b.now, fun i => ?_⟩
  have h1 := b.drop i
  show (m.peers i).dropped + (if 0 ≤ m.lag then m.flights ++ [_] else m.flights).length ≤ m.sent + 1 + h
  split
  · simp only [List.length_append, List.length_cons, List.length_nil]; omega
  · omega
theorem Bd.sendTo {m : NetM} {n s t h : Nat} (b : Bd m n s t h) (p : Nat) : ∀ k, Bd (sendTo m p k) n (s + (k - if p < k then 1 else 0)) t h
  | 0 => by simpa [Proofs.YtandblanpafjoabGreatDoor.sendTo] using b
  | k + 1 => by
    have ih := Bd.sendTo b p k
    unfold Proofs.YtandblanpafjoabGreatDoor.sendTo
    by_cases e : k = p
    · rw [if_pos e]
      exact ih.mono (by split <;> split <;> omega) (Nat.le_refl _) (Nat.le_refl _)
    · rw [if_neg e]
      exact (ih.send p k).mono (by split <;> split <;> omega) (Nat.le_refl _) (Nat.le_refl _)
theorem Bd.againTo {m : NetM} {n s t h : Nat} (b : Bd m n s t h) (p : Nat) : ∀ k, Bd (againTo m p k) n (s + (k - if p < k then 1 else 0)) t h
  | 0 => by simpa [Proofs.YtandblanpafjoabGreatDoor.againTo] using b
  | k + 1 => by
    have ih := Bd.againTo b p k
    unfold Proofs.YtandblanpafjoabGreatDoor.againTo
    by_cases e : k = p
    · rw [if_neg (fun h => h.1 e)]
      exact ih.mono (by split <;> split <;> omega) (Nat.le_refl _) (Nat.le_refl _)
    · split
      · exact (ih.send p k).mono (by split <;> split <;> omega) (Nat.le_refl _) (Nat.le_refl _)
      · exact ih.mono (by split <;> split <;> omega) (Nat.le_refl _) (Nat.le_refl _)
theorem Bd.againAll {m : NetM} {n s t h : Nat} (b : Bd m n s t h) : ∀ k, k ≤ n → Bd (againAll m k) n (s + k * (n - 1)) t h
  | 0, _ => by simpa [Proofs.YtandblanpafjoabGreatDoor.againAll] using b
  | k + 1, hk => by
    have ih := Bd.againAll b k (by omega)
    unfold Proofs.YtandblanpafjoabGreatDoor.againAll
    rw [b.players]
    refine (ih.againTo k n).mono ?_ (Nat.le_refl _) (Nat.le_refl _)
    rw [if_pos (by omega), Nat.succ_mul, ← Nat.add_assoc]
    exact Nat.le_refl _
theorem Bd.take {m : NetM} {n s t h : Nat} (b : Bd m n s t h) (p : Nat) (l : List Int) : Bd (m.take p l).2 n s t (h + 1) := by
  have h1 := take_net m p l
  have h2 : (m.take p l).2.now = m.now := by unfold NetM.take; split <;> rfl
  refine ⟨h1.1.trans b.players, by rw [h1.2.1]; exact b.sent, by rw [h2]; exact b.now, fun q => ?_⟩
  have h3 := b.drop q
  have h4 := h1.2.2.2 q
  rw [h1.2.1, h1.2.2.1]; omega
theorem Bd.come : ∀ k (m : NetM) {n s t h : Nat}, Bd m n s t h → Bd (comeM k m) n s t h
  | 0, m, n, s, t, h, b => b
  | k + 1, m, n, s, t, h, b => by
    simp only [comeM]
    split
    · exact b
    · rename_i hne
      split
      · exact b
      · apply Bd.come k
        have hl : firstM m.flights < m.flights.length := firstM_lt _ hne
        have h1 := take_net ({ m with flights := m.flights.eraseIdx (firstM m.flights) } : NetM) (m.flights.getD (firstM m.flights) fly0).to (m.flights.getD (firstM m.flights) fly0).bytes
        have h2 : (({ m with flights := m.flights.eraseIdx (firstM m.flights) } : NetM).take (m.flights.getD (firstM m.flights) fly0).to (m.flights.getD (firstM m.flights) fly0).bytes).2.now = m.now := by unfold NetM.take; split <;> rfl
        refine ⟨h1.1.trans b.players, by rw [h1.2.1]; exact b.sent, by rw [h2]; exact b.now, fun q => ?_⟩
        have h3 := b.drop q
        have h4 := h1.2.2.2 q
        have h5 : (({ m with flights := m.flights.eraseIdx (firstM m.flights) } : NetM).peers q).dropped = (m.peers q).dropped := rfl
        rw [h1.2.1, h1.2.2.1]
        show _ + (m.flights.eraseIdx (firstM m.flights)).length ≤ m.sent + h
        rw [List.length_eraseIdx_of_lt hl]
        omega
theorem Bd.tick {m : NetM} {n s t h : Nat} (b : Bd m n s t h) (hn : n ≤ 4) : Bd m.tick n (s + 12) (t + 1) h := by
  have b1 : Bd { m with now := m.now + 1 } n s (t + 1) h := ⟨b.players, b.sent, by show m.now + 1 ≤ t + 1; have := b.now; omega, b.drop⟩
  have b2 := Bd.come m.flights.length _ b1
  have e : m.tick = Proofs.YtandblanpafjoabGreatDoor.againAll (comeM m.flights.length { m with now := m.now + 1 }) (comeM m.flights.length { m with now := m.now + 1 }).players := rfl
  rw [e, b2.players]
  refine (b2.againAll n (Nat.le_refl _)).mono ?_ (Nat.le_refl _) (Nat.le_refl _)
  have : n * (n - 1) ≤ 12 := by
    rcases n with _ | _ | _ | _ | _ | n <;> omega
  omega
theorem Bd.adv {m : NetM} {n s t h : Nat} (b : Bd m n s t h) (hn : n ≤ 4) (p : Nat) (v : Int) : Bd (m.advance p v).2 n (s + 12) t h := by
  unfold NetM.advance
  split
  · exact b.mono (by omega) (Nat.le_refl _) (Nat.le_refl _)
  · split
    · exact b.mono (by omega) (Nat.le_refl _) (Nat.le_refl _)
    · have b1 : Bd (m.stepped p v) n s t h := ⟨b.players, b.sent, b.now, fun q => by rw [stepped_dropped]; exact b.drop q⟩
      exact (b1.sendTo p m.players).mono (by rw [b.players]; omega) (Nat.le_refl _) (Nat.le_refl _)
end Go.Proofs.YtandblanpafjoabGreatDoor

namespace Go.Proofs.YtandblanpafjoabGreatDoor
open Go.RowKit Go.Extern.Stop Go.Stop Go.Extern

/-! Making what a peer has: rings. -/
theorem Tryz.infoIn3 : (Tryz.prog.info? 187).map (fun i => (i.zero, i.size, i.bytes)) = some (some (.agg (nums .u8 Z4u)), 4, 4) := by kernel_rfl
theorem Tryz.infoMem3 : (Tryz.prog.info? 106).map (fun i => (i.zero, i.size, i.bytes)) = some (some (.agg (nums .u8 Z288)), 288, 288) := by kernel_rfl
theorem Tryz.infoPg3 : (Tryz.prog.info? 248).map (fun i => (i.zero, i.size, i.bytes)) = some (some (.map none), 1, 8) := by kernel_rfl
theorem made_row (t e : TypeId) (z : Value) (s b : Nat) (hu : Tryz.prog.underlying t = some (.slice e)) (hi : (Tryz.prog.info? e).map (fun i => (i.zero, i.size, i.bytes)) = some (some z, s, b)) (hb : b ≤ 1000) (n : Nat) (hn : n ≤ 1000) :
    ∃ C : Array Value, C.size = n * s ∧ ∀ W : World, (Instr.makeSlice t (.int .i64 (n : Int)) (.int .i64 (n : Int))).run Tryz.prog W = .ok (.slice (some ⟨W.heap.size, 0, none⟩) n n) (W.alloc (.cells C e)) := by
  obtain ⟨i8, hi8, hz0, hz1, hz2⟩ := info_parts hi
  refine ⟨madeCells z.cells (n * s), size_madeCells _ _, fun W => ?_⟩
  have hbb : (i8.bytes : Int) * (n : Int) ≤ 281474976710656 := by
    rw [hz2]
    have h1 : b * n ≤ 1000 * 1000 := Nat.mul_le_mul hb hn
    rw [← Int.natCast_mul]
    generalize b * n = q at *
    omega
  rw [run_make W t e i8 z hu hi8 hz0 .i64 .i64 (n : Int) (n : Int) (by omega) (Int.le_refl _) hbb (by omega), hz1]
  simp

theorem Tryz.sizeInR : (Tryz.prog.info? 225).map (·.size) = some 1 := by kernel_rfl
set_option maxHeartbeats 800000 in
theorem ringIn_any (n : Nat) (w : World) (hn : n ≤ 1000) :
    Calls Tryz.prog 111 #[.int .i64 (n : Int)] w fun e w' => ∃ g, e = .returned (.agg #[.slice (some ⟨g, 0, none⟩) n n]) ∧ w.heap.size ≤ g ∧ (∃ C, Blk w' g C 187 ∧ C.size = n * 4) ∧ Below w.heap.size w w' := by
  obtain ⟨C, hC, hmk⟩ := made_row 223 187 _ 4 4 Tryz.underlying223 Tryz.infoIn3 (by omega) n hn
  go_enter Tryz.func111, Tryz.ntmps111
  go_wp2
  have hb := (Blk.new w #[.slice (some ⟨w.heap.size + 1, 0, none⟩) n n] 225).alloc (.cells C 187)
  refine bodyPost_ret (v := .agg #[.slice (some ⟨w.heap.size + 1, 0, none⟩) n n]) ?_ rfl ⟨w.heap.size + 1, rfl, by omega, ⟨C, ?_, hC⟩, ((Below.refl _ w).alloc (Nat.le_refl _) _).alloc (by simp) _⟩
  · exact results_cell_row Tryz.results111 _ _ w.heap.size 225 _ (0, 0) _ rfl hb Tryz.underlying225 rfl Tryz.sizeInR
  · have := Blk.new (w.alloc (.cells #[.slice (some ⟨w.heap.size + 1, 0, none⟩) n n] 225)) C 187
    simpa using this

theorem Tryz.sizeMemR : (Tryz.prog.info? 254).map (·.size) = some 1 := by kernel_rfl
set_option maxHeartbeats 800000 in
theorem ringMem_any (n : Nat) (w : World) (hn : n ≤ 1000) :
    Calls Tryz.prog 126 #[.int .i64 (n : Int)] w fun e w' => ∃ g, e = .returned (.agg #[.slice (some ⟨g, 0, none⟩) n n]) ∧ w.heap.size ≤ g ∧ (∃ C, Blk w' g C 106 ∧ C.size = n * 288) ∧ Below w.heap.size w w' := by
  obtain ⟨C, hC, hmk⟩ := made_row 252 106 _ 288 288 Tryz.underlying252 Tryz.infoMem3 (by omega) n hn
  go_enter Tryz.func126, Tryz.ntmps126
  go_wp2
  have hb := (Blk.new w #[.slice (some ⟨w.heap.size + 1, 0, none⟩) n n] 254).alloc (.cells C 106)
  refine bodyPost_ret (v := .agg #[.slice (some ⟨w.heap.size + 1, 0, none⟩) n n]) ?_ rfl ⟨w.heap.size + 1, rfl, by omega, ⟨C, ?_, hC⟩, ((Below.refl _ w).alloc (Nat.le_refl _) _).alloc (by simp) _⟩
  · exact results_cell_row Tryz.results126 _ _ w.heap.size 254 _ (0, 0) _ rfl hb Tryz.underlying254 rfl Tryz.sizeMemR
  · have := Blk.new (w.alloc (.cells #[.slice (some ⟨w.heap.size + 1, 0, none⟩) n n] 254)) C 106
    simpa using this

theorem Tryz.sizePgR : (Tryz.prog.info? 245).map (·.size) = some 1 := by kernel_rfl
set_option maxHeartbeats 800000 in
theorem ringPg_any (n : Nat) (w : World) (hn : n ≤ 1000) :
    Calls Tryz.prog 124 #[.int .i64 (n : Int)] w fun e w' => ∃ g, e = .returned (.agg #[.slice (some ⟨g, 0, none⟩) n n]) ∧ w.heap.size ≤ g ∧ (∃ C, Blk w' g C 248 ∧ C.size = n * 1) ∧ Below w.heap.size w w' := by
  obtain ⟨C, hC, hmk⟩ := made_row 243 248 _ 1 8 Tryz.underlying243 Tryz.infoPg3 (by omega) n hn
  go_enter Tryz.func124, Tryz.ntmps124
  go_wp2
  have hb := (Blk.new w #[.slice (some ⟨w.heap.size + 1, 0, none⟩) n n] 245).alloc (.cells C 248)
  refine bodyPost_ret (v := .agg #[.slice (some ⟨w.heap.size + 1, 0, none⟩) n n]) ?_ rfl ⟨w.heap.size + 1, rfl, by omega, ⟨C, ?_, hC⟩, ((Below.refl _ w).alloc (Nat.le_refl _) _).alloc (by simp) _⟩
  · exact results_cell_row Tryz.results124 _ _ w.heap.size 245 _ (0, 0) _ rfl hb Tryz.underlying245 rfl Tryz.sizePgR
  · have := Blk.new (w.alloc (.cells #[.slice (some ⟨w.heap.size + 1, 0, none⟩) n n] 245)) C 248
    simpa using this

/-! Parts laid into a struct. -/
theorem fold_put : ∀ (l : List Value) (off k : Nat) (z : Array Value), (l.zipIdx k).foldl (fun a (p : Value × Nat) => a.setIfInBounds (off + p.2) p.1) z = putA z (off + k) l
  | [], _, _, _ => rfl
  | v :: l, off, k, z => by
    rw [List.zipIdx_cons, List.foldl_cons, fold_put l off (k + 1) _]
    rfl
theorem fill_cons (place : Nat → Option (Nat × Nat)) (cells : Array Value) (i off size : Nat) (v : Value) (rest : List (Nat × Value)) (hp : place i = some (off, size)) (hs : v.cells.size = size) (hb : off + size ≤ cells.size) : Instr.fill place cells ((i, v) :: rest) = Instr.fill place (putA cells off v.cells.toList) rest := by
  rw [Instr.fill]
  simp only [hp]
  rw [if_neg (by simp [hs]; omega)]
  congr 1
  have := fold_put v.cells.toList off 0 cells
  rw [Nat.add_zero] at this
  rw [← this, ← Array.foldl_toList]
  congr 1
  simp
theorem build_struct (w : World) (t : TypeId) (fields : Array Field) (it : TypeInfo) (z : Value) (places : List (Nat × Nat)) (parts : Array (Nat × Value)) (res : Array Value) (hi : Tryz.prog.info? t = some it) (hz : it.zero = some z) (hu : Tryz.prog.underlying t = some (.struct fields))
    (hp : fields.toList.mapM (fun f => (Tryz.prog.info? f.type).map fun i => (f.offset, i.size)) = some places) (hf : Instr.fill (places.toArray[·]?) z.cells parts.toList = some res) : (Instr.build t parts).run Tryz.prog w = .ok (.agg res) w := by
  refine run_build w t parts res ?_
  unfold Program.built
  simp only [hi, hu, hz, hp]
  exact hf
end Go.Proofs.YtandblanpafjoabGreatDoor

