import Derived.Test.YtandblanpafjoabGreatDoorNetC
namespace Go.Proofs.YtandblanpafjoabGreatDoor
open Go.RowKit Go.Extern.Stop Go.Stop Go.Extern

/-! A peer goes on: its packets to all the others. -/
theorem StoreAt.clip {w : World} {st : Value} {F : Nat → Prop} {n win lo frame : Nat} {fs : Nat → List Int} (h : StoreAt w st F n win lo frame fs) : StoreAt w st (fun k => F k ∧ k < w.heap.size) n win lo frame fs := by
  rcases h with ⟨sb, pb, rb, e, h⟩ | ⟨sb, pb, rb, mb, e, h⟩
  · exact .inl ⟨sb, pb, rb, e, h.blk, h.pl, h.st, h.ne1, h.ne2, h.ne3, ⟨h.f1, h.blk.lt⟩, ⟨h.f2, h.pl.lt⟩, ⟨h.f3, h.st.lt⟩⟩
  · have hr : rb < w.heap.size := by obtain ⟨t, ht⟩ := h.ring; exact ht.lt
    exact .inr ⟨sb, pb, rb, mb, e, h.blk, h.pl, h.ring, h.maps, h.past, h.next, h.inj, fun i hi => ⟨(h.far i hi).1, (h.far i hi).2.1, (h.far i hi).2.2.1, (h.far i hi).2.2.2, by obtain ⟨M, hM⟩ := h.maps i hi; exact hM.lt⟩, h.ne1, h.ne2, h.ne3, ⟨h.f1, h.blk.lt⟩, ⟨h.f2, h.pl.lt⟩, ⟨h.f3, hr⟩⟩
theorem PeerAt.clip {w : World} {b : Nat} {F FS : Nat → Prop} {num n win delay : Nat} {x : PeerM} {v : Nat → Value} {st : Value} (h : PeerAt w b F FS num n win delay x v st) : PeerAt w b (fun k => F k ∧ k < w.heap.size) (fun k => FS k ∧ k < w.heap.size) num n win delay x v st :=
  ⟨⟨h.blk, h.known, h.nils, h.lens, ⟨h.fb, h.blk.lt⟩, fun q k hq hk => ⟨⟨(h.fk q k hq hk).1, ((h.known q hq).lt k hk).2⟩, (h.fk q k hq hk).2.1, fun e => (h.fk q k hq hk).2.2 e.1⟩, h.fd, fun k hk => ⟨⟨(h.fs k hk.1).1, hk.2⟩, (h.fs k hk.1).2⟩, h.hn2, h.hn4, h.hw, h.hnum, h.drop⟩, h.store.clip, h.ok⟩
theorem NetQ.peer {w w' : World} {g p : Nat} {pv : Value} {pb : Nat → Nat} {F : Nat → Prop} {m : NetM} {lv wv : Value} {bl : Nat → Nat} {l : List FlyM} {Fp : Nat → Nat → Prop} (hN : NetP w g pv lv wv bl l pb Fp m) (hF : ∀ k, F k ↔ Foot g pv lv wv bl Fp m k) (hp : p < m.players) (hC : Chg (Fp p) w w') {F' FS' : Nat → Prop} {x' : PeerM} {v' : Nat → Value} {st' : Value}
    (hP : PeerAt w' (pb p) F' FS' p m.players m.window m.delay x' v' st') (hF' : ∀ k, F' k → Fp p k ∨ w.heap.size ≤ k) : Chg F w w' ∧ ∃ F1, NetQ w' g pv pb F1 (m.put p x') ∧ ∀ k, F1 k → F k ∨ w.heap.size ≤ k :=
  ⟨hC.mono (fun k _ e => (hF k).2 (.inr (.inr ⟨p, hp, e⟩))), _, ⟨lv, wv, bl, l, _, hN.peer hp hC hP.clip (fun k hk => hF' k hk.1) (fun _ hk => hk.2), fun _ => Iff.rfl⟩, fun k hk => (NetP.footPeer (w := w) hp (F' := fun k => F' k ∧ k < w'.heap.size) (fun k hk => hF' k hk.1) k hk).imp (fun h => (hF k).2 h) id⟩
theorem sendTo_sent (n : NetM) (p : Nat) : ∀ k, (sendTo n p k).sent ≤ n.sent + k
  | 0 => Nat.le_refl _
  | k + 1 => by
    have := sendTo_sent n p k
    simp only [sendTo]
    split
    · omega
    · simp only [NetM.send]; omega

set_option maxRecDepth 10000 in
set_option maxHeartbeats 1600000 in
theorem nadvance_yes (g p : Nat) (i : Int) (pv : Value) (pb : Nat → Nat) (F : Nat → Prop) (m : NetM) (w : World) (h : NetQ w g pv pb F m) (hp : p < m.players) (hi : 0 ≤ i ∧ i ≤ 255) (hs : m.sent + 4 ≤ 900000) (hnow : m.now ≤ 900000) (he : (m.peers p).frame < 200) (hst : (m.peers p).frame < m.conf p + m.window) :
    Calls Tryz.prog 36 #[.pointer (some ⟨g, 0, none⟩), .int .i64 (p : Int), .int .u8 i] w fun e w' => e = .returned .nilIface ∧ Chg F w w' ∧ ∃ F', NetQ w' g pv pb F' (sendTo (m.stepped p i) p m.players) ∧ ∀ k, F' k → F k ∨ w.heap.size ≤ k := by
  have HN := hide h
  go_enter Tryz.func36, Tryz.ntmps36
  go_wp2_with fail
  refine (npeer_yes g p pv pb F m w h hp).mono ?_
  clear h
  rintro e w1 ⟨rfl, rfl⟩
  go_wp2_with fail
  obtain ⟨lv, wv, bl, l, Fp, hN, hF⟩ := unhide HN
  obtain ⟨FS, v, st, hP⟩ := hN.peers p hp
  refine (padvance_yes (pb p) p m.players m.window m.delay i (Fp p) FS (m.peers p) v st w1 hP hi (fun k hk => (hN.plt p k hp hk).1) he hst).mono ?_
  rintro e w2 ⟨rfl, hC, F', FS', v', hF', hP'⟩
  obtain ⟨hC2, F1, hQ1, hF1⟩ := NetQ.peer hN hF hp hC hP' hF'
  have hQ2 : NetQ w2 g pv pb F1 (m.stepped p i) := hQ1
  have hak : ∀ q, q < m.players → (stepM (m.peers p) p i).acked q < ((stepM (m.peers p) p i).known p).length := fun q hq => by
    have := hP.ok.ack q hq
    rw [stepM_known, if_pos rfl]
    simp only [stepM, PeerM.learn, List.length_append, List.length_cons, List.length_nil]
    omega
  obtain ⟨rb, cap, epv, c0, _, hn2, hn4⟩ := hQ2.parts
  have hpl : (m.stepped p i).players = m.players := rfl
  rw [hpl] at epv hn2 hn4
  have c0' : w2.cell? ⟨g, 0, none⟩ = some (.slice (some ⟨rb, 0, none⟩) m.players cap) := by rw [← epv]; exact c0
  have H2 := hide (And.intro hC2 (And.intro hQ2 (And.intro hF1 hak)))
  clear hN hF hP hC hP' hF' hC2 hQ1 hQ2 hF1 c0 hak hpl
  go_wp2_with fail
  clear c0'
  go_loopw [31] (fun s wr => ∃ (k : Nat) (F2 : Nat → Prop), k ≤ m.players ∧ s = .int .i64 (k : Int) ∧ NetQ wr g pv pb F2 (sendTo (m.stepped p i) p k) ∧ (∀ j, F2 j → F j ∨ w1.heap.size ≤ j) ∧ Chg F w1 wr) (fun s _ => m.players - (intOf s).toNat)
  case atStart =>
    obtain ⟨hC2, hQ2, hF1, _⟩ := unhide H2
    exact ⟨0, F1, by omega, rfl, hQ2, hF1, hC2⟩
  case round =>
    obtain ⟨k, F2, hk, rfl, hQ, hF2, hCr⟩ := hrel
    have HQ := hide (And.intro hQ (And.intro hF2 hCr))
    clear hQ hF2 hCr
    by_cases hlt : k < m.players
    · have hd : decide (k < m.players) = true := by simp; omega
      have hadd := i64_id ((k : Int) + 1) (by omega) (by omega)
      by_cases hkp : k = p
      · have hne : ((k : Int) != (p : Int)) = false := by simp [hkp]
        have HK := hide hkp
        clear hkp
        go_wp2
        obtain ⟨hQ, hF2, hCr⟩ := unhide HQ
        refine ⟨⟨k + 1, F2, by omega, by go_num, ?_, hF2, hCr⟩, by simp [intOf]; omega⟩
        simp only [sendTo, if_pos (unhide HK)]
        exact hQ
      · have hne : ((k : Int) != (p : Int)) = true := by simp; omega
        have HK := hide hkp
        clear hkp
        go_wp2_with fail
        refine wp_region_noPanic ?_
        refine wp_held_reads 6 (fun _ => True) (by kernel_rfl) (by simp) (by kernel_rfl) (by kernel_rfl) (fun _ _ _ _ _ h => h) trivial ?_
        simp only [List.take_succ_cons, List.take_zero]
        refine wpHeld_op ?y0 rfl ?z0 ?_
        case z0 => intro w' _; go_simp; rfl
        refine wpHeld_op ?y1 rfl ?z1 ?_
        case z1 => intro w' _; go_simp; rfl
        refine wpHeld_op ?y2 rfl ?z2 ?_
        case z2 => intro w' _; go_simp; rfl
        refine wpHeld_op ?y3 rfl ?z3 ?_
        case z3 => intro w' _; go_simp; rfl
        refine wpHeld_op ?y4 rfl ?z4 ?_
        case z4 => intro w' _; go_simp; rfl
        refine wpHeld_op ?y5 rfl ?z5 ?_
        case z5 => intro w' _; go_simp; rfl
        unfold wpHeld
        refine wpAnyH_all (rs := [6]) (by kernel_rfl) (by simp) ?_
        intro j hj
        obtain rfl : j = 6 := by simpa using hj
        refine wpOp_of_list _ rfl rfl ?_
        go_wp2_with fail
        have hpe : (sendTo (m.stepped p i) p k).peers p = stepM (m.peers p) p i := by
          rw [(sendTo_same (m.stepped p i) p k).2.1]; simp [NetM.stepped, NetM.put, stepM]
        have hsm := sendTo_same (m.stepped p i) p k
        have hplk : (sendTo (m.stepped p i) p k).players = m.players := hsm.1
        have hQd : NetQ wr.drew g pv pb F2 (sendTo (m.stepped p i) p k) := (unhide HQ).1.same (fun _ _ => rfl)
        have hpk : ∃ Fp3 FS3 v3 st3, PeerAt wr.drew (pb p) Fp3 FS3 p m.players m.window m.delay (stepM (m.peers p) p i) v3 st3 := by
          obtain ⟨lv3, wv3, bl3, l3, Fp3, hN3, hF3⟩ := hQd
          obtain ⟨FS3, v3, st3, hP3⟩ := hN3.peers p (by rw [hplk]; exact hp)
          rw [hpe, hplk, hsm.2.2.2.1, hsm.2.2.2.2.1] at hP3
          exact ⟨Fp3 p, FS3, v3, st3, hP3⟩
        obtain ⟨Fp3, FS3, v3, st3, hP3⟩ := hpk
        refine (packet_any (pb p) p m.players m.window m.delay k Fp3 FS3 (stepM (m.peers p) p i) v3 st3 wr.drew hP3.toPeerK hlt ((unhide H2).2.2.2 k hlt)).mono ?_
        rintro e w5 ⟨g5, rfl, hg5, hB5, hb5⟩
        have hin := packM_in hP3.ok hn4 hp hlt
        clear hP3
        go_wp2_with fail
        refine ⟨trivial, ?_⟩
        refine wpAnyH_all (rs := [7]) (by kernel_rfl) (by simp) ?_
        intro j hj
        obtain rfl : j = 7 := by simpa using hj
        refine wpOp_of_list _ rfl rfl ?_
        go_wp2_with fail
        have hss := sendTo_sent (m.stepped p i) p k
        have hss2 : (m.stepped p i).sent = m.sent := rfl
        have hnn : (sendTo (m.stepped p i) p k).now = m.now := hsm.2.2.1
        refine (nsend_any g pv pb F2 (sendTo (m.stepped p i) p k) wr.drew w5 hQd hb5 g5 k (packM (stepM (m.peers p) p i) p k) hB5 hg5 (by rw [hplk]; exact hlt) (by omega) hin.2 (by omega) (by omega)).mono ?_
        rintro e w6 ⟨rfl, hC6, F6, hQ6, hF6⟩
        have H6 := hide (And.intro hC6 (And.intro hQ6 hF6))
        clear hC6 hQ6 hF6 hQd hB5 hb5 hin
        go_wp2_with fail
        refine ⟨trivial, ⟨by kernel_rfl, ?_⟩⟩
        refine NoPanic.normal ?_
        go_wp2
        obtain ⟨hQ, hF2, hCr⟩ := unhide HQ
        obtain ⟨hC6, hQ6, hF6⟩ := unhide H6
        have hzr := hCr.size
        have hdz : wr.drew.heap.size = wr.heap.size := rfl
        refine ⟨⟨k + 1, F6, by omega, by go_num, ?_, fun j hj => ?_, ?_⟩, by simp [intOf]; omega⟩
        · simp only [sendTo, if_neg (unhide HK)]
          rw [send_put1, hpe]
          exact hQ6
        · rcases hF6 j hj with e | e
          · exact hF2 j e
          · right; omega
        · exact (hCr.trans (Chg.drew F wr) (fun _ _ h => h)).trans hC6 (fun j hj e => by
            rcases hF2 j e with e | e
            · exact e
            · omega)
    · have hd : decide (k < m.players) = false := by simp; omega
      have hke : k = m.players := by omega
      have HK := hide hke
      clear hke
      go_wp2
      go_ret
      obtain ⟨hQ, hF2, hCr⟩ := unhide HQ
      rw [unhide HK] at hQ
      exact ⟨rfl, hCr, F2, hQ, hF2⟩
end Go.Proofs.YtandblanpafjoabGreatDoor
