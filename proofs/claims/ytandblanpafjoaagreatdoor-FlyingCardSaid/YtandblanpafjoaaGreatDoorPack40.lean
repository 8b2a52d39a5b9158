import Derived.Test.YtandblanpafjoaaGreatDoorPack39
namespace Go.Proofs.YtandblanpafjoaaGreatDoor
open Go.RowKit Go.Extern.Stop Go.Stop Go.Extern
theorem rtake_any (nb p b o n' c : Nat) (l : List Int) (ro : Nat → RR) (m : NetM) (w : World) (h : RNetAt w ro nb m) (hp : p < m.players) (hok : POk (m.peers p) p m.players m.window m.delay) (hd : (m.peers p).dropped + 1 ≤ 1000000000) (hl : l.length = n') (hn : n' ≤ 70000) (hcap : n' ≤ c) (hr : ∀ j : Nat, 0 ≤ l.getD j 0 ∧ l.getD j 0 ≤ 255) (hc : ∀ j, j < n' → w.cell? ⟨b, o + j, none⟩ = some (.int .u8 (l.getD j 0))) (hbl : b < w.heap.size) :
    Calls Tryz.prog 37 #[.pointer (some ⟨nb, 0, none⟩), .int .i64 (p : Int), .slice (some ⟨b, o, none⟩) n' c] w fun e w' => e = .returned (.bool (m.take p l).1) ∧ ∃ ro', RNetAt w' ro' nb (m.take p l).2 ∧ RTo w ro w' ro' := by
  by_cases hy : m.takes p l
  · exact rtake_yes nb p b o n' c l ro m w h hp hok hl hn hcap hr hc hbl hy
  · exact rtake_no nb p b o n' c l ro m w h hp hok hd hl hn hcap hr hc hbl hy
structure ROk (m : NetM) : Prop where
  ok : ∀ p, p < m.players → POk (m.peers p) p m.players m.window m.delay
  lags : ∀ x ∈ m.lags, -1 ≤ x ∧ x ≤ 20
  fly : ∀ f ∈ m.flights, f.to < m.players ∧ f.bytes.length ≤ 70000 ∧ ∀ j : Nat, 0 ≤ f.bytes.getD j 0 ∧ f.bytes.getD j 0 ≤ 255
  n4 : m.players ≤ 4
theorem NetQ.rok {w : World} {g : Nat} {pv : Value} {pb : Nat → Nat} {F : Nat → Prop} {m : NetM} (h : NetQ w g pv pb F m) : ROk m := by
  obtain ⟨lv, wv, bl, l, Fp, hN, _⟩ := h
  exact ⟨fun p hp => by obtain ⟨FS, v, st, hP⟩ := hN.peers p hp; exact hP.ok, hN.lags, hN.fly, hN.hp.2⟩
theorem ROk.put {m : NetM} (h : ROk m) (p : Nat) (x : PeerM) (hx : p < m.players → POk x p m.players m.window m.delay) : ROk (m.put p x) := by
  refine ⟨fun i hi => ?_, h.lags, h.fly, h.n4⟩
  by_cases e : i = p
  · subst e; rw [mput_at]; exact hx hi
  · rw [mput_ne m p i x e]; exact h.ok i hi
theorem ROk.take {m : NetM} (h : ROk m) (p : Nat) (l : List Int) (hr : ∀ j : Nat, 0 ≤ l.getD j 0 ∧ l.getD j 0 ≤ 255) : ROk (m.take p l).2 := by
  unfold NetM.take
  split
  · next hy =>
    obtain ⟨hOk, y1, y2, y3, y4, y5⟩ := hy
    have hg := hOk.2
    have f0 := hg.1.1
    have f1 := hg.2.1.1
    have f2 := hg.2.2.1.1
    exact h.put p _ (fun hp => (h.ok p hp).taken (by omega) (by omega) (by omega) (by omega) (by omega) (inputsL_rng hr))
  · exact h.put p _ (fun hp => (h.ok p hp).drop _)
theorem ROk.fewer {m : NetM} (h : ROk m) (l : List FlyM) (hl : ∀ f ∈ l, f ∈ m.flights) : ROk { m with flights := l } := ⟨h.ok, h.lags, fun f hf => h.fly f (hl f hf), h.n4⟩
theorem ROk.later {m : NetM} (h : ROk m) (t : Nat) : ROk { m with now := t } := ⟨h.ok, h.lags, h.fly, h.n4⟩
theorem ROk.send {m : NetM} (h : ROk m) (p q : Nat) (hp : p < m.players) (hq : q < m.players) : ROk (m.send p q) := by
  refine ⟨h.ok, h.lags, fun f hf => ?_, h.n4⟩
  have hf' : f ∈ (if 0 ≤ m.lag then m.flights ++ [{ «to» := q, due := m.now + m.lag.toNat, num := m.sent, bytes := packM (m.peers p) p q }] else m.flights) := hf
  split at hf'
  · rcases List.mem_append.1 hf' with e | e
    · exact h.fly f e
    · simp only [List.mem_singleton] at e
      subst e
      have := packM_in (h.ok p hp) h.n4 hp hq
      exact ⟨hq, by have := this.1; show (packM (m.peers p) p q).length ≤ 70000; omega, this.2⟩
  · exact h.fly f hf'
theorem ROk.againTo {m : NetM} (h : ROk m) (p : Nat) (hp : p < m.players) : ∀ k, k ≤ m.players → ROk (againTo m p k) ∧ (Proofs.YtandblanpafjoaaGreatDoor.againTo m p k).players = m.players
  | 0, _ => ⟨h, rfl⟩
  | k + 1, hk => by
    obtain ⟨ih, ip⟩ := ROk.againTo h p hp k (by omega)
    unfold Proofs.YtandblanpafjoaaGreatDoor.againTo
    split
    · exact ⟨ih.send p k (by omega) (by omega), ip⟩
    · exact ⟨ih, ip⟩
theorem ROk.againAll {m : NetM} (h : ROk m) : ∀ k, k ≤ m.players → ROk (againAll m k) ∧ (Proofs.YtandblanpafjoaaGreatDoor.againAll m k).players = m.players
  | 0, _ => ⟨h, rfl⟩
  | k + 1, hk => by
    obtain ⟨ih, ip⟩ := ROk.againAll h k (by omega)
    unfold Proofs.YtandblanpafjoaaGreatDoor.againAll
    obtain ⟨h1, h2⟩ := ROk.againTo ih k (by omega) m.players (by omega)
    exact ⟨h1, h2.trans ip⟩
theorem RNet.later {w : World} {ro : Nat → RR} {nb : Nat} {m : NetM} {L : RLoc} (h : RNet w ro nb m L) (t : Nat) : RNet (w.setCell ⟨nb, 7, none⟩ (.int .i64 (t : Int))) ro nb { m with now := t } L := by
  have K : Keep ro ro (fun r => r = .net) w (w.setCell ⟨nb, 7, none⟩ (.int .i64 (t : Int))) := fun k _ hr => ⟨rfl, fun hn => heap_setCell_other _ _ _ _ (fun e => hn (by rw [e]; exact h.net.2))⟩
  have hz : w.heap.size ≤ (w.setCell ⟨nb, 7, none⟩ (.int .i64 (t : Int))).heap.size := by simp
  exact { n2 := h.n2, n4 := h.n4, lt := fun k hk => Nat.lt_of_lt_of_le (h.lt k hk) hz, net := ⟨by have := h.net.1.set 7 (.int .i64 (t : Int)); simpa [rnC] using this, h.net.2⟩, lags := K.own h.lags (by simp) (by simp), peers := K.own h.peers (by simp) (by simp), peer := fun p hp => K.blk (h.peer p hp) (by simp) (by simp), known := fun p hp => K.own (h.known p hp) (by simp) (by simp), acked := fun p hp => K.blk (h.acked p hp) (by simp) (by simp), list := fun p q hp hq => K.own (h.list p q hp hq) (by simp) (by simp), fls := K.own h.fls (by simp) (by simp), bytes := fun f hf => K.byt hz (h.bytes f hf) (by simp), nums := h.nums }
theorem RNet.fewer {w w3 : World} {ro : Nat → RR} {nb : Nat} {m : NetM} {L : RLoc} {v : Value} {l : List FlyM} (h : RNet w ro nb m L) (hsub : ∀ f ∈ l, f ∈ m.flights) (hb : Below w.heap.size w w3) (ho : w3.ownsRow w.heap.size 76 4 v l.length (rfls L l)) :
    RNet (w3.setCell ⟨nb, 6, none⟩ v) (fun k => if v.ownBlock = some k then .fls else ro k) nb { m with flights := l } { L with flv := v } ∧ RTo w ro (w3.setCell ⟨nb, 6, none⟩ v) (fun k => if v.ownBlock = some k then .fls else ro k) := by
  have hnew : ∀ k, k < w.heap.size → ¬ v.ownBlock = some k := fun k hk e => by have := (ho.lt k e).1; omega
  have hz : w.heap.size ≤ (w3.setCell ⟨nb, 6, none⟩ v).heap.size := by simpa using hb.size
  have hnl := h.net.1.lt
  have K : Keep ro (fun k => if v.ownBlock = some k then .fls else ro k) (fun r => r = .net) w (w3.setCell ⟨nb, 6, none⟩ v) := fun k hk hr => ⟨if_neg (hnew k hk), fun hn => (heap_setCell_other _ _ _ _ (fun e => hn (by rw [e]; exact h.net.2))).trans (hb.block k hk)⟩
  refine ⟨{ n2 := h.n2, n4 := h.n4, lt := fun k hk => ?_, net := ⟨?_, (if_neg (hnew nb hnl)).trans h.net.2⟩, lags := K.own h.lags (by simp) (by simp), peers := K.own h.peers (by simp) (by simp), peer := fun p hp => K.blk (h.peer p hp) (by simp) (by simp), known := fun p hp => K.own (h.known p hp) (by simp) (by simp), acked := fun p hp => K.blk (h.acked p hp) (by simp) (by simp), list := fun p q hp hq => K.own (h.list p q hp hq) (by simp) (by simp), fls := ⟨?_, fun k hk => if_pos hk⟩, bytes := fun f hf => K.byt hz (h.bytes f (hsub f hf)) (by simp), nums := fun f hf => h.nums f (hsub f hf) }, ⟨⟨hb.os, hb.tape, hb.output, hz, fun k hk hF => (heap_setCell_other _ _ _ _ (fun e => hF (by rw [e, h.net.2]; simp))).trans (hb.block k hk)⟩, fun k hk hk2 => by rw [if_neg (hnew k hk)] at hk2; exact hk2⟩⟩
  · by_cases e : v.ownBlock = some k
    · have := (ho.lt k e).2; simpa using this
    · rw [if_neg e] at hk
      have := h.lt k hk
      omega
  · have h1 : Blk w3 nb (rnC L m) 73 := (hb.block nb hnl).trans h.net.1
    have := h1.set 6 v
    simpa [rnC] using this
  · exact owns_base (owns_same ho (fun k hk => heap_setCell_other _ _ _ _ (fun e => by have h1 := (ho.lt k hk).1; have h2 : k = nb := e; omega))) (Nat.zero_le _)
end Go.Proofs.YtandblanpafjoaaGreatDoor

namespace Go.Proofs.YtandblanpafjoaaGreatDoor
open Go.RowKit Go.Extern.Stop Go.Stop Go.Extern
theorem Tryz.zeroRFl (w : World) : (zeroValue 76).run Tryz.prog w = .ok (.agg #[.int .i64 0, .int .i64 0, .int .i64 0, .slice none 0 0]) w := by kernel_rfl
theorem rfl_range {w : World} {base g cap : Nat} {L : RLoc} {l : List FlyM} (h : w.ownsRow base 76 4 (.slice (some ⟨g, 0, none⟩) l.length cap) l.length (rfls L l)) (i : Nat) (hi : i < l.length) : w.rangeAt g (i * 4) (rflC L (fl l i)) := fun j u hu => by
  have hj : j < 4 := by have := (List.getElem?_eq_some_iff.1 hu).1; rwa [rflC_len] at this
  exact (rfls_cell h i j hi hj).trans hu
set_option maxRecDepth 10000 in
set_option maxHeartbeats 8000000 in
theorem rtick_any (nb s t u : Nat) (ro : Nat → RR) (m : NetM) (w : World) (h : RNetAt w ro nb m) (hok : ROk m) (hbd : Bd m m.players s t u) (hs : s + 12 ≤ 900000) (ht : t + 1 ≤ 900000) (hu : s + u + 12 ≤ 1000000) :
    Calls Tryz.prog 16 #[.pointer (some ⟨nb, 0, none⟩)] w fun e w' => e = .returned (.tuple #[]) ∧ ∃ ro', RNetAt w' ro' nb m.tick ∧ RTo w ro w' ro' := by
  obtain ⟨L, h⟩ := h
  have hn4 := h.n4
  have hn2 := h.n2
  have c7 : w.cell? ⟨nb, 7, none⟩ = some (.int .i64 (m.now : Int)) := h.cell 7
  have f7 : w.frozen? ⟨nb, 7, none⟩ = false := h.net.1.frozen 7
  have hnt := hbd.now
  have hnw : IntKind.i64.wrap ((m.now : Int) + 1) = (m.now : Int) + 1 := i64_id _ (by omega) (by omega)
  have hN1 := h.later (m.now + 1)
  have hR1 : RTo w ro (w.setCell ⟨nb, 7, none⟩ (.int .i64 ((m.now : Int) + 1))) ro := ⟨Chg.setCell w nb 7 _ (by show ro nb ≠ .none; rw [h.net.2]; simp), fun _ _ h => h⟩
  have hz := Tryz.zeroRFl
  obtain ⟨m1, hm1⟩ : ∃ m1, m1 = { m with now := m.now + 1 } := ⟨_, rfl⟩
  have hok1 : ROk m1 := by rw [hm1]; exact hok.later _
  have hbd1 : Bd m1 m.players s (t + 1) u := by rw [hm1]; exact ⟨rfl, hbd.sent, by show m.now + 1 ≤ t + 1; omega, hbd.drop⟩
  have hfl1 : m1.flights = m.flights := by rw [hm1]
  have hpl1 : m1.players = m.players := by rw [hm1]
  obtain ⟨M, hM⟩ : ∃ M, comeM m.flights.length m1 = M := ⟨_, rfl⟩
  have htick : m.tick = againAll M M.players := by rw [← hM, hm1]; rfl
  have hMok : Bd M m.players s (t + 1) u := by rw [← hM]; exact Bd.come _ _ hbd1
  rw [htick]
  rw [← hm1] at hN1
  have e7 : (((m.now + 1 : Nat)) : Int) = (m.now : Int) + 1 := by omega
  rw [e7] at hN1
  have H1 := hide (And.intro hN1 (And.intro hR1 (And.intro hok1 hbd1)))
  have HM := hide hM
  clear h hok hbd hN1 hR1 hok1 hbd1 htick hm1 hM e7
  go_enter Tryz.func16, Tryz.ntmps16
  go_upto_block 0 with fail
  obtain ⟨W1, hW1⟩ : ∃ x, x = w.setCell ⟨nb, 7, none⟩ (.int .i64 ((m.now : Int) + 1)) := ⟨_, rfl⟩
  try rw [← hW1]
  rw [← hW1] at H1
  clear hW1 c7 f7 hnw
  go_cut [] from 2 (fun wx => ∃ ro2, RNetAt wx ro2 nb M ∧ RTo w ro wx ro2 ∧ ROk M)
  case first =>
    go_wp2_with fail
    go_loopg [2] (m.flights.length + 1) (fun gk _ wr => ∃ M2 ro2, M2.flights.length < gk ∧ RNetAt wr ro2 nb M2 ∧ RTo w ro wr ro2 ∧ ROk M2 ∧ Bd M2 m.players s (t + 1) u ∧ comeM M2.flights.length M2 = M)
    case atStart =>
      obtain ⟨hN1, hR1, hok1, hbd1⟩ := unhide H1
      exact ⟨m1, ro, by rw [hfl1]; omega, ⟨L, hN1⟩, hR1, hok1, hbd1, by rw [hfl1]; exact unhide HM⟩
    case round =>
      obtain ⟨M2, ro2, hgk, ⟨L2, hQ⟩, hR, hok2, hbd2, heq⟩ := hrel
      have hpl2 := hbd2.players
      have c6 : wr.cell? ⟨nb, 6, none⟩ = some L2.flv := hQ.cell 6
      have c7 : wr.cell? ⟨nb, 7, none⟩ = some (.int .i64 (M2.now : Int)) := hQ.cell 7
      have hown := hQ.fls.1
      by_cases h0 : M2.flights = []
      · rw [h0] at hown
        obtain ⟨ao, c, hv⟩ := own_nil hown
        rw [hv] at c6
        have HQ := hide (And.intro (show RNetAt wr ro2 nb M2 from ⟨L2, hQ⟩) (And.intro hR (And.intro hok2 (And.intro hbd2 (And.intro heq h0)))))
        clear hQ hR hok2 hbd2 heq h0 hv hown c7
        go_wp2_with fail
        go_meet
        case rel =>
          obtain ⟨hQ, hR, hok2, hbd2, heq, h0⟩ := unhide HQ
          rw [comeM_stop0 h0] at heq
          subst heq
          exact ⟨ro2, hQ, hR, hok2⟩
      · have hlp : 0 < M2.flights.length := List.length_pos_iff.2 h0
        obtain ⟨g, cap, hv, _, hgl, _⟩ := own4_some hown hlp
        rw [hv] at c6 hown
        have hkl := firstM_lt M2.flights h0
        have hfb := hbd2.drop 0
        have hfs := hbd2.sent
        have hd : decide (0 < (M2.flights.length : Int)) = true := by simp; omega
        have hd' : decide (0 < M2.flights.length) = true := by simp; omega
        have hlen : IntKind.i64.wrap (M2.flights.length : Int) = (M2.flights.length : Int) := i64_id _ (by omega) (by omega)
        have hfc := first_any (.pointer (some ⟨nb, 0, none⟩)) 0 g cap L2 M2.flights wr hown hlp (by omega)
        have HQ := hide (And.intro hQ (And.intro hR (And.intro hok2 (And.intro hbd2 (And.intro heq h0)))))
        have HV := hide hv
        clear hQ hR hok2 hbd2 heq h0 hv
        have hnl : nb < wr.heap.size := (unhide HQ).1.net.1.lt
        go_wp2_with fail
        refine hfc.mono ?_
        clear hfc
        rintro e w2 ⟨rfl, hb2⟩
        obtain ⟨K, hK⟩ : ∃ K, firstM M2.flights = K := ⟨_, rfl⟩
        rw [hK] at hkl
        try rw [hK]
        have hrg : w2.rangeAt g (K * 4) (rflC L2 (fl M2.flights K)) := fun j v hv => by
          rw [hb2.cell (p := ⟨g, K * 4 + j, none⟩) hgl]
          exact rfl_range hown K hkl j v hv
        obtain ⟨x, hx⟩ : ∃ x, fl M2.flights K = x := ⟨_, rfl⟩
        rw [hx] at hrg
        have hmem : x ∈ M2.flights := by rw [← hx]; exact getD_mem _ _ hkl
        obtain ⟨bg, bc, hbv, hbc, hbytes, hbgl, hrb⟩ := (unhide HQ).1.bytes x hmem
        have hcx : rflC L2 x = [.int .i64 (x.to : Int), .int .i64 (x.due : Int), .int .i64 (x.num : Int), .slice (some ⟨bg, 0, none⟩) x.bytes.length bc] := by unfold rflC; rw [hbv]
        rw [hcx] at hrg
        have c6' : w2.cell? ⟨nb, 6, none⟩ = some (.slice (some ⟨g, 0, none⟩) M2.flights.length cap) := (hb2.cell (p := ⟨nb, 6, none⟩) hnl).trans c6
        have c7' : w2.cell? ⟨nb, 7, none⟩ = some (.int .i64 (M2.now : Int)) := (hb2.cell (p := ⟨nb, 7, none⟩) hnl).trans c7
        have k0 : (0 : Int) ≤ (K : Int) := by omega
        have k1 : (K : Int) < (M2.flights.length : Int) := by omega
        have hsize := Tryz.sizeRFl
        have xA : Blk (w2.alloc (.cells #[.int .i64 0, .int .i64 0, .int .i64 0, .slice none 0 0] 76)) w2.heap.size #[.int .i64 0, .int .i64 0, .int .i64 0, .slice none 0 0] 76 := Blk.new _ _ _
        have bA : Below w2.heap.size w2 ((w2.alloc (.cells #[.int .i64 0, .int .i64 0, .int .i64 0, .slice none 0 0] 76)).setRow w2.heap.size #[.int .i64 (x.to : Int), .int .i64 (x.due : Int), .int .i64 (x.num : Int), .slice (some ⟨bg, 0, none⟩) x.bytes.length bc]) := below_setRow ((Below.refl _ w2).alloc (Nat.le_refl _) _) (Nat.le_refl _) _
        have xB : Blk ((w2.alloc (.cells #[.int .i64 0, .int .i64 0, .int .i64 0, .slice none 0 0] 76)).setRow w2.heap.size #[.int .i64 (x.to : Int), .int .i64 (x.due : Int), .int .i64 (x.num : Int), .slice (some ⟨bg, 0, none⟩) x.bytes.length bc]) w2.heap.size #[.int .i64 (x.to : Int), .int .i64 (x.due : Int), .int .i64 (x.num : Int), .slice (some ⟨bg, 0, none⟩) x.bytes.length bc] 76 := xA.setRow _
        have HX := hide (And.intro hK (And.intro hx (And.intro hmem (And.intro hbv (And.intro hbc (And.intro hbytes (And.intro hbgl hrb)))))))
        have HB2 := hide hb2
        have HB := hide (And.intro bA xB)
        clear c6 c7 hK hx hbv hbytes hbgl hrb hcx hmem hb2 bA xB hown
        go_upto_region 4 with (first | (refine wpList_load_mid rfl 76 _ rfl g (K * 4) rfl _ _ hrg Tryz.underlying76 rfl hsize ?_) | (refine wpList_store_blk rfl 76 _ _ rfl w2.heap.size 76 _ #[.int .i64 (x.to : Int), .int .i64 (x.due : Int), .int .i64 (x.num : Int), .slice (some ⟨bg, 0, none⟩) x.bytes.length bc] rfl rfl xA hsize rfl (by simp [Value.oneCell']) ?_))
        obtain ⟨w3, hw3⟩ : ∃ x', x' = (w2.alloc (.cells #[.int .i64 0, .int .i64 0, .int .i64 0, .slice none 0 0] 76)).setRow w2.heap.size #[.int .i64 (x.to : Int), .int .i64 (x.due : Int), .int .i64 (x.num : Int), .slice (some ⟨bg, 0, none⟩) x.bytes.length bc] := ⟨_, rfl⟩
        rw [← hw3]
        rw [← hw3] at HB
        clear hw3 xA hrg c6' c7'
        obtain ⟨bA, xB⟩ := unhide HB
        have hB3 : Below wr.heap.size wr w3 := (unhide HB2).trans (bA.mono (unhide HB2).size)
        have hQ3 := (unhide HQ).1.below hB3
        have x0 : w3.cell? ⟨w2.heap.size, 0, none⟩ = some (.int .i64 (x.to : Int)) := xB.cell 0
        have x1 : w3.cell? ⟨w2.heap.size, 1, none⟩ = some (.int .i64 (x.due : Int)) := xB.cell 1
        have x3 : w3.cell? ⟨w2.heap.size, 3, none⟩ = some (.slice (some ⟨bg, 0, none⟩) x.bytes.length bc) := xB.cell 3
        have c7 : w3.cell? ⟨nb, 7, none⟩ = some (.int .i64 (M2.now : Int)) := hQ3.cell 7
        have hxl := xB.lt
        have hz2 := (unhide HB2).size
        have HQ3 := hide (And.intro hQ3 (And.intro hB3 xB))
        clear bA xB hB3 hQ3 HB
        by_cases hdue : M2.now < x.due
        · have dd : decide ((M2.now : Int) < (x.due : Int)) = true := by simp; omega
          go_quiet (fail)
          go_wp2_with fail
          go_meet
          case rel =>
            obtain ⟨hQ, hR, hok2, hbd2, heq, h0⟩ := unhide HQ
            obtain ⟨hK, hx, hX⟩ := unhide HX
            rw [comeM_stop1 (by rw [hK]; show M2.now < (fl M2.flights K).due; rw [hx]; exact hdue)] at heq
            subst heq
            have hbz : Below w3.heap.size w3 (w3.drewN nq) := ⟨rfl, rfl, rfl, Nat.le_refl _, fun _ _ => rfl⟩
            exact ⟨ro2, ⟨L2, (unhide HQ3).1.below hbz⟩, hR.trans (RTo.ofBelow ((unhide HQ3).2.1.trans (hbz.mono (unhide HQ3).2.1.size))), hok2⟩
        · have dd : decide ((M2.now : Int) < (x.due : Int)) = false := by simp; omega
          go_quiet (fail)
          obtain ⟨w4, hw4⟩ : ∃ x', x' = w3.drewN nq := ⟨_, rfl⟩
          rw [← hw4]
          have hb4 : Below w3.heap.size w3 w4 := by rw [hw4]; exact ⟨rfl, rfl, rfl, Nat.le_refl _, fun _ _ => rfl⟩
          have hz4 : w4.heap.size = w3.heap.size := by rw [hw4]; rfl
          clear hw4 c7 x0 x1 x3
          have hQ4 := (unhide HQ3).1.below hb4
          have hfv : L2.flv = .slice (some ⟨g, 0, none⟩) M2.flights.length cap := unhide HV
          have ho4 := hQ4.fls.1
          rw [hfv] at ho4
          have c6 : w4.cell? ⟨nb, 6, none⟩ = some (.slice (some ⟨g, 0, none⟩) M2.flights.length cap) := by rw [← hfv]; exact hQ4.cell 6
          have hwc := without_any K 0 g cap L2 M2.flights w4 ho4 (fun f hf => by obtain ⟨bg, bc, e, _⟩ := hQ4.bytes f hf; rw [e]; rfl) (by omega)
          have xB4 : Blk w4 w2.heap.size #[.int .i64 (x.to : Int), .int .i64 (x.due : Int), .int .i64 (x.num : Int), .slice (some ⟨bg, 0, none⟩) x.bytes.length bc] 76 := (hb4.block _ hxl).trans (unhide HQ3).2.2
          have hB4 : Below wr.heap.size wr w4 := (unhide HQ3).2.1.trans (hb4.mono (unhide HQ3).2.1.size)
          have HQ4 := hide (And.intro hQ4 (And.intro hB4 xB4))
          clear hQ4 hB4 xB4 ho4 hfv hb4 HQ3
          go_wp2_with fail
          refine hwc.mono ?_
          clear hwc
          rintro e w5 ⟨V5, rfl, ho5, hb5⟩
          obtain ⟨a5, k5, hv5⟩ := own_nil ho5
          subst hv5
          have hQ6 := (unhide HQ4).1.fewer (l := M2.flights.eraseIdx K) (fun f hf => List.mem_of_mem_eraseIdx hf) hb5 ho5
          have hn5 : nb < w4.heap.size := (unhide HQ4).1.net.1.lt
          have f6 : w5.frozen? ⟨nb, 6, none⟩ = false := (World.frozen?_of_block (a := ⟨nb, 6, none⟩) (hb5.block nb hn5)).trans ((unhide HQ4).1.net.1.frozen 6)
          have c65 : w5.cell? ⟨nb, 6, none⟩ = some (.slice (some ⟨g, 0, none⟩) M2.flights.length cap) := (hb5.cell (p := ⟨nb, 6, none⟩) hn5).trans c6
          have hx5 : w2.heap.size < w4.heap.size := by omega
          have xB5 : Blk w5 w2.heap.size #[.int .i64 (x.to : Int), .int .i64 (x.due : Int), .int .i64 (x.num : Int), .slice (some ⟨bg, 0, none⟩) x.bytes.length bc] 76 := (hb5.block _ hx5).trans (unhide HQ4).2.2
          have hne : w2.heap.size ≠ nb := by omega
          have xB6 : Blk (w5.setCell ⟨nb, 6, none⟩ (.slice a5 (M2.flights.eraseIdx K).length k5)) w2.heap.size #[.int .i64 (x.to : Int), .int .i64 (x.due : Int), .int .i64 (x.num : Int), .slice (some ⟨bg, 0, none⟩) x.bytes.length bc] 76 := (heap_setCell_other _ _ _ _ hne).trans xB5
          have x0 : (w5.setCell ⟨nb, 6, none⟩ (.slice a5 (M2.flights.eraseIdx K).length k5)).cell? ⟨w2.heap.size, 0, none⟩ = some (.int .i64 (x.to : Int)) := xB6.cell 0
          have x3 : (w5.setCell ⟨nb, 6, none⟩ (.slice a5 (M2.flights.eraseIdx K).length k5)).cell? ⟨w2.heap.size, 3, none⟩ = some (.slice (some ⟨bg, 0, none⟩) x.bytes.length bc) := xB6.cell 3
          have H6 := hide (And.intro hQ6.1 (And.intro hQ6.2 hb5))
          clear hQ6 ho5 hb5 xB5 xB6 c6
          go_wp2_with fail
          obtain ⟨w6, hw6⟩ : ∃ x', x' = w5.setCell ⟨nb, 6, none⟩ (.slice a5 (M2.flights.eraseIdx K).length k5) := ⟨_, rfl⟩
          try rw [← hw6]
          rw [← hw6] at H6
          obtain ⟨hQ6, hT6, hb5⟩ := unhide H6
          obtain ⟨hK, hx, hmem, hbv, hbc, hbytes, hbgl, hrb⟩ := unhide HX
          obtain ⟨hQ, hR, hok2, hbd2, heq, h0⟩ := unhide HQ
          have he : erased M2 = { M2 with flights := M2.flights.eraseIdx K } := by unfold erased; rw [hK]
          rw [← he] at hQ6
          have hbn : bg ≠ nb := fun e => by rw [e, hQ.net.2] at hrb; cases hrb
          have hblk : w6.heap[bg]? = wr.heap[bg]? := by
            rw [hw6, heap_setCell_other _ _ _ _ hbn, hb5.block bg (by have := (unhide HQ4).2.1.size; omega)]
            exact (unhide HQ4).2.1.block bg hbgl
          have hfx := hok2.fly x hmem
          have hfx1 : x.to < (erased M2).players := hfx.1
          have hokE : ROk (erased M2) := by rw [he]; exact hok2.fewer _ (fun f hf => List.mem_of_mem_eraseIdx hf)
          have hlE : (erased M2).flights.length + 1 = M2.flights.length := by
            rw [he]
            show (M2.flights.eraseIdx K).length + 1 = _
            rw [List.length_eraseIdx_of_lt hkl]; omega
          have hdE : ((erased M2).peers x.to).dropped + 1 ≤ 1000000000 := by
            have h1 : ((erased M2).peers x.to).dropped = (M2.peers x.to).dropped := rfl
            have h2 := hbd2.drop x.to
            omega
          have hz6 : w6.heap.size = w5.heap.size := by rw [hw6]; exact World.size_setCell _ _ _
          have hzb := hb5.size
          have hzq := (unhide HQ4).2.1.size
          refine (rtake_any nb x.to bg 0 x.bytes.length bc x.bytes _ (erased M2) w6 ⟨_, hQ6⟩ hfx1 (hokE.ok _ hfx1) hdE rfl hfx.2.1 hbc hfx.2.2 (fun j hj => by rw [Nat.zero_add]; exact (World.cell?_of_block (a := ⟨bg, j, none⟩) hblk).trans (hbytes j hj)) (by omega)).mono ?_
          rintro e w7 ⟨rfl, ro7, hR7, hT7⟩
          have hgo : comeM ((erased M2).take x.to x.bytes).2.flights.length ((erased M2).take x.to x.bytes).2 = M := by
            have h1 := comeM_go h0 (by rw [hK]; show ¬ M2.now < (fl M2.flights K).due; rw [hx]; exact hdue)
            rw [heq, hK] at h1
            have h2 : M2.flights.getD K fly0 = x := hx
            rw [h2] at h1
            rw [(take_net (erased M2) x.to x.bytes).2.2.1]
            exact h1.symm
          have hbd7 : Bd ((erased M2).take x.to x.bytes).2 m.players s (t + 1) u := by
            have h1 := take_net (erased M2) x.to x.bytes
            have h2 : ((erased M2).take x.to x.bytes).2.now = M2.now := by unfold NetM.take; split <;> rfl
            refine ⟨h1.1.trans hpl2, by rw [h1.2.1]; exact hbd2.sent, by rw [h2]; exact hbd2.now, fun q => ?_⟩
            have h3 := hbd2.drop q
            have h4 := h1.2.2.2 q
            have h5 : ((erased M2).peers q).dropped = (M2.peers q).dropped := rfl
            have h6 : (erased M2).sent = M2.sent := rfl
            rw [h1.2.1, h1.2.2.1]; omega
          have hl7 : ((erased M2).take x.to x.bytes).2.flights.length + 1 = M2.flights.length := by rw [(take_net (erased M2) x.to x.bytes).2.2.1]; exact hlE
          have hR47 : RTo w ro w7 ro7 := (hR.trans (RTo.ofBelow (unhide HQ4).2.1)).trans (hT6.trans hT7)
          have H7 := hide (And.intro hR7 (And.intro hR47 (And.intro (hokE.take x.to x.bytes hfx.2.2) (And.intro hbd7 (And.intro hgo hl7)))))
          clear hR7 hR47 hbd7 hgo hl7 hT7 hQ6 hT6 hb5 hK hx hmem hbv hbc hbytes hbgl hrb hQ hR hok2 hbd2 heq h0 he hbn hblk hfx hfx1 hokE hlE hdE hz6 hzb hzq hw6 x0 x3
          go_wp2_with fail
          go_roundg (gk - 1)
          case measure => omega
          case rel =>
            obtain ⟨hR7, hR47, hok7, hbd7, hgo, hl7⟩ := unhide H7
            exact ⟨_, ro7, by omega, hR7, hR47, hok7, hbd7, hgo⟩
  case rest =>
    obtain ⟨ro1, hQ1, hR1, hokM⟩ := hcut
    obtain ⟨W2, hW2⟩ : ∃ x, x = wc := ⟨_, rfl⟩
    subst hW2
    have hMp := hMok.players
    have hMs := hMok.sent
    have hMn := hMok.now
    have hMf := hMok.drop 0
    have HQ1 := hide (And.intro hQ1 (And.intro hR1 (And.intro hokM hMok)))
    have c0 : W2.cell? ⟨nb, 0, none⟩ = some (.int .i64 (m.players : Int)) := by
      obtain ⟨L2, h2⟩ := hQ1
      rw [← hMp]; exact h2.cell 0
    clear hQ1 hR1 hokM hMok
    go_wp2_with fail
    clear c0
    go_loopw [5] (fun s5 wr => ∃ (k : Nat) (ro2 : Nat → RR), k ≤ m.players ∧ s5 = .int .i64 (k : Int) ∧ RNetAt wr ro2 nb (againAll M k) ∧ RTo w ro wr ro2) (fun s5 _ => m.players - (intOf s5).toNat)
    case atStart => exact ⟨0, ro1, by omega, rfl, (unhide HQ1).1, (unhide HQ1).2.1⟩
    case round =>
      obtain ⟨W3, hW3⟩ : ∃ x, x = wr := ⟨_, rfl⟩
      subst hW3
      obtain ⟨k, ro2, hk, rfl, hQ, hR⟩ := hrel
      have hpa := againAll_same M k
      have c0 : W3.cell? ⟨nb, 0, none⟩ = some (.int .i64 (m.players : Int)) := by
        obtain ⟨L2, h2⟩ := hQ
        rw [← hMp, ← hpa.1]; exact h2.cell 0
      by_cases hlt : k < m.players
      · have hdk : decide ((k : Int) < (m.players : Int)) = true := by simp; omega
        have hadd := i64_id ((k : Int) + 1) (by omega) (by omega)
        have HQ := hide (And.intro hQ hR)
        have hpp := hpa.1
        have HPA := hide hpa
        clear hQ hR hpa
        go_wp2_with fail
        clear c0
        go_loopw [6] (fun s6 wi => ∃ (j : Nat) (ro3 : Nat → RR), j ≤ m.players ∧ s6 = .int .i64 (j : Int) ∧ RNetAt wi ro3 nb (againTo (againAll M k) k j) ∧ RTo w ro wi ro3) (fun s6 _ => m.players - (intOf s6).toNat)
        case atStart => exact ⟨0, ro2, by omega, rfl, (unhide HQ).1, (unhide HQ).2⟩
        case round =>
          obtain ⟨j, ro3, hj, rfl, ⟨L3, hQ3⟩, hR3⟩ := hrel
          have hsm := againTo_same (againAll M k) k j
          have hpl : (againTo (againAll M k) k j).players = m.players := (hsm.1.trans hpp).trans hMp
          have hpr : (againTo (againAll M k) k j).peers = M.peers := hsm.2.1.trans (unhide HPA).2.1
          have c0 : wr.cell? ⟨nb, 0, none⟩ = some (.int .i64 (m.players : Int)) := by rw [← hpl]; exact hQ3.cell 0
          by_cases hjl : j < m.players
          · have hdj : decide ((j : Int) < (m.players : Int)) = true := by simp; omega
            have haj := i64_id ((j : Int) + 1) (by omega) (by omega)
            have hk' : k < (againTo (againAll M k) k j).players := by omega
            have hj' : j < (againTo (againAll M k) k j).players := by omega
            have c5 : wr.cell? ⟨nb, 5, none⟩ = some (.slice (some ⟨L3.prb, 0, none⟩) m.players L3.prc) := by rw [← hpl]; exact hQ3.cell 5
            have cp := hQ3.ptr k hk'
            have ca : wr.cell? ⟨L3.pb k, 2, none⟩ = some (.slice (some ⟨L3.ab k, 0, none⟩) m.players m.players) := by rw [← hpl]; exact hQ3.pcell k hk' 2
            have cj := hQ3.acell k j hk' hj'
            have ck : wr.cell? ⟨L3.pb k, 0, none⟩ = some (.slice (some ⟨L3.kb k, 0, none⟩) m.players (L3.kc k)) := by rw [← hpl]; exact hQ3.pcell k hk' 0
            have ckk := hQ3.kcell k k hk' hk'
            have hpo := hQ3
            rw [hpr] at cj ckk
            have k0 : (0 : Int) ≤ (k : Int) := by omega
            have k1 : (k : Int) < (m.players : Int) := by omega
            have j0 : (0 : Int) ≤ (j : Int) := by omega
            have j1 : (j : Int) < (m.players : Int) := by omega
            have H3 := hide (And.intro (show RNetAt wr ro3 nb (againTo (againAll M k) k j) from ⟨L3, hQ3⟩) (And.intro hR3 (And.intro hpl hpr)))
            clear hQ3 hR3 hpo hpr hpl
            have hst : againTo (againAll M k) k (j + 1) = if j ≠ k ∧ (M.peers k).acked j < ((M.peers k).known k).length then (againTo (againAll M k) k j).send k j else againTo (againAll M k) k j := by
              show (if j ≠ k ∧ ((againTo (againAll M k) k j).peers k).acked j < (((againTo (againAll M k) k j).peers k).known k).length then _ else _) = _
              rw [(unhide H3).2.2.2]
            have HST := hide hst
            have hsmn := hsm.2.2.1
            clear hst hsm
            by_cases hjk : j = k
            · have hne : ((j : Int) != (k : Int)) = false := by simp [hjk]
              have hne2 : ((j : Int) = (k : Int)) = True := by simp [hjk]
              have HK := hide hjk
              clear hjk
              go_upto_region 14 with fail
              go_quiet (fail)
              go_wp2_with fail
              go_roundw
              case rel =>
                refine ⟨j + 1, ro3, by omega, by go_num, ?_, (unhide H3).2.1.trans (RTo.ofBelow ⟨rfl, rfl, rfl, Nat.le_refl _, fun _ _ => rfl⟩)⟩
                rw [unhide HST, if_neg (fun h => h.1 (unhide HK))]
                obtain ⟨L4, h4⟩ := (unhide H3).1
                exact ⟨L4, h4.below ⟨rfl, rfl, rfl, Nat.le_refl _, fun _ _ => rfl⟩⟩
              case measure => simp [intOf]; omega
            · have hne : ((j : Int) != (k : Int)) = true := by simp; omega
              have hne2 : ((j : Int) = (k : Int)) = False := by simp; omega
              by_cases how : (M.peers k).acked j < ((M.peers k).known k).length
              · have hdo : decide (((M.peers k).acked j : Int) < (((M.peers k).known k).length : Int)) = true := by simp; omega
                have hdo2 : decide ((M.peers k).acked j < ((M.peers k).known k).length) = true := by simp; omega
                have hdo3 : ((M.peers k).acked j < ((M.peers k).known k).length) = True := by simp; omega
                have HK := hide (And.intro hjk how)
                clear hjk
                go_upto_region 14 with fail
                go_quiet (fail)
                go_wp2_with fail
                obtain ⟨hQ3, hR3, hpl, hpr⟩ := unhide H3
                have hss := againTo_sent (againAll M k) k j
                have hss2 := againAll_sent M k
                have hokM := (unhide HQ1).2.2.1
                have hokK := (hokM.againAll k (by omega))
                have hokJ := (hokK.1.againTo k (by omega) j (by omega)).1
                have hbA := (unhide HQ1).2.2.2.againAll k (by omega)
                have hbJ := hbA.againTo k j
                have hmul : k * (m.players - 1) ≤ 3 * 3 := Nat.mul_le_mul (by omega) (by omega)
                have h1 := hbJ.sent
                have h2 := hbJ.drop 0
                have h3 := hbJ.now
                have hbz : Below wr.heap.size wr (wr.drewN nq) := ⟨rfl, rfl, rfl, Nat.le_refl _, fun _ _ => rfl⟩
                obtain ⟨L4, h4⟩ := hQ3
                refine (rsend_any nb k j ro3 (againTo (againAll M k) k j) (wr.drewN nq) ⟨L4, h4.below hbz⟩ (by omega) (by omega) (hokJ.ok k (by omega)) hokJ.lags (by split at h1 <;> omega) (by omega) (by split at h1 <;> omega)).mono ?_
                rintro e w6 ⟨rfl, ro4, hQ4, hR4⟩
                have H6 := hide (And.intro hQ4 ((hR3.trans (RTo.ofBelow hbz)).trans hR4))
                clear hQ4 hR4 hR3 h4 hbz hbJ hbA hokJ hokK hokM hss hss2 h1 h2 h3 hpr
                go_wp2_with fail
                go_roundw
                case rel =>
                  refine ⟨j + 1, ro4, by omega, by go_num, ?_, (unhide H6).2⟩
                  rw [unhide HST, if_pos (unhide HK)]
                  exact (unhide H6).1
                case measure => simp [intOf]; omega
              · have hdo : decide (((M.peers k).acked j : Int) < (((M.peers k).known k).length : Int)) = false := by simp; omega
                have HK := hide how
                clear hjk how
                go_upto_region 14 with fail
                go_quiet (fail)
                go_wp2_with fail
                go_roundw
                case rel =>
                  refine ⟨j + 1, ro3, by omega, by go_num, ?_, (unhide H3).2.1.trans (RTo.ofBelow ⟨rfl, rfl, rfl, Nat.le_refl _, fun _ _ => rfl⟩)⟩
                  rw [unhide HST, if_neg (fun h => unhide HK h.2)]
                  obtain ⟨L4, h4⟩ := (unhide H3).1
                  exact ⟨L4, h4.below ⟨rfl, rfl, rfl, Nat.le_refl _, fun _ _ => rfl⟩⟩
                case measure => simp [intOf]; omega
          · have hjn : j = m.players := by omega
            have hdj : decide ((j : Int) < (m.players : Int)) = false := by simp; omega
            have H3 := hide (And.intro (show RNetAt wr ro3 nb (againTo (againAll M k) k j) from ⟨L3, hQ3⟩) hR3)
            clear hQ3 hR3 hpl hpr hsm
            go_wp2_with fail
            go_roundw
            case rel =>
              refine ⟨k + 1, ro3, by omega, by go_num, ?_, (unhide H3).2⟩
              show RNetAt _ ro3 nb (againTo (againAll M k) k M.players)
              rw [hMp, ← hjn]
              exact (unhide H3).1
            case measure => simp [intOf]; omega
      · have hkn : k = m.players := by omega
        have hdk : decide ((k : Int) < (m.players : Int)) = false := by simp; omega
        have HQ := hide (And.intro hQ hR)
        clear hQ hR hpa
        go_wp2
        go_end0
        obtain ⟨hQ, hR⟩ := unhide HQ
        rw [hkn] at hQ
        exact ⟨rfl, ro2, by rw [hMp]; exact hQ, hR⟩
end Go.Proofs.YtandblanpafjoaaGreatDoor

