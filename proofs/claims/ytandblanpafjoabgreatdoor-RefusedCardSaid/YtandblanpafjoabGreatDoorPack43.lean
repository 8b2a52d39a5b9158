import Derived.Test.YtandblanpafjoabGreatDoorPack41
import Derived.Test.YtandblanpafjoabGreatDoorPack42
import Derived.Test.YtandblanpafjoabGreatDoorPack23
import Derived.Test.YtandblanpafjoabGreatDoorPack34
import Derived.Test.YtandblanpafjoabGreatDoorPack40
import Derived.Deep.QuietTactic
import Derived.BigQuiet
namespace Go.Proofs.YtandblanpafjoabGreatDoor
open Go.RowKit Go.Extern.Stop Go.Stop Go.Extern

/-! A net, a record, a configuration beside each other. -/
structure TS (w0 wr : World) (g cb rb : Nat) (pv : Value) (pb : Nat → Nat) (n win dN kN : Nat) (lv : Value) (F : Nat → Prop) (lb lc : Nat → Nat) (m : NetM) (real : Nat → List Int) : Prop where
  net : NetQ wr g pv pb F m
  rcd : RecAt wr w0.heap.size rb n lb lc real
  cfg : Blk wr cb (cfgV n win dN kN lv) 26
  fr : ∀ k, F k → w0.heap.size ≤ k ∧ ¬ RecF rb n lb k ∧ k ≠ cb
  rc : ¬ RecF rb n lb cb
  cb0 : w0.heap.size ≤ cb
  bel : Below w0.heap.size w0 wr
theorem TS.below {w0 wr w' : World} {g cb rb : Nat} {pv : Value} {pb : Nat → Nat} {n win dN kN : Nat} {lv : Value} {F : Nat → Prop} {lb lc : Nat → Nat} {m : NetM} {real : Nat → List Int} (h : TS w0 wr g cb rb pv pb n win dN kN lv F lb lc m real) (hb : Below wr.heap.size wr w') : TS w0 w' g cb rb pv pb n win dN kN lv F lb lc m real :=
  ⟨h.net.below hb, h.rcd.below hb, (hb.block cb h.cfg.lt).trans h.cfg, h.fr, h.rc, h.cb0, h.bel.trans (hb.mono h.bel.size)⟩
theorem TS.act {w0 wr w' : World} {g cb rb : Nat} {pv : Value} {pb : Nat → Nat} {n win dN kN : Nat} {lv : Value} {F F' : Nat → Prop} {lb lc : Nat → Nat} {m m' : NetM} {real : Nat → List Int} (h : TS w0 wr g cb rb pv pb n win dN kN lv F lb lc m real) (hC : Chg F wr w') (hQ : NetQ w' g pv pb F' m') (hF : ∀ k, F' k → F k ∨ wr.heap.size ≤ k) : TS w0 w' g cb rb pv pb n win dN kN lv F' lb lc m' real := by
  have hcl := h.cfg.lt
  have hzz := h.bel.size
  refine ⟨hQ, h.rcd.same (fun k hk => hC.block k (h.rcd.lt k hk).2 (fun e => (h.fr k e).2.1 hk)), (hC.block cb hcl (fun e => (h.fr cb e).2.2 rfl)).trans h.cfg, fun k hk => ?_, h.rc, h.cb0, h.bel.trans (hC.toBelow h.bel.size (fun k hk => (h.fr k hk).1))⟩
  rcases hF k hk with e | e
  · exact h.fr k e
  · exact ⟨by omega, fun e2 => by have := (h.rcd.lt k e2).2; omega, by omega⟩
theorem TS.push {w0 wr w5 : World} {g cb rb p : Nat} {pv : Value} {pb : Nat → Nat} {n win dN kN : Nat} {lv : Value} {F : Nat → Prop} {lb lc : Nat → Nat} {m : NetM} {real : Nat → List Int} {v : Int} {v' : Value} (h : TS w0 wr g cb rb pv pb n win dN kN lv F lb lc m real) (hp : p < n)
    (hown : w5.ownsRow w0.heap.size 5 1 v' ((real p).length + 1) ((real p).map (Value.int .u8) ++ [.int .u8 v])) (hg : (wr.alloc (.cells #[.int .u8 v] 5)).grownBy w5 (some (lb p))) (hloc : v'.ownBlock = some (lb p) ∨ v'.ownBlock = some (wr.heap.size + 1)) :
    ∃ g2 c2, v' = .slice (some ⟨g2, 0, none⟩) ((real p).length + 1) c2 ∧ w5.frozen? ⟨rb, p, none⟩ = false ∧ (∃ cv, w5.cell? ⟨rb, p, none⟩ = some cv) ∧ TS w0 (w5.setCell ⟨rb, p, none⟩ v') g cb rb pv pb n win dN kN lv F (fun q => if q = p then g2 else lb q) (fun q => if q = p then c2 else lc q) m (grown real p v) := by
  obtain ⟨g2, c2, rfl, hgg, hB5, hR, hC⟩ := h.rcd.push hp hown hg hloc
  have hcl := h.cfg.lt
  have hzz := h.bel.size
  obtain ⟨hB, h1, h2⟩ := Classical.choose_spec h.rcd.row
  refine ⟨g2, c2, rfl, hB5.frozen p, ⟨_, (hB5.cell p).trans (h2 p hp)⟩, h.net.same (fun k hk => hC.block k (h.net.lt k hk) (h.fr k hk).2.1), hR, (hC.block cb hcl h.rc).trans h.cfg, fun k hk => ⟨(h.fr k hk).1, ?_, (h.fr k hk).2.2⟩, ?_, h.cb0, h.bel.trans (hC.toBelow h.bel.size (fun k hk => (h.rcd.lt k hk).1))⟩
  · rintro (e | ⟨q, hq, e⟩)
    · exact (h.fr k hk).2.1 (.inl e)
    · by_cases eq : q = p
      · simp only [if_pos eq] at e
        rcases hgg with e2 | e2
        · exact (h.fr k hk).2.1 (.inr ⟨p, hp, e.trans e2⟩)
        · have := h.net.lt k hk; omega
      · simp only [if_neg eq] at e
        exact (h.fr k hk).2.1 (.inr ⟨q, hq, e⟩)
  · rintro (e | ⟨q, hq, e⟩)
    · exact h.rc (.inl e)
    · by_cases eq : q = p
      · simp only [if_pos eq] at e
        rcases hgg with e2 | e2
        · exact h.rc (.inr ⟨p, hp, e.trans e2⟩)
        · omega
      · simp only [if_neg eq] at e
        exact h.rc (.inr ⟨q, hq, e⟩)
theorem TS.laid {w0 wr : World} {g cb rb : Nat} {pv : Value} {pb : Nat → Nat} {n win dN kN : Nat} {lv : Value} {F : Nat → Prop} {lb lc : Nat → Nat} {m : NetM} {real : Nat → List Int} (h : TS w0 wr g cb rb pv pb n win dN kN lv F lb lc m real) (hL : Laid w0) : Laid wr := hL.below hL.lt h.bel
/-- What a byte of a script does to what is really put in. -/
def actReal (m : NetM) (real : Nat → List Int) (b : Nat) : Nat → List Int := if b % 5 = 0 then real else if (m.advance (actP m.players b) (actI b)).1 = 0 then grown real (actP m.players b) (actI b) else real
theorem actP_lt {m : NetM} {real : Nat → List Int} (h : Inv m real) (b : Nat) : actP m.players b < m.players := Nat.mod_lt _ (by have := h.hp.1; omega)
theorem Inv.act {m : NetM} {real : Nat → List Int} (h : Inv m real) (b : Nat) : Inv (actM m b) (actReal m real b) := by
  unfold actM actReal
  split
  · exact h.tick
  · exact h.advance (actP_lt h b) (actI b) (actI_rng b)
theorem tick_same (m : NetM) : m.tick.players = m.players ∧ m.tick.window = m.window ∧ m.tick.delay = m.delay ∧ m.tick.lags = m.lags := by
  have h1 : ∀ k (n : NetM), (comeM k n).players = n.players ∧ (comeM k n).window = n.window ∧ (comeM k n).delay = n.delay ∧ (comeM k n).lags = n.lags := by
    intro k
    induction k with
    | zero => intro n; exact ⟨rfl, rfl, rfl, rfl⟩
    | succ k ih =>
      intro n
      simp only [comeM]
      split
      · exact ⟨rfl, rfl, rfl, rfl⟩
      · split
        · exact ⟨rfl, rfl, rfl, rfl⟩
        · obtain ⟨i1, i2, i3, i4⟩ := ih (({ n with flights := n.flights.eraseIdx (firstM n.flights) } : NetM).take (n.flights.getD (firstM n.flights) fly0).to (n.flights.getD (firstM n.flights) fly0).bytes).2
          rw [i1, i2, i3, i4]
          unfold NetM.take
          split <;> exact ⟨rfl, rfl, rfl, rfl⟩
  obtain ⟨i1, i2, i3, i4⟩ := h1 m.flights.length { m with now := m.now + 1 }
  obtain ⟨j1, _, _, j4, j5, j6⟩ := againAll_same (comeM m.flights.length { m with now := m.now + 1 }) (comeM m.flights.length { m with now := m.now + 1 }).players
  exact ⟨j1.trans i1, j5.trans i2, j4.trans i3, j6.trans i4⟩
theorem adv_same (m : NetM) (p : Nat) (v : Int) : (m.advance p v).2.players = m.players ∧ (m.advance p v).2.window = m.window ∧ (m.advance p v).2.delay = m.delay ∧ (m.advance p v).2.lags = m.lags := by
  unfold NetM.advance
  split
  · exact ⟨rfl, rfl, rfl, rfl⟩
  · split
    · exact ⟨rfl, rfl, rfl, rfl⟩
    · obtain ⟨j1, _, _, j4, j5, j6⟩ := sendTo_same (m.stepped p v) p m.players
      exact ⟨j1, j5, j4, j6⟩
theorem act_same (m : NetM) (b : Nat) : (actM m b).players = m.players ∧ (actM m b).window = m.window ∧ (actM m b).delay = m.delay ∧ (actM m b).lags = m.lags := by
  unfold actM
  split
  · exact tick_same m
  · exact adv_same m _ _
theorem Bd.act {m : NetM} {n s t h : Nat} (b : Bd m n s t h) (hn : n ≤ 4) (x : Nat) : Bd (actM m x) n (s + 12) (t + 1) h := by
  unfold actM
  split
  · exact b.tick hn
  · exact (b.adv hn _ _).mono (Nat.le_refl _) (by omega) (Nat.le_refl _)
theorem fits_rows (real : Nat → List Int) (n f : Nat) (hf : f ≤ 200) (hn : n ≤ 4) (hr : ∀ q, q < n → InB (real q)) : (rowsM real n f).length ≤ 100000 ∧ (∀ i : Nat, ((rowsM real n f).getD i []).length ≤ 100000) ∧ fitB (n : Int) (rowsM real n f) = true ∧ ∀ i j : Nat, 0 ≤ ((rowsM real n f).getD i []).getD j 0 ∧ ((rowsM real n f).getD i []).getD j 0 ≤ 255 := by
  have hl := rowsM_len real n f
  have hg2 : ∀ i, ¬ i < f → (rowsM real n f).getD i [] = [] := fun i hi => by
    rw [List.getD_eq_getElem?_getD, List.getElem?_eq_none (by rw [hl]; omega)]; rfl
  refine ⟨by omega, fun i => ?_, ?_, fun i j => ?_⟩
  · by_cases hi : i < f
    · rw [rowsM_get _ _ _ _ hi, rowV_len]; omega
    · rw [hg2 i hi]; simp
  · unfold fitB
    rw [hl]
    simp only [Bool.and_eq_true, decide_eq_true_eq]
    exact ⟨by omega, fun i hi => by rw [rowsM_get _ _ _ _ hi, rowV_len]⟩
  · by_cases hi : i < f
    · rw [rowsM_get _ _ _ _ hi]
      by_cases hj : j < n
      · have : (rowV real i n).getD j 0 = (real j).getD i 0 := by simp [rowV, List.getD_eq_getElem?_getD, hj]
        rw [this]
        exact (hr j hj).get i
      · rw [getD_out _ _ (by rw [rowV_len]; omega)]; omega
    · rw [hg2 i hi]; simp
end Go.Proofs.YtandblanpafjoabGreatDoor

namespace Go.Proofs.YtandblanpafjoabGreatDoor
open Go.RowKit Go.Shelf Go.Sort Go.Extern.Stop Go.Stop Go.Extern

/-! The net's Flights, Now. -/
theorem sorted_out {m : NetM} (h : Nums m) {ys : List FlyM} (hp : ys.Perm m.flights) (hs : ys.Pairwise fun a b => ¬ before b a) : ys = outM m.flights := by
  refine sorted_unique ys (outM m.flights) ?_ (outM_sorted h) (hp.trans (outM_perm m.flights).symm)
  have hnd : ys.Pairwise fun a b => a ≠ b := by
    have h1 : m.flights.Pairwise fun a b => a ≠ b := h.row.imp (fun {a b} h e => by subst e; omega)
    exact (List.Perm.pairwise_iff (fun {a b} h e => h e.symm) hp).2 h1
  have hmem : ∀ a ∈ ys, a ∈ m.flights := fun a ha => hp.mem_iff.1 ha
  have := hs.and hnd
  refine List.Pairwise.imp_of_mem ?_ this
  intro a b ha hb ⟨h1, h2⟩
  rcases before_total h.row (hmem a ha) (hmem b hb) with e | e | e
  · exact absurd e h2
  · exact e
  · exact absurd e h1
set_option maxHeartbeats 800000 in
theorem nflights_any (g : Nat) (pv : Value) (pb : Nat → Nat) (F : Nat → Prop) (m : NetM) (w : World) (h : NetQ w g pv pb F m) (hs : m.sent ≤ 900000) :
    Calls Tryz.prog 19 #[.pointer (some ⟨g, 0, none⟩)] w fun e w' => ∃ fb cl cc, e = .returned (.slice (some ⟨fb, 0, none⟩) (outM m.flights).length (outM m.flights).length) ∧ w.heap.size ≤ fb ∧ FlAt w' w.heap.size fb cl cc (outM m.flights) (outM m.flights).length ∧ Below w.heap.size w w' := by
  obtain ⟨lv, wv, bl, l, Fp, hN, hF⟩ := h
  have hl : l.length ≤ 1000000 := by
    have := hN.numb.few
    have := hN.perm.length_eq
    omega
  have hcon := wflights_any g pv m.lags m.now m.sent lv wv bl l w hN.wire hl (fun f hf => ⟨(hN.bytes f (hN.perm.mem_iff.1 hf)).1, by have := (hN.fly f (hN.perm.mem_iff.1 hf)).2.1; omega⟩)
  have HN := hide (And.intro hN.numb hN.perm)
  clear hN hF
  go_enter Tryz.func19, Tryz.ntmps19
  go_wp2_with fail
  refine hcon.mono ?_
  clear hcon
  rintro e w2 ⟨fb, cl, cc, ys, rfl, hp, hs2, hfb, hFl, hb⟩
  have hys := sorted_out (unhide HN).1 (hp.trans (unhide HN).2) hs2
  subst hys
  have H := hide (And.intro hfb (And.intro hFl hb))
  clear hp hs2 hfb hFl hb
  go_wp2
  go_ret
  obtain ⟨hfb, hFl, hb⟩ := unhide H
  exact ⟨fb, cl, cc, rfl, hfb, hFl, hb⟩
end Go.Proofs.YtandblanpafjoabGreatDoor

namespace Go.Proofs.YtandblanpafjoabGreatDoor
open Go.RowKit Go.Shelf Go.Sort Go.Extern.Stop Go.Stop Go.Extern

/-! same: two nets that are one in plain numbers. -/
theorem Blk.on {w w' : World} {g : Nat} {cs : Array Value} {t : TypeId} (h : Blk w g cs t) (hb : Below w.heap.size w w') : Blk w' g cs t := (hb.block g h.lt).trans h
theorem stands_psA (x : PeerM) (n k : Nat) : stands x n k = psA (x.frame : Int) (confTo x n : Int) (x.dropped : Int) (knTo x k 0 : Int) (knTo x k 1 : Int) (knTo x k 2 : Int) (knTo x k 3 : Int) := rfl
theorem stands_neq (w : World) (x : PeerM) (n k : Nat) : (binOp .neq 38 (.agg (stands x n k)) (.agg (stands x n k))).run Tryz.prog w = .ok (.bool false) w := by
  rw [run_neq_struct, stands_psA, psA_eq]
  simp
set_option maxRecDepth 10000 in
set_option maxHeartbeats 4000000 in
theorem same_any (g1 g2 : Nat) (pv1 pv2 : Value) (pb1 pb2 : Nat → Nat) (F1 F2 : Nat → Prop) (m : NetM) (n : Nat) (w : World) (h1 : NetQ w g1 pv1 pb1 F1 m) (h2 : NetQ w g2 pv2 pb2 F2 m) (hn : m.players = n) (hs : m.sent ≤ 900000) :
    Calls Tryz.prog 11 #[.pointer (some ⟨g1, 0, none⟩), .pointer (some ⟨g2, 0, none⟩), .int .i64 (n : Int)] w fun e w' => e = .returned (.bool true) ∧ Below w.heap.size w w' := by
  have hn4 : n ≤ 4 := by obtain ⟨_, _, _, _, _, _, h⟩ := h1.parts; omega
  have HQ := hide (And.intro h1 h2)
  clear h1 h2
  go_enter Tryz.func11, Tryz.ntmps11
  go_wp2_with fail
  go_loopw [7] (fun s7 wr => ∃ p : Nat, p ≤ n ∧ s7 = .int .i64 (p : Int) ∧ Below w.heap.size w wr) (fun s7 _ => n - (intOf s7).toNat)
  case atStart => exact ⟨0, by omega, rfl, Below.refl _ _⟩
  case round =>
    obtain ⟨p, hp, rfl, hb⟩ := hrel
    obtain ⟨h1, h2⟩ := unhide HQ
    have q1 := h1.below hb
    have q2 := h2.below hb
    by_cases hlt : p < n
    · have dp : decide (p < n) = true := by simp; omega
      have hpm : p < m.players := by omega
      have H0 := hide (And.intro q1 (And.intro q2 hb))
      clear h1 h2 q1 q2 hb
      go_wp2_with fail
      obtain ⟨q1, q2, hb⟩ := unhide H0
      refine (pppeer_any g1 p pv1 pb1 F1 m wr q1 hpm).mono ?_
      rintro e w1 ⟨rfl, hb1⟩
      rw [hn]
      have hfw : (m.peers p).frame - m.window ≤ confTo (m.peers p) n ∧ confTo (m.peers p) n ≤ (m.peers p).frame := by
        obtain ⟨Fp, FS, v, st, hP⟩ := q1.at hpm
        have := hP.ok.win
        rw [hn] at this
        exact ⟨by omega, confTo_frame _ _⟩
      obtain ⟨fr, hfr⟩ : ∃ x, (m.peers p).frame = x := ⟨_, rfl⟩
      obtain ⟨cf, hcf⟩ : ∃ x, confTo (m.peers p) n = x := ⟨_, rfl⟩
      obtain ⟨dr, hdr⟩ : ∃ x, (m.peers p).dropped = x := ⟨_, rfl⟩
      obtain ⟨k0, hk0⟩ : ∃ x, knTo (m.peers p) n 0 = x := ⟨_, rfl⟩
      obtain ⟨k1, hk1⟩ : ∃ x, knTo (m.peers p) n 1 = x := ⟨_, rfl⟩
      obtain ⟨k2, hk2⟩ : ∃ x, knTo (m.peers p) n 2 = x := ⟨_, rfl⟩
      obtain ⟨k3, hk3⟩ : ∃ x, knTo (m.peers p) n 3 = x := ⟨_, rfl⟩
      have hst : stands (m.peers p) n n = #[.int .i64 (fr : Int), .int .i64 (cf : Int), .int .i64 (dr : Int), .int .i64 (k0 : Int), .int .i64 (k1 : Int), .int .i64 (k2 : Int), .int .i64 (k3 : Int)] := by unfold stands; rw [hfr, hcf, hdr, hk0, hk1, hk2, hk3]
      have hneq : ∀ w : World, (binOp .neq 38 (.agg #[.int .i64 (fr : Int), .int .i64 (cf : Int), .int .i64 (dr : Int), .int .i64 (k0 : Int), .int .i64 (k1 : Int), .int .i64 (k2 : Int), .int .i64 (k3 : Int)]) (.agg #[.int .i64 (fr : Int), .int .i64 (cf : Int), .int .i64 (dr : Int), .int .i64 (k0 : Int), .int .i64 (k1 : Int), .int .i64 (k2 : Int), .int .i64 (k3 : Int)])).run Tryz.prog w = .ok (.bool false) w := fun w => by rw [← hst]; exact stands_neq w _ _ _
      rw [hst]
      have HST := hide (And.intro hst (And.intro hfw hcf))
      have q2' := q2.below hb1
      have x1 : Blk (w1.alloc (.cells #[.int .i64 (fr : Int), .int .i64 (cf : Int), .int .i64 (dr : Int), .int .i64 (k0 : Int), .int .i64 (k1 : Int), .int .i64 (k2 : Int), .int .i64 (k3 : Int)] 38)) w1.heap.size #[.int .i64 (fr : Int), .int .i64 (cf : Int), .int .i64 (dr : Int), .int .i64 (k0 : Int), .int .i64 (k1 : Int), .int .i64 (k2 : Int), .int .i64 (k3 : Int)] 38 := Blk.new _ _ _
      have b1 : Below w1.heap.size w1 (w1.alloc (.cells #[.int .i64 (fr : Int), .int .i64 (cf : Int), .int .i64 (dr : Int), .int .i64 (k0 : Int), .int .i64 (k1 : Int), .int .i64 (k2 : Int), .int .i64 (k3 : Int)] 38)) := (Below.refl _ w1).alloc (Nat.le_refl _) _
      have e1 : w1.alloc (.cells #[.int .i64 (fr : Int), .int .i64 (cf : Int), .int .i64 (dr : Int), .int .i64 (k0 : Int), .int .i64 (k1 : Int), .int .i64 (k2 : Int), .int .i64 (k3 : Int)] 38) = w1.alloc (.cells #[.int .i64 (fr : Int), .int .i64 (cf : Int), .int .i64 (dr : Int), .int .i64 (k0 : Int), .int .i64 (k1 : Int), .int .i64 (k2 : Int), .int .i64 (k3 : Int)] 38) := rfl
      have H1 := hide (And.intro (q1.below hb1) (And.intro q2' (And.intro (hb.trans (hb1.mono hb.size)) (And.intro x1 b1))))
      clear q1 q2 hb hb1 hfr hcf hdr hk0 hk1 hk2 hk3 hst hfw q2' x1 b1 e1 H0
      go_wp2_with fail
      generalize w1.alloc (.cells #[.int .i64 (fr : Int), .int .i64 (cf : Int), .int .i64 (dr : Int), .int .i64 (k0 : Int), .int .i64 (k1 : Int), .int .i64 (k2 : Int), .int .i64 (k3 : Int)] 38) = W1 at *
      obtain ⟨q1, q2, hb, x1, b1⟩ := unhide H1
      refine (pppeer_any g2 p pv2 pb2 F2 m W1 (q2.below b1) hpm).mono ?_
      rintro e w2 ⟨rfl, hb2⟩
      rw [hn, (unhide HST).1]
      have x2 : Blk (w2.alloc (.cells #[.int .i64 (fr : Int), .int .i64 (cf : Int), .int .i64 (dr : Int), .int .i64 (k0 : Int), .int .i64 (k1 : Int), .int .i64 (k2 : Int), .int .i64 (k3 : Int)] 38)) w2.heap.size #[.int .i64 (fr : Int), .int .i64 (cf : Int), .int .i64 (dr : Int), .int .i64 (k0 : Int), .int .i64 (k1 : Int), .int .i64 (k2 : Int), .int .i64 (k3 : Int)] 38 := Blk.new _ _ _
      have b2 : Below w2.heap.size w2 (w2.alloc (.cells #[.int .i64 (fr : Int), .int .i64 (cf : Int), .int .i64 (dr : Int), .int .i64 (k0 : Int), .int .i64 (k1 : Int), .int .i64 (k2 : Int), .int .i64 (k3 : Int)] 38)) := (Below.refl _ w2).alloc (Nat.le_refl _) _
      have b12 : Below W1.heap.size W1 (w2.alloc (.cells #[.int .i64 (fr : Int), .int .i64 (cf : Int), .int .i64 (dr : Int), .int .i64 (k0 : Int), .int .i64 (k1 : Int), .int .i64 (k2 : Int), .int .i64 (k3 : Int)] 38)) := hb2.trans (b2.mono hb2.size)
      have b02 : Below w1.heap.size w1 (w2.alloc (.cells #[.int .i64 (fr : Int), .int .i64 (cf : Int), .int .i64 (dr : Int), .int .i64 (k0 : Int), .int .i64 (k1 : Int), .int .i64 (k2 : Int), .int .i64 (k3 : Int)] 38)) := b1.trans (b12.mono b1.size)
      have H2 := hide (And.intro (q1.below b02) (And.intro (q2.below b02) (And.intro (hb.trans (b02.mono hb.size)) (And.intro (x1.on b12) (And.intro x2 b12)))))
      clear q1 q2 hb x1 b1 hb2 x2 b2 b12 b02 H1
      go_wp2_with fail
      generalize w2.alloc (.cells #[.int .i64 (fr : Int), .int .i64 (cf : Int), .int .i64 (dr : Int), .int .i64 (k0 : Int), .int .i64 (k1 : Int), .int .i64 (k2 : Int), .int .i64 (k3 : Int)] 38) = W2 at *
      obtain ⟨q1, q2, hb, x1, x2, b12⟩ := unhide H2
      refine (ppmem_any g1 p pv1 pb1 F1 m W2 q1 hpm).mono ?_
      rintro e w3 ⟨g3, rfl, hg3, hB3, hb3⟩
      rw [hn] at hB3
      obtain ⟨SL, hSL⟩ : ∃ SL, stF n (insM (m.peers p) n) (m.peers p).frame = SL := ⟨_, rfl⟩
      have hSl : SL.length = 288 := by rw [← hSL]; exact stF_len hn4 _ _
      rw [hSL] at hB3
      have H3 := hide (And.intro (q1.below hb3) (And.intro (q2.below hb3) (And.intro (hb.trans (hb3.mono hb.size)) (And.intro (x1.on hb3) (And.intro (x2.on hb3) (And.intro hB3 hSL))))))
      clear q1 q2 hb x1 x2 b12 hg3 hB3 hb3 hSL H2
      go_wp2_with fail
      obtain ⟨q1, q2, hb, x1, x2, hB3, hSL⟩ := unhide H3
      refine (ppmem_any g2 p pv2 pb2 F2 m w3 q2 hpm).mono ?_
      rintro e w4 ⟨g4, rfl, hg4, hB4, hb4⟩
      rw [hn, hSL] at hB4
      have hB34 : Blk w4 g3 (nums .u8 SL) 5 := (hb4.block g3 hB3.lt).trans hB3
      have hcA := conv_str g3 0 288 288 SL w4 hSl (fun j hj => by rw [Nat.zero_add]; exact hB34.num j (by omega))
      have hcB := conv_str g4 0 288 288 SL w4 hSl (fun j hj => by rw [Nat.zero_add]; exact hB4.num j (by omega))
      generalize strOfNums SL = SS at *
      have y1 : Blk w4 w1.heap.size #[.int .i64 (fr : Int), .int .i64 (cf : Int), .int .i64 (dr : Int), .int .i64 (k0 : Int), .int .i64 (k1 : Int), .int .i64 (k2 : Int), .int .i64 (k3 : Int)] 38 := x1.on hb4
      have y2 : Blk w4 w2.heap.size #[.int .i64 (fr : Int), .int .i64 (cf : Int), .int .i64 (dr : Int), .int .i64 (k0 : Int), .int .i64 (k1 : Int), .int .i64 (k2 : Int), .int .i64 (k3 : Int)] 38 := x2.on hb4
      have c0 : w4.cell? ⟨w1.heap.size, 0, none⟩ = some (.int .i64 (fr : Int)) := y1.cell 0
      have c1 : w4.cell? ⟨w1.heap.size, 1, none⟩ = some (.int .i64 (cf : Int)) := y1.cell 1
      have c2 : w4.cell? ⟨w1.heap.size, 2, none⟩ = some (.int .i64 (dr : Int)) := y1.cell 2
      have c3 : w4.cell? ⟨w1.heap.size, 3, none⟩ = some (.int .i64 (k0 : Int)) := y1.cell 3
      have c4 : w4.cell? ⟨w1.heap.size, 4, none⟩ = some (.int .i64 (k1 : Int)) := y1.cell 4
      have c5 : w4.cell? ⟨w1.heap.size, 5, none⟩ = some (.int .i64 (k2 : Int)) := y1.cell 5
      have c6 : w4.cell? ⟨w1.heap.size, 6, none⟩ = some (.int .i64 (k3 : Int)) := y1.cell 6
      have e0 : w4.cell? ⟨w2.heap.size, 0, none⟩ = some (.int .i64 (fr : Int)) := y2.cell 0
      have e1 : w4.cell? ⟨w2.heap.size, 1, none⟩ = some (.int .i64 (cf : Int)) := y2.cell 1
      have e2 : w4.cell? ⟨w2.heap.size, 2, none⟩ = some (.int .i64 (dr : Int)) := y2.cell 2
      have e3 : w4.cell? ⟨w2.heap.size, 3, none⟩ = some (.int .i64 (k0 : Int)) := y2.cell 3
      have e4 : w4.cell? ⟨w2.heap.size, 4, none⟩ = some (.int .i64 (k1 : Int)) := y2.cell 4
      have e5 : w4.cell? ⟨w2.heap.size, 5, none⟩ = some (.int .i64 (k2 : Int)) := y2.cell 5
      have e6 : w4.cell? ⟨w2.heap.size, 6, none⟩ = some (.int .i64 (k3 : Int)) := y2.cell 6
      have H4 := hide (And.intro (q1.below hb4) (And.intro (q2.below hb4) (hb.trans (hb4.mono hb.size))))
      clear q1 q2 hb x1 x2 hB3 hSL hg4 hB4 hb4 hB34 H3
      have H4y := hide y1
      clear y1 y2
      go_wp2_with fail
      obtain ⟨q1, q2, hb⟩ := unhide H4
      obtain ⟨_, hfw, hcf⟩ := unhide HST
      refine (ppsum_yes g1 p cf pv1 pb1 F1 m w4 q1 hpm (by rw [← hcf]; exact hfw.1) (by rw [← hcf]; exact hfw.2)).mono ?_
      rintro e w5 ⟨rfl, hb5⟩
      obtain ⟨D, hD⟩ : ∃ D, digL (stF m.players (insM (m.peers p) m.players) cf) = D := ⟨_, rfl⟩
      rw [hD]
      have v1 : w5.cell? ⟨w1.heap.size, 1, none⟩ = some (.int .i64 (cf : Int)) := ((unhide H4y).on hb5).cell 1
      have H5 := hide (And.intro (q2.below hb5) (And.intro (hb.trans (hb5.mono hb.size)) (And.intro hD (And.intro hfw hcf))))
      clear q1 q2 hb hfw hcf hb5 hD H4 H4y c0 c1 c2 c3 c4 c5 c6 e0 e1 e2 e3 e4 e5 e6 hcA hcB hneq
      go_wp2_with fail
      obtain ⟨q2, hb, hD, hfw, hcf⟩ := unhide H5
      refine (ppsum_yes g2 p cf pv2 pb2 F2 m w5 q2 hpm (by rw [← hcf]; exact hfw.1) (by rw [← hcf]; exact hfw.2)).mono ?_
      rintro e w6 ⟨rfl, hb6⟩
      rw [hD]
      have H6 := hide (hb.trans (hb6.mono hb.size))
      clear q2 hb hD hfw hcf hb6 H5 v1
      go_wp2_with fail
      go_roundw
      case rel => exact ⟨p + 1, by omega, by go_num, unhide H6⟩
      case measure => simp [intOf]; omega
    · have dp : decide (p < n) = false := by simp; omega
      have H0 := hide (And.intro q1 (And.intro q2 hb))
      clear h1 h2 q1 q2 hb
      go_wp2_with fail
      obtain ⟨q1, q2, hb⟩ := unhide H0
      refine (nflights_any g1 pv1 pb1 F1 m wr q1 hs).mono ?_
      rintro e w1 ⟨fb1, cl1, cc1, rfl, hf1, hA1, hb1⟩
      have H1 := hide (And.intro (q2.below hb1) (And.intro (hb.trans (hb1.mono hb.size)) hA1))
      clear q1 q2 hb hf1 hA1 hb1 H0
      go_wp2_with fail
      obtain ⟨q2, hb, hA1⟩ := unhide H1
      refine (nflights_any g2 pv2 pb2 F2 m w1 q2 hs).mono ?_
      rintro e w2 ⟨fb2, cl2, cc2, rfl, hf2, hA2, hb2⟩
      have hlen : ∀ i, i < (outM m.flights).length → (fl (outM m.flights) i).bytes.length ≤ 100000 := fun i hi => by
        obtain ⟨lv, wv, bl, l, Fp, hN, hF⟩ := q2
        have hm : fl (outM m.flights) i ∈ outM m.flights := by
          simp only [fl, List.getD_eq_getElem?_getD, List.getElem?_eq_getElem hi]
          exact List.getElem_mem hi
        have := (hN.fly _ ((outM_perm m.flights).mem_iff.1 hm)).2.1
        omega
      have hNl : (outM m.flights).length ≤ 1000000 := by
        obtain ⟨lv, wv, bl, l, Fp, hN, hF⟩ := q2
        have := hN.numb.few
        have := (outM_perm m.flights).length_eq
        omega
      have hA1' := hA1.below hb2
      obtain ⟨ys, hys⟩ : ∃ ys, outM m.flights = ys := ⟨_, rfl⟩
      rw [hys] at hA1' hA2 hlen hNl
      rw [hys]
      obtain ⟨N, hN⟩ : ∃ N, ys.length = N := ⟨_, rfl⟩
      rw [hN] at hA1' hA2 hlen hNl
      rw [hN]
      have H2 := hide (And.intro hA1' (And.intro hA2 (And.intro (hb.trans (hb2.mono hb.size)) hlen)))
      clear q2 hb hA1 hf2 hA2 hb2 hlen hA1' hys hN H1 HQ
      go_wp2_with fail
      go_loopw [28] (fun s28 wi => ∃ i : Nat, i ≤ N ∧ s28 = .int .i64 (i : Int) ∧ Below w2.heap.size w2 wi) (fun s28 _ => N - (intOf s28).toNat)
      case atStart => exact ⟨0, by omega, rfl, Below.refl _ _⟩
      case round =>
        obtain ⟨w3, hw3⟩ : ∃ x, x = wr := ⟨_, rfl⟩
        subst hw3
        obtain ⟨i, hi, rfl, hb3⟩ := hrel
        obtain ⟨hA1, hA2, hb, hlen⟩ := unhide H2
        by_cases hiN : i < N
        · have di : decide (i < N) = true := by simp; omega
          have hA1' := hA1.below hb3
          have hA2' := hA2.below hb3
          obtain ⟨r0, r1, r2⟩ := hA1'.cells i hiN
          obtain ⟨t0, t1, t2⟩ := hA2'.cells i hiN
          unfold clV at r2 t2
          have hl := hlen i hiN
          obtain ⟨x, hx⟩ : ∃ x, fl ys i = x := ⟨_, rfl⟩
          have hcA := fun W (hW : W.heap = w3.heap) => conv_str (cl1 i) 0 x.bytes.length (cc1 i) x.bytes W rfl (fun j hj => by
            rw [Nat.zero_add]
            have := hA1'.byte i j hiN (by rw [hx]; exact hj)
            rw [hx] at this
            simpa only [World.cell?, hW] using this)
          have hcB := fun W (hW : W.heap = w3.heap) => conv_str (cl2 i) 0 x.bytes.length (cc2 i) x.bytes W rfl (fun j hj => by
            rw [Nat.zero_add]
            have := hA2'.byte i j hiN (by rw [hx]; exact hj)
            rw [hx] at this
            simpa only [World.cell?, hW] using this)
          rw [hx] at r0 r1 r2 t0 t1 t2 hl
          have hcA1 := fun q => hcA (w3.drewN q) rfl
          have hcB1 := fun q => hcB (w3.drewN q) rfl
          have hcA2 := hcA w3.drew rfl
          have hcB2 := hcB w3.drew rfl
          have hcA3 := hcA w3 rfl
          have hcB3 := hcB w3 rfl
          generalize strOfNums x.bytes = SS at *
          have i0 : (0 : Int) ≤ (i : Int) := by omega
          have i1 : (i : Int) < (N : Int) := by omega
          have H3 := hide hb3
          clear hA1 hA2 hb hlen hA1' hA2' hx hb3 hcA hcB
          go_wp2_with fail
          go_quiet (fail)
          go_wp2_with fail
          go_roundw
          case rel => exact ⟨i + 1, by omega, by go_num, below_drewN (unhide H3) _⟩
          case measure => simp [intOf]; omega
        · have di : decide (i < N) = false := by simp; omega
          have H3 := hide (hb.trans (hb3.mono hb.size))
          clear hA1 hA2 hb hlen hb3
          go_wp2_with fail
          go_ret
          exact ⟨rfl, unhide H3⟩
end Go.Proofs.YtandblanpafjoabGreatDoor

