import Derived.Test.YtandblanpafjoaaGreatDoorPack35
namespace Go.Proofs.YtandblanpafjoaaGreatDoor
open Go.RowKit Go.Extern.Stop Go.Stop Go.Extern
def ofPeer (p : Nat) (r : RR) : Prop := r = .peer p ∨ r = .known p ∨ r = .acked p ∨ ∃ q, r = .list p q
theorem Keep.mono {ro ro' : Nat → RR} {R R' : RR → Prop} {w w' : World} (h : Keep ro ro' R w w') (hR : ∀ r, R r → R' r) : Keep ro ro' R' w w' := fun k hk hr => ⟨(h k hk hr).1, fun hn => (h k hk hr).2 (fun e => hn (hR _ e))⟩
theorem mput_at (m : NetM) (p : Nat) (x : PeerM) : (m.put p x).peers p = x := by simp [NetM.put]
theorem mput_ne (m : NetM) (p i : Nat) (x : PeerM) (h : i ≠ p) : (m.put p x).peers i = m.peers i := by simp [NetM.put, h]
theorem mput_pl (m : NetM) (p : Nat) (x : PeerM) : (m.put p x).players = m.players := rfl
theorem RNet.putP {w w' : World} {ro ro' : Nat → RR} {nb p : Nat} {m : NetM} {L : RLoc} {x : PeerM} {lb' lc' : Nat → Nat → Nat} (h : RNet w ro nb m L) (hO : ∀ i, i ≠ p → lb' i = L.lb i ∧ lc' i = L.lc i)
    (hK : Keep ro ro' (ofPeer p) w w') (hz : w.heap.size ≤ w'.heap.size) (hlt : ∀ k, ro' k ≠ .none → k < w'.heap.size)
    (hpeer : p < m.players → BlkR w' ro' (.peer p) (L.pb p) (rpC { L with lb := lb', lc := lc' } (m.put p x) p) 81)
    (hknown : p < m.players → Owns w' ro' (.known p) 24 1 (.slice (some ⟨L.kb p, 0, none⟩) m.players (L.kc p)) m.players ((List.range m.players).map fun q => rlV { L with lb := lb', lc := lc' } (m.put p x) p q))
    (hacked : p < m.players → BlkR w' ro' (.acked p) (L.ab p) (Go.Proofs.YtandblanpafjoaaGreatDoor.nums .i64 (akL (m.put p x) p)) 3)
    (hlist : ∀ q, p < m.players → q < m.players → Owns w' ro' (.list p q) 3 1 (rlV { L with lb := lb', lc := lc' } (m.put p x) p q) (x.known q).length ((x.known q).map (Value.int .i64))) :
    RNet w' ro' nb (m.put p x) { L with lb := lb', lc := lc' } := by
  have hrl : ∀ i q, i ≠ p → rlV { L with lb := lb', lc := lc' } (m.put p x) i q = rlV L m i q := fun i q hi => by
    obtain ⟨e1, e2⟩ := hO i hi
    simp only [rlV, mput_ne m p i x hi]
    rw [e1, e2]
  have hnp : ∀ i, i ≠ p → ¬ ofPeer p (.peer i) ∧ ¬ ofPeer p (.known i) ∧ ¬ ofPeer p (.acked i) ∧ ∀ q, ¬ ofPeer p (.list i q) := fun i hi => by
    refine ⟨?_, ?_, ?_, fun q => ?_⟩ <;> (unfold ofPeer; rintro (e | e | e | ⟨_, e⟩) <;> first | (injection e with e; exact hi e) | (injection e with e _; exact hi e) | cases e)
  have hnn : ¬ ofPeer p .net ∧ ¬ ofPeer p .lags ∧ ¬ ofPeer p .peers ∧ ¬ ofPeer p .fls ∧ ¬ ofPeer p .bytes := by
    unfold ofPeer
    refine ⟨?_, ?_, ?_, ?_, ?_⟩ <;> (rintro (e | e | e | ⟨_, e⟩) <;> cases e)
  exact { n2 := h.n2, n4 := h.n4, lt := hlt, net := hK.blk h.net (by simp) hnn.1, lags := hK.own h.lags (by simp) hnn.2.1, peers := hK.own h.peers (by simp) hnn.2.2.1
          peer := fun i hi => by
            by_cases e : i = p
            · subst e; exact hpeer hi
            · have := hK.blk (h.peer i hi) (by simp) (hnp i e).1
              simpa [rpC, mput_ne m p i x e, mput_pl] using this
          known := fun i hi => by
            by_cases e : i = p
            · subst e; exact hknown hi
            · have := hK.own (h.known i hi) (by simp) (hnp i e).2.1
              have e2 : (fun q => rlV { L with lb := lb', lc := lc' } (m.put p x) i q) = fun q => rlV L m i q := funext fun q => hrl i q e
              rw [e2]; exact this
          acked := fun i hi => by
            by_cases e : i = p
            · subst e; exact hacked hi
            · have := hK.blk (h.acked i hi) (by simp) (hnp i e).2.2.1
              simpa [akL, mput_ne m p i x e, mput_pl] using this
          list := fun i q hi hq => by
            by_cases e : i = p
            · subst e; rw [mput_at]; exact hlist q hi hq
            · have := hK.own (h.list i q hi hq) (by simp) ((hnp i e).2.2.2 q)
              rw [hrl i q e, mput_ne m p i x e]; exact this
          fls := hK.own h.fls (by simp) hnn.2.2.2.1
          bytes := fun f hf => hK.byt hz (h.bytes f hf) hnn.2.2.2.2
          nums := h.nums }
/-- A cell of the peer's own block. -/
theorem RNet.cellP {w : World} {ro : Nat → RR} {nb p : Nat} {m : NetM} {L : RLoc} (h : RNet w ro nb m L) (hp : p < m.players) (x : PeerM) (i : Nat) (v : Value) (hk : x.known = (m.peers p).known) (ha : x.acked = (m.peers p).acked)
    (hc : (rpC L m p).setIfInBounds i v = rpC L (m.put p x) p) : RNet (w.setCell ⟨L.pb p, i, none⟩ v) ro nb (m.put p x) L := by
  have K : Keep ro ro (fun r => r = .peer p) w (w.setCell ⟨L.pb p, i, none⟩ v) := fun k _ hr => ⟨rfl, fun hn => heap_setCell_other _ _ _ _ (fun e => hn (by rw [e]; exact (h.peer p hp).2))⟩
  have hrl : ∀ q, rlV L (m.put p x) p q = rlV L m p q := fun q => by simp only [rlV, mput_at, hk]
  refine h.putP (lb' := L.lb) (lc' := L.lc) (fun _ _ => ⟨rfl, rfl⟩) (K.mono (fun r e => .inl e)) (by simp) (fun k hk => by simp; exact h.lt k hk) (fun _ => ⟨?_, (h.peer p hp).2⟩) (fun _ => ?_) (fun _ => ?_) (fun q _ hq => ?_)
  · have := (h.peer p hp).1.set i v
    rw [hc] at this; exact this
  · have e2 : (fun q => rlV { L with lb := L.lb, lc := L.lc } (m.put p x) p q) = fun q => rlV L m p q := funext fun q => hrl q
    rw [e2]; exact K.own (h.known p hp) (by simp) (by simp)
  · have e2 : akL (m.put p x) p = akL m p := by simp only [akL, mput_at, ha]; rfl
    rw [e2]; exact K.blk (h.acked p hp) (by simp) (by simp)
  · show Owns _ _ _ _ _ (rlV L (m.put p x) p q) _ _
    rw [hrl q, hk]; exact K.own (h.list p q hp hq) (by simp) (by simp)
/-- What has been acknowledged. -/
theorem RNet.ackP {w : World} {ro : Nat → RR} {nb p q : Nat} {m : NetM} {L : RLoc} (h : RNet w ro nb m L) (hp : p < m.players) (a : Nat) :
    RNet (w.setCell ⟨L.ab p, q, none⟩ (.int .i64 (a : Int))) ro nb (m.put p { m.peers p with acked := fun i => if i = q then a else (m.peers p).acked i }) L := by
  have K : Keep ro ro (fun r => r = .acked p) w (w.setCell ⟨L.ab p, q, none⟩ (.int .i64 (a : Int))) := fun k _ hr => ⟨rfl, fun hn => heap_setCell_other _ _ _ _ (fun e => hn (by rw [e]; exact (h.acked p hp).2))⟩
  have hrl : ∀ j, rlV L (m.put p { m.peers p with acked := fun i => if i = q then a else (m.peers p).acked i }) p j = rlV L m p j := fun j => by simp only [rlV, mput_at]
  refine h.putP (lb' := L.lb) (lc' := L.lc) (fun _ _ => ⟨rfl, rfl⟩) (K.mono (fun r e => .inr (.inr (.inl e)))) (by simp) (fun k hk => by simp; exact h.lt k hk) (fun _ => ?_) (fun _ => ?_) (fun _ => ⟨?_, (h.acked p hp).2⟩) (fun j _ hj => ?_)
  · have := K.blk (h.peer p hp) (by simp) (by simp)
    simpa [rpC, mput_at, mput_pl] using this
  · have e2 : (fun j => rlV { L with lb := L.lb, lc := L.lc } (m.put p { m.peers p with acked := fun i => if i = q then a else (m.peers p).acked i }) p j) = fun j => rlV L m p j := funext fun j => hrl j
    rw [e2]; exact K.own (h.known p hp) (by simp) (by simp)
  · have := (h.acked p hp).1.put q (a : Int)
    have e2 : (akL m p).set q (a : Int) = akL (m.put p { m.peers p with acked := fun i => if i = q then a else (m.peers p).acked i }) p := by
      apply List.ext_getElem (by simp [akL, NetM.put])
      intro i h1 h2
      rw [List.getElem_set]
      simp only [akL, mput_at, List.getElem_map, List.getElem_range]
      by_cases e : q = i
      · subst e; simp
      · rw [if_neg e, if_neg (fun e2 => e e2.symm)]
    rw [e2] at this; exact this
  · show Owns _ _ _ _ _ (rlV L _ p j) _ _
    rw [hrl j]; exact K.own (h.list p j hp hj) (by simp) (by simp)
/-- A list of what is known has grown. -/
def RLoc.lay (L : RLoc) (p q g c : Nat) : RLoc := { L with lb := fun i j => if i = p ∧ j = q then g else L.lb i j, lc := fun i j => if i = p ∧ j = q then c else L.lc i j }
theorem RNet.push {w w3 : World} {ro : Nat → RR} {nb p q g c M : Nat} {m : NetM} {L : RLoc} {l : List Int} (h : RNet w ro nb m L) (hp : p < m.players) (hq : q < m.players)
    (hown : w3.ownsRow 0 3 1 (.slice (some ⟨g, 0, none⟩) l.length c) l.length (l.map (Value.int .i64))) (hold : ∀ k, k < w.heap.size → k ≠ L.lb p q → w3.heap[k]? = w.heap[k]?) (hz : w.heap.size ≤ w3.heap.size) (hM : w.heap.size ≤ M) (hloc : g = L.lb p q ∨ g = M) :
    RNet (w3.setCell ⟨L.kb p, q, none⟩ (.slice (some ⟨g, 0, none⟩) l.length c)) (fun k => if k = g then .list p q else ro k) nb (m.put p ((m.peers p).learn q l)) (L.lay p q g c) := by
  have hlq := h.list p q hp hq
  have hrg : g < w.heap.size → ro g = .list p q := fun hg => by
    rcases hloc with e | e
    · rw [e]; exact hlq.2 (L.lb p q) rfl
    · omega
  have hkb := (h.known p hp).2 (L.kb p) rfl
  have hgk : g ≠ L.kb p := fun e => by
    have h1 := hrg (by rw [e]; exact ((h.known p hp).1.lt _ rfl).2)
    rw [e, hkb] at h1; cases h1
  have K : Keep ro (fun k => if k = g then .list p q else ro k) (fun r => r = .known p ∨ r = .list p q) w (w3.setCell ⟨L.kb p, q, none⟩ (.slice (some ⟨g, 0, none⟩) l.length c)) := fun k hk hr => by
    refine ⟨?_, fun hn => ?_⟩
    · show (if k = g then RR.list p q else ro k) = ro k
      split
      · next e => subst e; exact (hrg hk).symm
      · rfl
    · rw [heap_setCell_other _ _ _ _ (fun e => hn (.inl (by rw [e]; exact hkb)))]
      exact hold k hk (fun e => hn (.inr (by rw [e]; exact hlq.2 (L.lb p q) rfl)))
  have hkne : L.kb p ≠ L.lb p q := fun e => by
    have h1 := hlq.2 (L.lb p q) rfl
    rw [← e, hkb] at h1; cases h1
  have hrl : ∀ j, j ≠ q → rlV (L.lay p q g c) (m.put p ((m.peers p).learn q l)) p j = rlV L m p j := fun j hj => by
    simp [rlV, mput_at, PeerM.learn, RLoc.lay, hj]
  have hrq : rlV (L.lay p q g c) (m.put p ((m.peers p).learn q l)) p q = .slice (some ⟨g, 0, none⟩) l.length c := by
    simp [rlV, mput_at, PeerM.learn, RLoc.lay]
  refine h.putP (lb' := (L.lay p q g c).lb) (lc' := (L.lay p q g c).lc) (fun i hi => ⟨by funext j; simp [RLoc.lay, hi], by funext j; simp [RLoc.lay, hi]⟩) (K.mono (fun r e => ?_)) (by simp; exact hz) (fun k hk => ?_) (fun _ => ?_) (fun _ => ⟨?_, ?_⟩) (fun _ => ?_) (fun j _ hj => ?_)
  · rcases e with e | e
    · exact .inr (.inl e)
    · exact .inr (.inr (.inr ⟨q, e⟩))
  · rw [World.size_setCell]
    by_cases e : k = g
    · rw [e]; exact (hown.lt g rfl).2
    · rw [if_neg e] at hk
      have := h.lt k hk; omega
  · have := K.blk (h.peer p hp) (by simp) (by simp)
    simpa [rpC, mput_at, mput_pl, PeerM.learn] using this
  · have h1 : w3.ownsRow 0 24 1 (.slice (some ⟨L.kb p, 0, none⟩) m.players (L.kc p)) m.players ((List.range m.players).map fun q => rlV L m p q) := owns_same (h.known p hp).1 (fun k hk => by
      have : L.kb p = k := by simpa [Value.ownBlock] using hk
      subst this
      exact hold _ ((h.known p hp).1.lt _ rfl).2 hkne)
    have h2 := h1.stored q (.slice (some ⟨g, 0, none⟩) l.length c)
    have e3 : ((List.range m.players).map fun j => rlV L m p j).set q (.slice (some ⟨g, 0, none⟩) l.length c) = (List.range m.players).map fun j => rlV (L.lay p q g c) (m.put p ((m.peers p).learn q l)) p j := by
      apply List.ext_getElem (by simp)
      intro i h1' h2'
      rw [List.getElem_set]
      simp only [List.getElem_map, List.getElem_range]
      by_cases e : q = i
      · subst e; rw [if_pos rfl, hrq]
      · rw [if_neg e, hrl i (fun e2 => e e2.symm)]
    rw [e3] at h2
    exact h2.1
  · intro k hk
    have : L.kb p = k := by simpa [Value.ownBlock] using hk
    subst this
    show (if L.kb p = g then RR.list p q else ro (L.kb p)) = _
    rw [if_neg (Ne.symm hgk)]; exact hkb
  · have := K.blk (h.acked p hp) (by simp) (by simp)
    simpa [akL, mput_at, mput_pl, PeerM.learn] using this
  · show Owns _ _ _ _ _ (rlV (L.lay p q g c) _ p j) _ _
    by_cases e : j = q
    · subst e
      rw [hrq]
      refine ⟨?_, fun k hk => ?_⟩
      · simp only [PeerM.learn, if_pos]
        refine owns_same hown (fun k hk => heap_setCell_other _ _ _ _ ?_)
        have : g = k := by simpa [Value.ownBlock] using hk
        rw [← this]; exact hgk
      · have : g = k := by simpa [Value.ownBlock] using hk
        subst this
        show (if g = g then RR.list p j else ro g) = _
        rw [if_pos rfl]
    · rw [hrl j e]
      have := K.own (h.list p j hp hj) (by simp) (by simp [e])
      simpa [PeerM.learn, e] using this
end Go.Proofs.YtandblanpafjoaaGreatDoor

namespace Go.Proofs.YtandblanpafjoaaGreatDoor
open Go.RowKit Go.Extern.Stop Go.Stop Go.Extern
theorem put_put (m : NetM) (p : Nat) (x y : PeerM) : (m.put p x).put p y = m.put p y := by
  unfold NetM.put
  congr 1
  funext i
  by_cases e : i = p <;> simp [e]
theorem sendTo_fl (n : NetM) (p : Nat) : ∀ k, (sendTo n p k).flights.length ≤ n.flights.length + k
  | 0 => Nat.le_refl _
  | k + 1 => by
    have ih := sendTo_fl n p k
    unfold sendTo
    split
    · omega
    · show (if 0 ≤ (sendTo n p k).lag then (sendTo n p k).flights ++ [_] else (sendTo n p k).flights).length ≤ _
      split
      · simp only [List.length_append, List.length_cons, List.length_nil]; omega
      · omega
set_option maxRecDepth 10000 in
set_option maxHeartbeats 8000000 in
theorem radvance_any (nb p : Nat) (v : Int) (ro : Nat → RR) (m : NetM) (w : World) (h : RNetAt w ro nb m) (hp : p < m.players) (hv : 0 ≤ v ∧ v ≤ 255) (hok : POk (m.peers p) p m.players m.window m.delay) (hlg : ∀ x ∈ m.lags, -1 ≤ x ∧ x ≤ 20) (hs : m.sent + 4 ≤ 900000) (hnow : m.now ≤ 900000) (hfl : m.flights.length + 4 ≤ 1000000) :
    Calls Tryz.prog 29 #[.pointer (some ⟨nb, 0, none⟩), .int .i64 (p : Int), .int .i64 v] w fun e w' => e = .returned (.int .i64 ((m.advance p v).1 : Int)) ∧ ∃ ro', RNetAt w' ro' nb (m.advance p v).2 ∧ RTo w ro w' ro' := by
  obtain ⟨L, h⟩ := h
  obtain ⟨i8, hi8, hz0, hz1, hz2⟩ := info_parts Tryz.infoI64
  have HN := hide h
  have HP := hide hok
  have HLG := hide hlg
  have hn4 := h.n4
  have hn2 := h.n2
  have c5 : w.cell? ⟨nb, 5, none⟩ = some (.slice (some ⟨L.prb, 0, none⟩) m.players L.prc) := h.cell 5
  have c1 : w.cell? ⟨nb, 1, none⟩ = some (.int .i64 (m.window : Int)) := h.cell 1
  have cp := h.ptr p hp
  have p0 : (0 : Int) ≤ (p : Int) := by omega
  have p1 : (p : Int) < (m.players : Int) := by omega
  have cf : w.cell? ⟨L.pb p, 1, none⟩ = some (.int .i64 ((m.peers p).frame : Int)) := h.pcell p hp 1
  have hfr := hok.frame
  have hcall := rconf_any nb p ro m L w h hp
  clear h hok hlg
  go_enter Tryz.func29, Tryz.ntmps29
  by_cases he : (m.peers p).frame = 200
  · have hadv : m.advance p v = (3, m) := by unfold NetM.advance; rw [if_pos he]
    have hd : ((((m.peers p).frame : Nat) : Int) == 200) = true := by rw [he]; rfl
    rw [hadv]
    rw [he] at cf
    go_wp2
    go_ret
    exact ⟨rfl, ro, ⟨L, unhide HN⟩, RTo.refl _ _⟩
  · have hd : ((((m.peers p).frame : Nat) : Int) == 200) = false := by rw [beq_eq_false_iff_ne]; omega
    have hd2 : (((m.peers p).frame : Int) = 200) = False := by simp; omega
    have hd3 : ((m.peers p).frame = 200) = False := by simp; omega
    have hcl : m.conf p ≤ (m.peers p).frame := confTo_frame _ _
    have hsub : IntKind.i64.wrap (((m.peers p).frame : Int) - (m.conf p : Int)) = ((m.peers p).frame : Int) - (m.conf p : Int) := i64_id _ (by omega) (by omega)
    by_cases hst : m.window ≤ (m.peers p).frame - m.conf p
    · have hadv : m.advance p v = (4, m) := by unfold NetM.advance; rw [if_neg he, if_pos hst]
      have hds : decide ((m.window : Int) ≤ ((m.peers p).frame : Int) - (m.conf p : Int)) = true := by simp; omega
      rw [hadv]
      go_wp2_with fail
      refine hcall.mono ?_
      rintro e w1 ⟨rfl, rfl⟩
      clear hcall
      go_wp2_with fail
      go_quiet (fail)
      go_wp2_with fail
      go_ret
      exact ⟨rfl, ro, ⟨L, (unhide HN).below ⟨rfl, rfl, rfl, Nat.le_refl _, fun _ _ => rfl⟩⟩, RTo.ofBelow ⟨rfl, rfl, rfl, Nat.le_refl _, fun _ _ => rfl⟩⟩
    · have hadv : m.advance p v = (0, sendTo (m.stepped p v) p m.players) := by unfold NetM.advance; rw [if_neg he, if_neg hst]
      have hds : decide ((m.window : Int) ≤ ((m.peers p).frame : Int) - (m.conf p : Int)) = false := by simp; omega
      rw [hadv]
      have hP1 : POk (stepM (m.peers p) p v) p m.players m.window m.delay := (unhide HP).step hp v hv (by omega) (by have : m.conf p = confTo (m.peers p) m.players := rfl; omega)
      have HP1 := hide hP1
      clear hP1 hadv
      go_wp2_with fail
      refine hcall.mono ?_
      rintro e w1 ⟨rfl, rfl⟩
      clear hcall
      go_upto_region 5 with fail
      go_quiet (fail)
      go_upto_region 7 with fail
      obtain ⟨W, hW⟩ : ∃ W, W = w1.drewN nq := ⟨_, rfl⟩
      rw [← hW]
      have hNW : RNet W ro nb m L := by rw [hW]; exact (unhide HN).below ⟨rfl, rfl, rfl, Nat.le_refl _, fun _ _ => rfl⟩
      have hRW : RTo w1 ro W ro := by rw [hW]; exact RTo.ofBelow ⟨rfl, rfl, rfl, Nat.le_refl _, fun _ _ => rfl⟩
      clear hW c5 c1 cp cf hsub hds hst hcl
      have ck : W.cell? ⟨L.pb p, 0, none⟩ = some (.slice (some ⟨L.kb p, 0, none⟩) m.players (L.kc p)) := hNW.pcell p hp 0
      have ckp := hNW.kcell p p hp hp
      have hlenp := (unhide HP).len p hp
      have hown := (hNW.list p p hp hp).1
      unfold rlV at hown
      have hkl := ((hNW.known p hp).1.lt (L.kb p) rfl).2
      have hbl := (hNW.peer p hp).1.lt
      have hll := ((hNW.list p p hp hp).1.lt (L.lb p p) rfl).2
      have hne1 : L.pb p ≠ L.lb p p := fun e => by
        have h1 := (hNW.list p p hp hp).2 (L.lb p p) rfl
        rw [← e, (hNW.peer p hp).2] at h1; cases h1
      have hne2 : L.kb p ≠ L.lb p p := fun e => by
        have h1 := (hNW.list p p hp hp).2 (L.lb p p) rfl
        rw [← e, (hNW.known p hp).2 (L.kb p) rfl] at h1; cases h1
      have fk := (hNW.known p hp).1.frozenAt p
      have HNW := hide (And.intro hNW hRW)
      have HOW := hide hown
      clear hNW hRW hown
      refine wp_region_noPanic ?_
      refine wp_held_tail 13 15 (fun W' => W'.cell? ⟨L.pb p, 0, none⟩ = some (.slice (some ⟨L.kb p, 0, none⟩) m.players (L.kc p)) ∧ W'.cell? ⟨L.kb p, p, none⟩ = some (.slice (some ⟨L.lb p p, 0, none⟩) ((m.peers p).known p).length (L.lc p p))) (by kernel_rfl) (by decide) (by kernel_rfl) (by kernel_rfl) (by kernel_rfl) (fun _ _ _ _ _ h => h) ⟨ck, ckp⟩ ?_
      simp only [List.take_succ_cons, List.take_zero, List.drop_succ_cons, List.drop_zero]
      refine wpHeld_op ?y0 rfl ?z0 ?_
      case z0 => intro w' hS; obtain ⟨hS1, hS2⟩ := hS; go_simp; rfl
      refine wpHeld_op ?y1 rfl ?z1 ?_
      case z1 => intro w' hS; obtain ⟨hS1, hS2⟩ := hS; go_simp; rfl
      refine wpHeld_op ?y2 rfl ?z2 ?_
      case z2 => intro w' hS; obtain ⟨hS1, hS2⟩ := hS; go_simp; rfl
      refine wpHeld_op ?y3 rfl ?z3 ?_
      case z3 => intro w' hS; obtain ⟨hS1, hS2⟩ := hS; go_simp; rfl
      refine wpHeld_op ?y4 rfl ?z4 ?_
      case z4 => intro w' hS; obtain ⟨hS1, hS2⟩ := hS; go_simp; rfl
      refine wpHeld_op ?y5 rfl ?z5 ?_
      case z5 => intro w' hS; obtain ⟨hS1, hS2⟩ := hS; go_simp; rfl
      refine wpHeld_op ?y6 rfl ?z6 ?_
      case z6 => intro w' hS; obtain ⟨hS1, hS2⟩ := hS; go_simp; rfl
      refine wpHeld_op ?y7 rfl ?z7 ?_
      case z7 => intro w' hS; obtain ⟨hS1, hS2⟩ := hS; go_simp; rfl
      refine wpHeld_op ?y8 rfl ?z8 ?_
      case z8 => intro w' hS; obtain ⟨hS1, hS2⟩ := hS; go_simp; rfl
      refine wpHeld_op ?y9 rfl ?z9 ?_
      case z9 => intro w' hS; obtain ⟨hS1, hS2⟩ := hS; go_simp; rfl
      refine wpHeld_op ?y10 rfl ?z10 ?_
      case z10 => intro w' hS; obtain ⟨hS1, hS2⟩ := hS; go_simp; rfl
      refine wpHeld_op ?y11 rfl ?z11 ?_
      case z11 => intro w' hS; obtain ⟨hS1, hS2⟩ := hS; go_simp; rfl
      refine wpHeld_op ?y12 rfl ?z12 ?_
      case z12 => intro w' hS; obtain ⟨hS1, hS2⟩ := hS; go_simp; rfl
      unfold wpHeld
      refine wpAnyH_all (rs := [13]) (by kernel_rfl) (by simp) ?_
      intro jj hjj
      obtain rfl : jj = 13 := by simpa using hjj
      refine wpOp_of_list _ rfl rfl ?_
      have hBa : Below W.heap.size W (W.drew.alloc (.cells #[.int .i64 v] 3)) := (Below.refl _ W).drew.alloc (Nat.le_refl _) _
      have hSA : (W.drew.alloc (.cells #[.int .i64 v] 3)).cell? ⟨L.pb p, 0, none⟩ = some (.slice (some ⟨L.kb p, 0, none⟩) m.players (L.kc p)) ∧ (W.drew.alloc (.cells #[.int .i64 v] 3)).cell? ⟨L.kb p, p, none⟩ = some (.slice (some ⟨L.lb p p, 0, none⟩) ((m.peers p).known p).length (L.lc p p)) :=
        ⟨(hBa.cell (p := ⟨L.pb p, 0, none⟩) hbl).trans ck, (hBa.cell (p := ⟨L.kb p, p, none⟩) hkl).trans ckp⟩
      go_wp2_with fail
      refine ⟨hSA, ?_⟩
      refine wpAnyH_all (rs := [14]) (by kernel_rfl) (by simp) ?_
      intro jj hjj
      obtain rfl : jj = 14 := by simpa using hjj
      refine wpOp_of_list _ rfl rfl ?_
      go_simp
      have hownA : (W.drew.alloc (.cells #[.int .i64 v] 3)).ownsRow 0 3 1 (.slice (some ⟨L.lb p p, 0, none⟩) ((m.peers p).known p).length (L.lc p p)) ((m.peers p).known p).length (((m.peers p).known p).map (Value.int .i64)) := owns_same (unhide HOW) (fun k hk => hBa.block k (by have := (unhide HOW).lt k hk; omega))
      refine wpList_append_own_at (W.drew.alloc (.cells #[.int .i64 v] 3)) rfl (.tmp 47) (.tmp 49) 24 rfl 0 3 i8 _ 1 8 Tryz.underlying24 hi8 hz0 hz1 hz2 rfl (by decide) (.slice (some ⟨L.lb p p, 0, none⟩) ((m.peers p).known p).length (L.lc p p)) _ _ rfl hownA ⟨W.heap.size, 0, none⟩ 1 1 [.int .i64 v] rfl rfl (cell_one_new _ _ _) (by simp [Value.oneCell']) (by unfold maxLen; omega) (by omega) (Nat.zero_le _) ?_
      intro v' w3 hown3 hg3 hnil3 hloc3
      obtain ⟨g, c, rfl, _, hg3l, _⟩ := own_some hown3 (by omega)
      have hold : ∀ k, k < W.heap.size → k ≠ L.lb p p → w3.heap[k]? = W.heap[k]? := fun k hk hne => (hg3.block k (by have := hBa.size; omega) (fun e => hne (by simpa [Value.ownBlock] using e))).trans (hBa.block k hk)
      have hz3 : W.heap.size ≤ w3.heap.size := Nat.le_trans hBa.size hg3.size
      have hloc : g = L.lb p p ∨ g = W.heap.size + 1 := hloc3.imp (fun e => by simpa [Value.ownBlock] using e) (fun e => by simpa [Value.ownBlock] using e)
      have k0 : w3.cell? ⟨L.pb p, 0, none⟩ = some (.slice (some ⟨L.kb p, 0, none⟩) m.players (L.kc p)) := (World.cell?_of_block (a := ⟨L.pb p, 0, none⟩) (hold _ hbl hne1)).trans ck
      have k1 : w3.cell? ⟨L.kb p, p, none⟩ = some (.slice (some ⟨L.lb p p, 0, none⟩) ((m.peers p).known p).length (L.lc p p)) := (World.cell?_of_block (a := ⟨L.kb p, p, none⟩) (hold _ hkl hne2)).trans ckp
      have kf : w3.frozen? ⟨L.kb p, p, none⟩ = false := (World.frozen?_of_block (a := ⟨L.kb p, p, none⟩) (hold _ hkl hne2)).trans fk
      refine ⟨⟨k0, k1⟩, ⟨by kernel_rfl, ?_⟩⟩
      have hN4 := (unhide HNW).1.push (l := (m.peers p).known p ++ [v]) (g := g) (c := c) (M := W.heap.size + 1) hp hp (by simpa using hown3) hold hz3 (by omega) hloc
      have hC4 : Chg (fun k => ro k ≠ .none) W (w3.setCell ⟨L.kb p, p, none⟩ (.slice (some ⟨g, 0, none⟩) (((m.peers p).known p).length + 1) c)) :=
        ⟨hg3.os.trans hBa.os, hg3.tape.trans hBa.tape, hg3.output.trans hBa.output, by simpa using hz3, fun k hk hF => by
          rw [heap_setCell_other _ _ _ _ (fun e => hF (by rw [e, ((unhide HNW).1.known p hp).2 (L.kb p) rfl]; simp))]
          exact hold k hk (fun e => hF (by rw [e, ((unhide HNW).1.list p p hp hp).2 (L.lb p p) rfl]; simp))⟩
      have hR4 : RTo w1 ro (w3.setCell ⟨L.kb p, p, none⟩ (.slice (some ⟨g, 0, none⟩) (((m.peers p).known p).length + 1) c)) (fun k => if k = g then .list p p else ro k) := by
        refine (unhide HNW).2.trans ⟨hC4, fun k hk hk2 => ?_⟩
        by_cases e : k = g
        · rcases hloc with e2 | e2
          · rw [e, e2, ((unhide HNW).1.list p p hp hp).2 (L.lb p p) rfl]; simp
          · omega
        · rw [if_neg e] at hk2; exact hk2
      rw [List.length_append, List.length_cons, List.length_nil] at hN4
      have H4 := hide (And.intro hN4 hR4)
      clear hown3 hg3 hnil3 hloc3 hN4 hC4 hR4 hownA hBa hSA hold hloc k0
      change wpList _ _ _ _ _ _
      go_wp2_with fail
      refine NoPanic.normal ?_
      obtain ⟨w4, hw4⟩ : ∃ x, x = w3.setCell ⟨L.kb p, p, none⟩ (.slice (some ⟨g, 0, none⟩) (((m.peers p).known p).length + 1) c) := ⟨_, rfl⟩
      try rw [← hw4]
      rw [← hw4] at H4
      obtain ⟨hN4, hR4⟩ := unhide H4
      have b1 : w4.cell? ⟨L.pb p, 1, none⟩ = some (.int .i64 ((m.peers p).frame : Int)) := by
        have := hN4.pcell p hp 1
        simpa [rpC, mput_at, PeerM.learn, RLoc.lay] using this
      have bf : w4.frozen? ⟨L.pb p, 1, none⟩ = false := (hN4.peer p hp).1.frozen 1
      have hfadd : IntKind.i64.wrap (((m.peers p).frame : Int) + 1) = ((m.peers p).frame : Int) + 1 := i64_id _ (by omega) (by omega)
      have hN5 : RNet (w4.setCell ⟨L.pb p, 1, none⟩ (.int .i64 (((m.peers p).frame : Int) + 1))) (fun k => if k = g then .list p p else ro k) nb (m.stepped p v) (L.lay p p g c) := by
        have := hN4.cellP hp { (m.peers p).learn p ((m.peers p).known p ++ [v]) with frame := (m.peers p).frame + 1 } 1 (.int .i64 (((m.peers p).frame : Int) + 1)) (by rw [mput_at]) (by rw [mput_at]) (by simp [rpC, mput_at, mput_pl, PeerM.learn, RLoc.lay])
        rw [put_put] at this
        exact this
      have hR5 : RTo w1 ro (w4.setCell ⟨L.pb p, 1, none⟩ (.int .i64 (((m.peers p).frame : Int) + 1))) (fun k => if k = g then .list p p else ro k) := hR4.trans ⟨Chg.setCell _ _ _ _ (by
        show (if L.pb p = g then RR.list p p else ro (L.pb p)) ≠ .none
        have := (hN4.peer p hp).2
        have e : (if L.pb p = g then RR.list p p else ro (L.pb p)) = .peer p := this
        rw [e]; simp), fun _ _ h => h⟩
      have H5 := hide (And.intro hN5 hR5)
      have c0 : (w4.setCell ⟨L.pb p, 1, none⟩ (.int .i64 (((m.peers p).frame : Int) + 1))).cell? ⟨nb, 0, none⟩ = some (.int .i64 (m.players : Int)) := hN5.cell 0
      clear hN4 hR4 hN5 hR5 H4 hw4 k1 kf
      go_wp2_with fail
      obtain ⟨w5, hw5⟩ : ∃ x, x = w4.setCell ⟨L.pb p, 1, none⟩ (.int .i64 (((m.peers p).frame : Int) + 1)) := ⟨_, rfl⟩
      try rw [← hw5]
      rw [← hw5] at H5
      clear c0 hw5
      go_loopw [9] (fun s wr => ∃ (k : Nat) (ro2 : Nat → RR), k ≤ m.players ∧ s = .int .i64 (k : Int) ∧ RNetAt wr ro2 nb (sendTo (m.stepped p v) p k) ∧ RTo w1 ro wr ro2) (fun s _ => m.players - (intOf s).toNat)
      case atStart => exact ⟨0, _, by omega, rfl, ⟨_, (unhide H5).1⟩, (unhide H5).2⟩
      case round =>
        obtain ⟨k, ro2, hk, rfl, hQ, hR⟩ := hrel
        have hsm := sendTo_same (m.stepped p v) p k
        have hpl : (sendTo (m.stepped p v) p k).players = m.players := hsm.1
        have c0 : wr.cell? ⟨nb, 0, none⟩ = some (.int .i64 (m.players : Int)) := by
          obtain ⟨L2, h2⟩ := hQ
          rw [← hpl]; exact h2.cell 0
        have HQ := hide (And.intro hQ hR)
        clear hQ hR
        by_cases hlt : k < m.players
        · have hdk : decide ((k : Int) < (m.players : Int)) = true := by simp; omega
          have hadd := i64_id ((k : Int) + 1) (by omega) (by omega)
          by_cases hkp : k = p
          · have hne : ((k : Int) != (p : Int)) = false := by simp [hkp]
            have HK := hide hkp
            clear hkp
            go_wp2
            obtain ⟨hQ, hR⟩ := unhide HQ
            refine ⟨⟨k + 1, ro2, by omega, by go_num, ?_, hR⟩, by simp [intOf]; omega⟩
            simp only [sendTo, if_pos (unhide HK)]
            exact hQ
          · have hne : ((k : Int) != (p : Int)) = true := by simp; omega
            have HK := hide hkp
            have hss := sendTo_sent (m.stepped p v) p k
            have hsf := sendTo_fl (m.stepped p v) p k
            have h1 : (m.stepped p v).sent = m.sent := rfl
            have h2 : (m.stepped p v).flights = m.flights := rfl
            rw [h1] at hss
            rw [h2] at hsf
            have hsend := rsend_any nb p k ro2 (sendTo (m.stepped p v) p k) wr (unhide HQ).1 (by rw [hpl]; exact hp) (by rw [hpl]; exact hlt) (by
              rw [hsm.2.1, hpl, hsm.2.2.2.1, hsm.2.2.2.2.1]
              have e : (m.stepped p v).peers p = stepM (m.peers p) p v := by simp [NetM.stepped, NetM.put, stepM]
              rw [e]; exact unhide HP1) (by rw [hsm.2.2.2.2.2]; exact unhide HLG) (by omega) (by rw [hsm.2.2.1]; exact hnow) (by omega)
            clear hkp hsm
            go_wp2_with fail
            refine hsend.mono ?_
            clear hsend
            rintro e w6 ⟨rfl, ro3, hQ3, hR3⟩
            have H6 := hide (And.intro hQ3 hR3)
            clear hQ3 hR3
            go_wp2_with fail
            go_roundw
            case rel =>
              refine ⟨k + 1, ro3, by omega, by go_num, ?_, (unhide HQ).2.trans (unhide H6).2⟩
              simp only [sendTo, if_neg (unhide HK)]
              exact (unhide H6).1
            case measure => simp [intOf]; omega
        · have hkn : k = m.players := by omega
          have hdk : decide ((k : Int) < (m.players : Int)) = false := by simp; omega
          clear hsm
          go_wp2
          go_ret
          obtain ⟨hQ, hR⟩ := unhide HQ
          rw [hkn] at hQ
          exact ⟨rfl, ro2, hQ, hR⟩
end Go.Proofs.YtandblanpafjoaaGreatDoor

