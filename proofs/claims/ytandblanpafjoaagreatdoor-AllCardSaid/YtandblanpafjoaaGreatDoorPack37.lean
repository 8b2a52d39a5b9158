import Derived.Test.YtandblanpafjoaaGreatDoorPack36
import Derived.Test.YtandblanpafjoaaGreatDoorPack29
namespace Go.Proofs.YtandblanpafjoaaGreatDoor
open Go.RowKit Go.Extern.Stop Go.Stop Go.Extern
def dels (n delay : Nat) : List Int := List.replicate n (delay : Int)
structure PMade (w : World) (ro : Nat → RR) (p ja jk n delay xb ab : Nat) (kv : Value) (lb : Nat → Nat) : Prop where
  peer : BlkR w ro (.peer p) xb #[kv, .int .i64 0, .slice (some ⟨ab, 0, none⟩) n n, .int .i64 0] 81
  acked : BlkR w ro (.acked p) ab (nums .i64 (upTo (dels n delay) n ja)) 3
  known : Owns w ro (.known p) 24 1 kv jk ((List.range jk).map fun q => .slice (some ⟨lb q, 0, none⟩) delay delay)
  list : ∀ q, q < jk → BlkR w ro (.list p q) (lb q) (nums .i64 (List.replicate delay 0)) 3
structure RMade (w : World) (ro : Nat → RR) (nb k n win delay : Nat) (st : Int) (lagv prv : Value) (lags : List Int) (pb kb kc ab : Nat → Nat) (lb : Nat → Nat → Nat) : Prop where
  lt : ∀ j, ro j ≠ .none → j < w.heap.size
  net : BlkR w ro .net nb #[.int .i64 (n : Int), .int .i64 (win : Int), .int .i64 (delay : Int), .int .i64 st, lagv, prv, .slice none 0 0, .int .i64 0, .int .i64 0] 73
  lags : Owns w ro .lags 3 1 lagv lags.length (lags.map (Value.int .i64))
  peers : Owns w ro .peers 82 1 prv k ((List.range k).map fun p => .pointer (some ⟨pb p, 0, none⟩))
  part : ∀ p, p < k → PMade w ro p n n n delay (pb p) (ab p) (.slice (some ⟨kb p, 0, none⟩) n (kc p)) (lb p)
theorem ofPeer_ne {p i : Nat} (hi : i ≠ p) : ¬ ofPeer p (.peer i) ∧ ¬ ofPeer p (.known i) ∧ ¬ ofPeer p (.acked i) ∧ ∀ q, ¬ ofPeer p (.list i q) := by
  refine ⟨?_, ?_, ?_, fun q => ?_⟩ <;> (unfold ofPeer; rintro (e | e | e | ⟨_, e⟩) <;> first | (injection e with e; exact hi e) | (injection e with e _; exact hi e) | cases e)
theorem ofPeer_no (p : Nat) : ¬ ofPeer p .net ∧ ¬ ofPeer p .lags ∧ ¬ ofPeer p .peers ∧ ¬ ofPeer p .fls ∧ ¬ ofPeer p .bytes := by
  unfold ofPeer
  refine ⟨?_, ?_, ?_, ?_, ?_⟩ <;> (rintro (e | e | e | ⟨_, e⟩) <;> cases e)
theorem PMade.keep {w w' : World} {ro ro' : Nat → RR} {R : RR → Prop} {p ja jk n delay xb ab : Nat} {kv : Value} {lb : Nat → Nat} (h : PMade w ro p ja jk n delay xb ab kv lb) (hK : Keep ro ro' R w w') (hR : ¬ R (.peer p) ∧ ¬ R (.known p) ∧ ¬ R (.acked p) ∧ ∀ q, ¬ R (.list p q)) : PMade w' ro' p ja jk n delay xb ab kv lb :=
  ⟨hK.blk h.peer (by simp) hR.1, hK.blk h.acked (by simp) hR.2.2.1, hK.own h.known (by simp) hR.2.1, fun q hq => hK.blk (h.list q hq) (by simp) (hR.2.2.2 q)⟩
/-- The peer that is being made changes. -/
theorem RMade.keep {w w' : World} {ro ro' : Nat → RR} {nb k n win delay : Nat} {st : Int} {lagv prv : Value} {lags : List Int} {pb kb kc ab : Nat → Nat} {lb : Nat → Nat → Nat} (h : RMade w ro nb k n win delay st lagv prv lags pb kb kc ab lb) (hK : Keep ro ro' (ofPeer k) w w') (hlt : ∀ j, ro' j ≠ .none → j < w'.heap.size) : RMade w' ro' nb k n win delay st lagv prv lags pb kb kc ab lb :=
  ⟨hlt, hK.blk h.net (by simp) (ofPeer_no k).1, hK.own h.lags (by simp) (ofPeer_no k).2.1, hK.own h.peers (by simp) (ofPeer_no k).2.2.1, fun p hp => (h.part p hp).keep hK (ofPeer_ne (by omega))⟩
theorem Keep.new {ro ro' : Nat → RR} {w w' : World} (hb : Below w.heap.size w w') (ho : ∀ k, k < w.heap.size → ro' k = ro k) : Keep ro ro' (fun _ => False) w w' := fun k hk _ => ⟨ho k hk, fun _ => hb.block k hk⟩
/-- A peer begins. -/
theorem PMade.start {w' : World} {ro : Nat → RR} {p n delay s : Nat} (ha : Blk w' s (nums .i64 (List.replicate n 0)) 3) (hx : Blk w' (s + 1) #[.slice none 0 0, .int .i64 0, .slice (some ⟨s, 0, none⟩) n n, .int .i64 0] 81) (lb : Nat → Nat) :
    PMade w' (fun j => if j = s then .acked p else if j = s + 1 then .peer p else ro j) p 0 0 n delay (s + 1) s (.slice none 0 0) lb :=
  ⟨⟨hx, by simp⟩, ⟨by rw [upTo_zero]; exact ha, by simp⟩, ⟨by simpa using World.ownsRow_nil _ _ _ _, fun k hk => by simp [Value.ownBlock] at hk⟩, fun q hq => by omega⟩
theorem PMade.ack {w : World} {ro : Nat → RR} {p j jk n delay xb ab : Nat} {kv : Value} {lb : Nat → Nat} (h : PMade w ro p j jk n delay xb ab kv lb) (hj : j < n) : PMade (w.setCell ⟨ab, j, none⟩ (.int .i64 (delay : Int))) ro p (j + 1) jk n delay xb ab kv lb := by
  have K : Keep ro ro (fun r => r = .acked p) w (w.setCell ⟨ab, j, none⟩ (.int .i64 (delay : Int))) := fun k _ hr => ⟨rfl, fun hn => heap_setCell_other _ _ _ _ (fun e => hn (by rw [e]; exact h.acked.2))⟩
  refine ⟨K.blk h.peer (by simp) (by simp), ⟨?_, h.acked.2⟩, K.own h.known (by simp) (by simp), fun q hq => K.blk (h.list q hq) (by simp) (by simp)⟩
  have := h.acked.1.put j (delay : Int)
  have e : (dels n delay).getD j 0 = (delay : Int) := by simp [dels, List.getD_eq_getElem?_getD, hj]
  rw [← upTo_succ (dels n delay) n j (by simp [dels]) hj, e]
  exact this
/-- A list more is known. -/
theorem PMade.learn {w w3 : World} {ro : Nat → RR} {p ja j n delay xb ab g c s : Nat} {kv : Value} {lb : Nat → Nat} (h : PMade w ro p ja j n delay xb ab kv lb) (hlt : ∀ i, ro i ≠ .none → i < w.heap.size) (hs : w.heap.size ≤ s)
    (hl : Blk w3 s (nums .i64 (List.replicate delay 0)) 3) (hown : w3.ownsRow 0 24 1 (.slice (some ⟨g, 0, none⟩) (j + 1) c) (j + 1) (((List.range j).map fun q => .slice (some ⟨lb q, 0, none⟩) delay delay) ++ [.slice (some ⟨s, 0, none⟩) delay delay]))
    (hold : ∀ k, k < w.heap.size → kv.ownBlock ≠ some k → w3.heap[k]? = w.heap[k]?) (hz : w.heap.size ≤ w3.heap.size) (hloc : kv.ownBlock = some g ∨ g = s + 2) :
    PMade (w3.setCell ⟨xb, 0, none⟩ (.slice (some ⟨g, 0, none⟩) (j + 1) c)) (fun k => if k = s then .list p j else if k = g then .known p else ro k) p ja (j + 1) n delay xb ab (.slice (some ⟨g, 0, none⟩) (j + 1) c) (fun q => if q = j then s else lb q) ∧
    Keep ro (fun k => if k = s then .list p j else if k = g then .known p else ro k) (fun r => r = .peer p ∨ r = .known p) w (w3.setCell ⟨xb, 0, none⟩ (.slice (some ⟨g, 0, none⟩) (j + 1) c)) ∧
    (∀ k, (if k = s then RR.list p j else if k = g then .known p else ro k) ≠ .none → k < (w3.setCell ⟨xb, 0, none⟩ (.slice (some ⟨g, 0, none⟩) (j + 1) c)).heap.size) := by
  have hgr : g < w.heap.size → ro g = .known p := fun hg => by
    rcases hloc with e | e
    · exact h.known.2 g e
    · omega
  have hgs : g ≠ s := fun e => by
    rcases hloc with e2 | e2
    · have := (h.known.1.lt g e2).2; omega
    · omega
  have hxl := h.peer.1.lt
  have hgx : g ≠ xb := fun e => by
    have h1 := hgr (by omega)
    rw [e, h.peer.2] at h1; cases h1
  have K : Keep ro (fun k => if k = s then .list p j else if k = g then .known p else ro k) (fun r => r = .peer p ∨ r = .known p) w (w3.setCell ⟨xb, 0, none⟩ (.slice (some ⟨g, 0, none⟩) (j + 1) c)) := fun k hk hr => by
    refine ⟨?_, fun hn => ?_⟩
    · show (if k = s then RR.list p j else if k = g then .known p else ro k) = ro k
      rw [if_neg (by omega)]
      split
      · next e => subst e; exact (hgr hk).symm
      · rfl
    · rw [heap_setCell_other _ _ _ _ (fun e => hn (.inl (by rw [e]; exact h.peer.2)))]
      exact hold k hk (fun e => hn (.inr (h.known.2 k e)))
  have hx3 : Blk w3 xb #[kv, .int .i64 0, .slice (some ⟨ab, 0, none⟩) n n, .int .i64 0] 81 := (hold xb hxl (fun e => by
    have := h.known.2 xb e
    rw [h.peer.2] at this; cases this)).trans h.peer.1
  refine ⟨⟨⟨by have := hx3.set 0 (.slice (some ⟨g, 0, none⟩) (j + 1) c); simpa using this, ?_⟩, K.blk h.acked (by simp) (by simp), ⟨?_, fun k hk => ?_⟩, fun q hq => ?_⟩, K, fun k hk => ?_⟩
  · show (if xb = s then RR.list p j else if xb = g then .known p else ro xb) = _
    rw [if_neg (by omega), if_neg (Ne.symm hgx)]; exact h.peer.2
  · have e : ((List.range (j + 1)).map fun q => Value.slice (some ⟨if q = j then s else lb q, 0, none⟩) delay delay) = ((List.range j).map fun q => .slice (some ⟨lb q, 0, none⟩) delay delay) ++ [.slice (some ⟨s, 0, none⟩) delay delay] := by
      rw [List.range_succ, List.map_append]
      congr 1
      · refine List.map_congr_left fun q hq => ?_
        rw [List.mem_range] at hq
        rw [if_neg (by omega)]
      · simp
    rw [e]
    exact owns_same hown (fun k hk => heap_setCell_other _ _ _ _ (fun e => hgx ((show g = k by simpa [Value.ownBlock] using hk).trans e)))
  · have : g = k := by simpa [Value.ownBlock] using hk
    subst this
    show (if g = s then RR.list p j else if g = g then .known p else ro g) = _
    rw [if_neg hgs, if_pos rfl]
  · by_cases e : q = j
    · subst e
      refine ⟨?_, ?_⟩
      · simp only [if_pos]
        exact (heap_setCell_other _ _ _ _ (fun e => by have : s = xb := e; omega)).trans hl
      · simp
    · have := K.blk (h.list q (by omega)) (by simp) (by simp)
      simpa [e] using this
  · rw [World.size_setCell]
    by_cases e : k = s
    · rw [e]; exact hl.lt
    · rw [if_neg e] at hk
      by_cases e2 : k = g
      · rw [e2]; exact (hown.lt g rfl).2
      · rw [if_neg e2] at hk
        have := hlt k hk; omega
/-- The peer is one of the net's. -/
theorem RMade.add {w w3 : World} {ro : Nat → RR} {nb k n win delay xb a kbk kck g c s : Nat} {st : Int} {lagv prv : Value} {lags : List Int} {pb kb kc ab lbk : Nat → Nat} {lb : Nat → Nat → Nat} (h : RMade w ro nb k n win delay st lagv prv lags pb kb kc ab lb)
    (hp : PMade w ro k n n n delay xb a (.slice (some ⟨kbk, 0, none⟩) n kck) lbk) (hs : w.heap.size ≤ s)
    (hown : w3.ownsRow 0 82 1 (.slice (some ⟨g, 0, none⟩) (k + 1) c) (k + 1) (((List.range k).map fun p => .pointer (some ⟨pb p, 0, none⟩)) ++ [.pointer (some ⟨xb, 0, none⟩)]))
    (hold : ∀ i, i < w.heap.size → prv.ownBlock ≠ some i → w3.heap[i]? = w.heap[i]?) (hz : w.heap.size ≤ w3.heap.size) (hloc : prv.ownBlock = some g ∨ g = s) :
    RMade (w3.setCell ⟨nb, 5, none⟩ (.slice (some ⟨g, 0, none⟩) (k + 1) c)) (fun i => if i = g then .peers else ro i) nb (k + 1) n win delay st lagv (.slice (some ⟨g, 0, none⟩) (k + 1) c) lags (fun p => if p = k then xb else pb p) (fun p => if p = k then kbk else kb p) (fun p => if p = k then kck else kc p) (fun p => if p = k then a else ab p) (fun p => if p = k then lbk else lb p) := by
  have hgr : g < w.heap.size → ro g = .peers := fun hg => by
    rcases hloc with e | e
    · exact h.peers.2 g e
    · omega
  have hnl := h.net.1.lt
  have hgn : g ≠ nb := fun e => by
    have h1 := hgr (by omega)
    rw [e, h.net.2] at h1; cases h1
  have K : Keep ro (fun i => if i = g then .peers else ro i) (fun r => r = .net ∨ r = .peers) w (w3.setCell ⟨nb, 5, none⟩ (.slice (some ⟨g, 0, none⟩) (k + 1) c)) := fun i hi hr => by
    refine ⟨?_, fun hn => ?_⟩
    · show (if i = g then RR.peers else ro i) = ro i
      split
      · next e => subst e; exact (hgr hi).symm
      · rfl
    · rw [heap_setCell_other _ _ _ _ (fun e => hn (.inl (by rw [e]; exact h.net.2)))]
      exact hold i hi (fun e => hn (.inr (h.peers.2 i e)))
  have hn3 : Blk w3 nb #[.int .i64 (n : Int), .int .i64 (win : Int), .int .i64 (delay : Int), .int .i64 st, lagv, prv, .slice none 0 0, .int .i64 0, .int .i64 0] 73 := (hold nb hnl (fun e => by
    have := h.peers.2 nb e
    rw [h.net.2] at this; cases this)).trans h.net.1
  refine ⟨fun i hi => ?_, ⟨by have := hn3.set 5 (.slice (some ⟨g, 0, none⟩) (k + 1) c); simpa using this, ?_⟩, K.own h.lags (by simp) (by simp), ⟨?_, fun i hi => ?_⟩, fun p hpk => ?_⟩
  · rw [World.size_setCell]
    by_cases e : i = g
    · rw [e]; exact (hown.lt g rfl).2
    · rw [if_neg e] at hi
      have := h.lt i hi; omega
  · show (if nb = g then RR.peers else ro nb) = _
    rw [if_neg (Ne.symm hgn)]; exact h.net.2
  · have e : ((List.range (k + 1)).map fun p => Value.pointer (some ⟨if p = k then xb else pb p, 0, none⟩)) = ((List.range k).map fun p => .pointer (some ⟨pb p, 0, none⟩)) ++ [.pointer (some ⟨xb, 0, none⟩)] := by
      rw [List.range_succ, List.map_append]
      congr 1
      · refine List.map_congr_left fun q hq => ?_
        rw [List.mem_range] at hq
        rw [if_neg (by omega)]
      · simp
    rw [e]
    exact owns_same hown (fun i hi => heap_setCell_other _ _ _ _ (fun e => hgn ((show g = i by simpa [Value.ownBlock] using hi).trans e)))
  · have : g = i := by simpa [Value.ownBlock] using hi
    subst this
    exact if_pos rfl
  · by_cases e : p = k
    · subst e
      have := hp.keep K (by simp)
      simpa using this
    · have := (h.part p (by omega)).keep K (by simp)
      simpa [e] using this
/-- The net is made. -/
theorem RMade.net_at {w : World} {ro : Nat → RR} {nb n win delay g c : Nat} {st : Int} {lagv : Value} {lags : List Int} {pb kb kc ab : Nat → Nat} {lb : Nat → Nat → Nat} (h : RMade w ro nb n n win delay st lagv (.slice (some ⟨g, 0, none⟩) n c) lags pb kb kc ab lb) (hn2 : 2 ≤ n) (hn4 : n ≤ 4) (hd : delay ≤ 3) : RNetAt w ro nb (newM n win delay lags) := by
  refine ⟨{ st := st, lagv := lagv, prb := g, prc := c, flv := .slice none 0 0, pb := pb, kb := kb, kc := kc, ab := ab, lb := lb, lc := fun _ _ => delay, fb := fun _ => .nilIface }, ?_⟩
  have hak : ∀ p, akL (newM n win delay lags) p = dels n delay := fun p => by
    apply List.ext_getElem (by simp [akL, newM, dels])
    intro i h1 h2
    simp [akL, newM, dels]
  exact { n2 := hn2, n4 := hn4, lt := h.lt, net := by simpa [rnC, newM] using h.net, lags := h.lags, peers := h.peers
          peer := fun p hp => by simpa [rpC, newM] using (h.part p hp).peer
          known := fun p hp => by simpa [rlV, newM] using (h.part p hp).known
          acked := fun p hp => by rw [hak]; have := (h.part p hp).acked; rwa [upTo_all _ _ (by simp [dels])] at this
          list := fun p q hp hq => by
            have h1 := (h.part p hp).list q hq
            refine ⟨?_, fun k hk => ?_⟩
            · have e : (nums .i64 (List.replicate delay 0)).size = delay := by simp [nums]
              refine ⟨by simp [newM], .inr ⟨lb p q, delay, nums .i64 (List.replicate delay 0), by simp [rlV, newM], Nat.zero_le _, h1.1, by simp [newM], by unfold maxLen; omega, by omega, ?_⟩⟩
              simp [newM, nums]
            · have : lb p q = k := by simpa [rlV, Value.ownBlock] using hk
              subst this; exact h1.2
          fls := ⟨by simpa [newM] using World.ownsRow_nil _ _ _ _, fun k hk => by simp [Value.ownBlock] at hk⟩
          bytes := fun f hf => by simp [newM] at hf
          nums := fun f hf => by simp [newM] at hf }
end Go.Proofs.YtandblanpafjoaaGreatDoor

namespace Go.Proofs.YtandblanpafjoaaGreatDoor
open Go.RowKit Go.Extern.Stop Go.Stop Go.Extern
def cfgA (n win delay kind : Int) (lv : Value) : Array Value := #[.int .i64 n, .int .i64 win, .int .i64 delay, .int .i64 kind, lv]
theorem Tryz.sizeCfg : (Tryz.prog.info? 50).map (·.size) = some 5 := by kernel_rfl
theorem lag_len {w : World} {lv : Value} {lags : List Int} (h : LagSrc w lv lags) : ∃ ao c, lv = .slice ao lags.length c := by
  rcases h with ⟨rfl, rfl⟩ | ⟨b, c, rfl, _⟩
  · exact ⟨none, 0, rfl⟩
  · exact ⟨_, c, rfl⟩
set_option maxRecDepth 10000 in
set_option maxHeartbeats 4000000 in
theorem rnew_bad (n win delay kind : Int) (lv : Value) (lags : List Int) (w : World) (h : LagSrc w lv lags) (hl : lags.length ≤ 100000) (hno : ¬ ((2 ≤ n ∧ n ≤ 4) ∧ 1 ≤ win ∧ win ≤ 8 ∧ 0 ≤ delay ∧ delay ≤ 3 ∧ (kind = 0 ∨ kind = 1) ∧ lags.length ≤ 8)) :
    Calls Tryz.prog 26 #[.agg #[.int .i64 n, .int .i64 win, .int .i64 delay, .int .i64 kind, lv]] w fun e w' => e = .returned (.tuple #[.pointer none, .bool false]) ∧ Below w.heap.size w w' := by
  obtain ⟨ao, c, rfl⟩ := lag_len h
  have bB : Below w.heap.size w (w.alloc (.cells #[.int .i64 n, .int .i64 win, .int .i64 delay, .int .i64 kind, .slice ao lags.length c] 50)) := (Below.refl _ w).alloc (Nat.le_refl _) _
  have HB := hide bB
  have HNO := hide hno
  clear hno h bB
  generalize lags.length = k at *
  go_enter Tryz.func26, Tryz.ntmps26
  by_cases h0 : 2 ≤ n
  · have d0 : decide (n < 2) = false := by simp; omega
    by_cases h0' : n ≤ 4
    · have d0' : decide (4 < n) = false := by simp; omega
      by_cases h1 : 1 ≤ win
      · have d1 : decide (win < 1) = false := by simp; omega
        by_cases h2 : win ≤ 8
        · have d2 : decide (8 < win) = false := by simp; omega
          by_cases h3 : 0 ≤ delay
          · have d3 : decide (delay < 0) = false := by simp; omega
            by_cases h4 : delay ≤ 3
            · have d4 : decide (3 < delay) = false := by simp; omega
              by_cases h5 : kind = 0
              · subst h5
                have e2 : decide ((8 : Int) < (k : Int)) = true := by
                  have := unhide HNO
                  simp only [decide_eq_true_eq]
                  omega
                clear h0 h0' h1 h2 h3 h4
                go_wp2
                go_ret2
                exact ⟨rfl, unhide HB⟩
              · have e1 : (kind != 0) = true := by simp [h5]
                by_cases h6 : kind = 1
                · subst h6
                  have e2 : decide ((8 : Int) < (k : Int)) = true := by
                    have := unhide HNO
                    simp only [decide_eq_true_eq]
                    omega
                  clear h0 h0' h1 h2 h3 h4
                  go_wp2
                  go_ret2
                  exact ⟨rfl, unhide HB⟩
                · have e3 : (kind != 1) = true := by simp [h6]
                  clear h0 h0' h1 h2 h3 h4
                  go_wp2
                  go_ret2
                  exact ⟨rfl, unhide HB⟩
            · have d4 : decide (3 < delay) = true := by simp; omega
              clear h0 h0' h1 h2 h3 h4
              go_wp2
              go_ret2
              exact ⟨rfl, unhide HB⟩
          · have d3 : decide (delay < 0) = true := by simp; omega
            clear h0 h0' h1 h2 h3
            go_wp2
            go_ret2
            exact ⟨rfl, unhide HB⟩
        · have d2 : decide (8 < win) = true := by simp; omega
          clear h0 h0' h1 h2
          go_wp2
          go_ret2
          exact ⟨rfl, unhide HB⟩
      · have d1 : decide (win < 1) = true := by simp; omega
        clear h0 h0' h1
        go_wp2
        go_ret2
        exact ⟨rfl, unhide HB⟩
    · have d0' : decide (4 < n) = true := by simp; omega
      clear h0 h0'
      go_wp2
      go_ret2
      exact ⟨rfl, unhide HB⟩
  · have d0 : decide (n < 2) = true := by simp; omega
    clear h0
    go_wp2
    go_ret2
    exact ⟨rfl, unhide HB⟩
end Go.Proofs.YtandblanpafjoaaGreatDoor

namespace Go.Proofs.YtandblanpafjoaaGreatDoor
open Go.RowKit Go.Extern.Stop Go.Stop Go.Extern
def lagS (s : ByteArray) : List Int := (bytesOf s).map (· - 1)
theorem lagS_len (s : ByteArray) : (lagS s).length = s.size := by simp [lagS, bytesOf_len]
theorem lagS_get (s : ByteArray) (k : Nat) (hk : k < s.size) : (lagS s).getD k 0 = (s[k].toNat : Int) - 1 := by
  have hk2 : k < (lagS s).length := by rw [lagS_len]; exact hk
  rw [List.getD_eq_getElem?_getD, List.getElem?_eq_getElem hk2]
  simp [lagS, bytesOf]
  rfl
theorem src_of_owns {w : World} {base : Nat} {v : Value} {l : List Int} (h : w.ownsRow base 3 1 v l.length (l.map (Value.int .i64))) (hn : l.length = 0 → v = .slice none 0 0) : LagSrc w v l := by
  rcases h.2 with ⟨h1, h2⟩ | ⟨g, cap, cur, h1, _⟩
  · exact .inl ⟨h1, List.length_eq_zero_iff.1 h2⟩
  · rcases Nat.eq_zero_or_pos l.length with h0 | h0
    · exact .inl ⟨hn h0, List.length_eq_zero_iff.1 h0⟩
    · refine .inr ⟨g, cap, h1, h0, ((h.lt g (by rw [h1]; rfl))).2, fun j hj => ?_⟩
      have := h.cells (g := g) (by rw [h1]; rfl) j (.int .i64 (l.getD j 0)) (by rw [List.getElem?_map, List.getElem?_eq_getElem hj, List.getD_eq_getElem?_getD, List.getElem?_eq_getElem hj]; rfl)
      rw [Addr.add_mid, Nat.zero_add] at this
      exact this
set_option maxRecDepth 10000 in
set_option maxHeartbeats 4000000 in
theorem llags_any (s : ByteArray) (w : World) (hs : s.size ≤ 65536) :
    Calls Tryz.prog 24 #[.string s] w fun e w' => ∃ v, e = .returned v ∧ w'.ownsRow w.heap.size 3 1 v s.size ((lagS s).map (Value.int .i64)) ∧ (s.size = 0 → v = .slice none 0 0) ∧ Below w.heap.size w w' := by
  obtain ⟨i8, hi8, hz0, hz1, hz2⟩ := info_parts Tryz.infoI64
  go_enter Tryz.func24, Tryz.ntmps24
  go_wp2_with fail
  go_loopw [3, 4] (fun s3 s4 wr => ∃ i : Nat, i ≤ s.size ∧ s4 = .int .i64 (i : Int) ∧ wr.ownsRow w.heap.size 3 1 s3 i (((lagS s).take i).map (Value.int .i64)) ∧ (i = 0 → s3 = .slice none 0 0) ∧ Below w.heap.size w wr) (fun _ s4 _ => s.size - (intOf s4).toNat)
  case atStart => exact ⟨0, by omega, rfl, by simpa using World.ownsRow_nil _ _ _ _, fun _ => rfl, Below.refl _ _⟩
  case round =>
    obtain ⟨v, hv⟩ : ∃ v, v = u3 := ⟨_, rfl⟩
    subst hv
    obtain ⟨i, hi, rfl, hown, hnil, hb⟩ := hrel
    obtain ⟨ao, co, hov⟩ := own_nil hown
    subst hov
    by_cases hlt : i < s.size
    · have hd : decide ((i : Int) < (s.size : Int)) = true := by simp; omega
      have hd2 : decide (i < s.size) = true := by simp; omega
      have hadd := i64_id ((i : Int) + 1) (by omega) (by omega)
      obtain ⟨x, hx⟩ : ∃ x : Nat, s[i].toNat = x := ⟨_, rfl⟩
      have hx2 : x < 256 := by rw [← hx]; exact s[i].toNat_lt
      have hw1 : IntKind.i64.wrap (x : Int) = (x : Int) := i64_id _ (by omega) (by omega)
      have hw2 : IntKind.i64.wrap ((x : Int) - 1) = (x : Int) - 1 := i64_id _ (by omega) (by omega)
      have hnx : (lagS s).take (i + 1) = (lagS s).take i ++ [(x : Int) - 1] := by
        have hk2 : i < (lagS s).length := by rw [lagS_len]; exact hlt
        rw [List.take_add_one, List.getElem?_eq_getElem hk2]
        have h1 := lagS_get s i hlt
        rw [List.getD_eq_getElem?_getD, List.getElem?_eq_getElem hk2] at h1
        simp only [Option.getD_some] at h1
        rw [h1, hx]; rfl
      have bA : Below wr.heap.size wr (wr.alloc (.cells #[.int .i64 ((x : Int) - 1)] 3)) := (Below.refl _ wr).alloc (Nat.le_refl _) _
      have HH := hide (And.intro hown (And.intro (hown.alloc (.cells #[.int .i64 ((x : Int) - 1)] 3)) (And.intro hb (And.intro bA hnx))))
      have hzw := hb.size
      have hzw2 : w.heap.size ≤ (wr.alloc (.cells #[.int .i64 ((x : Int) - 1)] 3)).heap.size := by simp; omega
      clear hown hb bA hnx hnil
      go_wp2_with (at_builtin; refine wpList_append_own_at (wr.alloc (.cells #[.int .i64 ((x : Int) - 1)] 3)) rfl (.tmp 11) (.tmp 17) 24 rfl w.heap.size 3 i8 (.int .i64 0) 1 8 Tryz.underlying24 hi8 hz0 hz1 hz2 rfl (by decide) (.slice ao i co) i _ rfl (unhide HH).2.1 ⟨wr.heap.size, 0, none⟩ 1 1 [.int .i64 ((x : Int) - 1)] rfl rfl (cell_one_new _ _ _) (by simp [Value.oneCell']) (by unfold maxLen; omega) (by omega) hzw2 ?_; intro v5 w5 hown5 hgr5 hnil5 hloc5)
      go_roundw
      case rel =>
        obtain ⟨hown, _, hb, bA, hnx⟩ := unhide HH
        refine ⟨i + 1, by omega, by go_num, ?_, fun e => by omega, hb.trans ⟨hgr5.os.trans bA.os, hgr5.tape.trans bA.tape, hgr5.output.trans bA.output, Nat.le_trans bA.size hgr5.size, fun q hq => (hgr5.block q (by have := bA.size; omega) (fun e => by have := (hown.lt q e.symm).1; omega)).trans (bA.block q (by omega))⟩⟩
        rw [hnx, List.map_append]
        exact hown5
      case measure => simp [intOf]; omega
    · have hd : decide ((i : Int) < (s.size : Int)) = false := by simp; omega
      have hd2 : decide (i < s.size) = false := by simp; omega
      have hin : i = s.size := by omega
      have HH := hide (And.intro hown (And.intro hnil hb))
      clear hown hnil hb
      go_wp2
      go_ret
      obtain ⟨hown, hnil, hb⟩ := unhide HH
      rw [hin, List.take_of_length_le (by rw [lagS_len]; omega)] at hown
      rw [hin]
      exact ⟨_, rfl, hown, fun e => by rw [← hin] at e ⊢; exact hnil e, hb⟩
end Go.Proofs.YtandblanpafjoaaGreatDoor

