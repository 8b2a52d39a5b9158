import Derived.Test.YtandblanpafjoaaGreatDoorPack42
import Derived.Test.YtandblanpafjoaaGreatDoorPack37
import Derived.Test.YtandblanpafjoaaGreatDoorPack44
namespace Go.Proofs.YtandblanpafjoaaGreatDoor
open Go.RowKit Go.Extern.Stop Go.Stop Go.Extern
theorem pairsC_succ (ps : Nat → LN) (n : Nat) (P : LN) : pairsC (fun i => if i = n then P else ps i) (n + 1) = pairsC ps n ++ pairC P := by
  unfold pairsC
  rw [List.range_succ, List.flatMap_append]
  congr 1
  · rw [List.flatMap_def, List.flatMap_def]
    congr 1
    refine List.map_congr_left fun i hi => ?_
    rw [List.mem_range] at hi
    have e : i ≠ n := by omega
    simp [e]
  · simp
theorem LawAt.opened {w w3 : World} {lo : Nat → LR} {wb n B : Nat} {nsv nsv' outv : Value} {ps : Nat → LN} {outs : List Value} {P : LN} (h : LawAt w lo wb nsv outv n ps outs) (hP : Both w P.g P.nb P.f P.m) (hf : ∀ k, P.f k → B ≤ k ∧ lo k = .none) (hB1 : 1 ≤ B) (hBz : B ≤ w.heap.size)
    (hown : w3.ownsRow 0 38 2 nsv' (n + 1) (pairsC ps n ++ pairC P)) (hold : ∀ j, j < w.heap.size → nsv.ownBlock ≠ some j → w3.heap[j]? = w.heap[j]?) (hz : w.heap.size ≤ w3.heap.size) (hloc : nsv'.ownBlock = nsv.ownBlock ∨ ∃ M, w.heap.size ≤ M ∧ nsv'.ownBlock = some M) :
    LawAt (w3.setCell ⟨wb, 0, none⟩ nsv') (fun j => if nsv'.ownBlock = some j then .ns else if B ≤ j ∧ j < w.heap.size ∧ lo j = .none then .pair n else lo j) wb nsv' outv (n + 1) (fun i => if i = n then P else ps i) outs ∧
      (∀ j, j < B → (if nsv'.ownBlock = some j then LR.ns else if B ≤ j ∧ j < w.heap.size ∧ lo j = .none then .pair n else lo j) ≠ .none → lo j ≠ .none) ∧ (∀ j, j < w.heap.size → lo j = .none → (w3.setCell ⟨wb, 0, none⟩ nsv').heap[j]? = w.heap[j]?) ∧ w.heap.size ≤ (w3.setCell ⟨wb, 0, none⟩ nsv').heap.size := by
  have hor : ∀ j, j < w.heap.size → nsv'.ownBlock = some j → lo j = .ns := fun j hj e => by
    rcases hloc with e2 | ⟨M, hM, e2⟩
    · exact h.rn j (e2.symm.trans e)
    · rw [e2] at e; injection e with e; omega
  have hwo : nsv'.ownBlock ≠ some wb := fun e => by have := hor wb h.blk.lt e; rw [h.rb] at this; cases this
  have hlo' : ∀ j, j < w.heap.size → lo j ≠ .none → (if nsv'.ownBlock = some j then LR.ns else if B ≤ j ∧ j < w.heap.size ∧ lo j = .none then .pair n else lo j) = lo j := fun j hj hne => by
    split
    · next e => exact (hor j hj e).symm
    · rw [if_neg (fun e => hne e.2.2)]
  have K : LKeep lo (fun j => if nsv'.ownBlock = some j then .ns else if B ≤ j ∧ j < w.heap.size ∧ lo j = .none then .pair n else lo j) (fun r => r = .law ∨ r = .ns) w (w3.setCell ⟨wb, 0, none⟩ nsv') := fun j hj hne => ⟨hlo' j hj hne, fun hR => by
    rw [heap_setCell_other _ _ _ _ (fun e => hR (.inl (by rw [e]; exact h.rb)))]
    exact hold j hj (fun e => hR (.inr (h.rn j e)))⟩
  have hz' : w.heap.size ≤ (w3.setCell ⟨wb, 0, none⟩ nsv').heap.size := by rw [World.size_setCell]; exact hz
  have hnw : nsv.ownBlock ≠ some wb := fun e => by have := h.rn wb e; rw [h.rb] at this; cases this
  have hb3 : Blk w3 wb #[nsv, outv] 30 := (hold wb h.blk.lt hnw).trans h.blk
  have hnone : ∀ j, j < w.heap.size → lo j = .none → (w3.setCell ⟨wb, 0, none⟩ nsv').heap[j]? = w.heap[j]? := fun j hj hn => by
    rw [heap_setCell_other _ _ _ _ (fun e => by rw [show j = wb from e, h.rb] at hn; cases hn)]
    exact hold j hj (fun e => by have := h.rn j e; rw [hn] at this; cases this)
  have hnn : ∀ j, j < w.heap.size → lo j = .none → nsv'.ownBlock ≠ some j := fun j hj hn e => by have := hor j hj e; rw [hn] at this; cases this
  refine ⟨{ lt := fun j hj => ?_, pos := fun j hj => ?_, blk := by have := hb3.set 0 nsv'; simpa using this, rb := (hlo' wb h.blk.lt (by rw [h.rb]; simp)).trans h.rb, ns := ?_, rn := fun j hj => if_pos hj, out := (K.own h.out h.ro (by simp) (by simp)).1, ro := (K.own h.out h.ro (by simp) (by simp)).2, byt := fun v hv => K.byt (h.byt v hv) (by simp), pairs := fun i hi => ?_, rp := fun i j hi hj => ?_ }, fun j hj hne => ?_, hnone, hz'⟩
  · rw [World.size_setCell]
    by_cases e : nsv'.ownBlock = some j
    · exact (hown.lt j e).2
    · rw [if_neg e] at hj
      by_cases e2 : B ≤ j ∧ j < w.heap.size ∧ lo j = .none
      · omega
      · rw [if_neg e2] at hj
        exact Nat.lt_of_lt_of_le (h.lt j hj) hz
  · by_cases e : nsv'.ownBlock = some j
    · rcases hloc with e3 | ⟨M, hM, e3⟩
      · exact h.pos j (by rw [h.rn j (e3.symm.trans e)]; simp)
      · rw [e3] at e; injection e with e; omega
    · rw [if_neg e] at hj
      by_cases e2 : B ≤ j ∧ j < w.heap.size ∧ lo j = .none
      · omega
      · rw [if_neg e2] at hj
        exact h.pos j hj
  · rw [pairsC_succ]
    exact owns_same hown (fun j hj => heap_setCell_other _ _ _ _ (fun e => hwo (by rw [← show j = wb from e]; exact hj)))
  · by_cases e : i = n
    · subst e
      simp only [if_pos]
      exact hP.same (fun j hj => hnone j (hP.lt j hj) (hf j hj).2) hz'
    · simp only [if_neg e]
      exact (K.both hz' (h.pairs i (by omega)) (h.rp i · (by omega)) (by simp)).1
  · by_cases e : i = n
    · subst e
      have hj' : P.f j := by simpa using hj
      show (if nsv'.ownBlock = some j then LR.ns else if B ≤ j ∧ j < w.heap.size ∧ lo j = .none then .pair i else lo j) = .pair i
      rw [if_neg (hnn j (hP.lt j hj') (hf j hj').2), if_pos ⟨(hf j hj').1, hP.lt j hj', (hf j hj').2⟩]
    · simp only [if_neg e] at hj
      exact (K.both hz' (h.pairs i (by omega)) (h.rp i · (by omega)) (by simp)).2 j hj
  · by_cases e : nsv'.ownBlock = some j
    · rw [hor j (by omega) e]; simp
    · rw [if_neg e, if_neg (by omega)] at hne; exact hne
end Go.Proofs.YtandblanpafjoaaGreatDoor

