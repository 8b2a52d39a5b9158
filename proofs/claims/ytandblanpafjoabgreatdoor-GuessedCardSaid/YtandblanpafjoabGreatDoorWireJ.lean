import Derived.Test.YtandblanpafjoabGreatDoorWireI
namespace Go.Proofs.YtandblanpafjoabGreatDoor
open Go.RowKit Go.Extern.Stop Go.Stop Go.Extern

/-! Sending. -/
def putB (bl : Nat → Nat) (n b : Nat) : Nat → Nat := fun k => if k = n then b else bl k
theorem pcls_put {bl : Nat → Nat} {l : List FlyM} {n b : Nat} (h : ∀ f ∈ l, f.num < n) : pcls (putB bl n b) l = pcls bl l := pcls_congr (fun f hf => by have := h f hf; simp [putB]; omega)
def sentL (l : List FlyM) (lag : Int) (f : FlyM) : List FlyM := if 0 ≤ lag then pushL l f else l

set_option maxRecDepth 10000 in
set_option maxHeartbeats 1600000 in
theorem send_any (nb : Nat) (pv : Value) (lags : List Int) (now sent : Nat) (lv wv : Value) (bl : Nat → Nat) (l : List FlyM) (w : World) (h : WireAt w nb pv lags now sent lv wv bl l) (hs : sent ≤ 900000) (hn : now ≤ 900000) (hlen : l.length + 1 ≤ 1000000) (hlg : -1 ≤ lagI lags sent ∧ lagI lags sent ≤ 20)
    (q bb : Nat) (b : List Int) (hnum : ∀ f ∈ l, f.num < sent) :
    Calls Tryz.prog 33 #[.pointer (some ⟨nb, 1, none⟩), .int .i64 (q : Int), .slice (some ⟨bb, 0, none⟩) b.length b.length] w fun e w' => e = .returned (.tuple #[]) ∧ ∃ wv', WireAt w' nb pv lags now (sent + 1) lv wv' (putB bl sent bb) (sentL l (lagI lags sent) { to := q, due := now + (lagI lags sent).toNat, num := sent, bytes := b }) ∧
      Chg (fun k => k = nb ∨ wv.ownBlock = some k) w w' ∧ (∀ k, wv'.ownBlock = some k → wv.ownBlock = some k ∨ w.heap.size ≤ k) := by
  obtain ⟨lag, hlag⟩ : ∃ lag, lagI lags sent = lag := ⟨_, rfl⟩
  rw [hlag] at hlg ⊢
  have HW := hide h
  have hnl := h.blk.lt
  clear h
  go_enter Tryz.func33, Tryz.ntmps33
  go_wp2_with fail
  refine (lag_any nb pv lags now sent lv wv bl l w (unhide HW) (by omega)).mono ?_
  rintro e w1 ⟨rfl, hb1⟩
  have W1 : WireAt w1 nb pv lags now sent lv wv bl l := (unhide HW).same (fun k hk => hb1.block k ((unhide HW).lts k hk))
  rw [hlag]
  clear hlag
  have H1 := hide (And.intro W1 hb1)
  clear hb1
  have c3 : w1.cell? ⟨nb, 3, none⟩ = some (.int .i64 (sent : Int)) := W1.blk.cell 3
  have c2 : w1.cell? ⟨nb, 2, none⟩ = some (.int .i64 (now : Int)) := W1.blk.cell 2
  have f3 : w1.frozen? ⟨nb, 3, none⟩ = false := W1.blk.frozen 3
  have hws := i64_id ((sent : Int) + 1) (by omega) (by omega)
  by_cases hl : lag = -1
  · have hd : (lag != -1) = false := by simp [hl]
    have HL := hide hl
    clear hl W1 c2
    go_wp2
    go_end0
    obtain ⟨W1, hb1⟩ := unhide H1
    have hb := W1.blk.set 3 (.int .i64 ((sent : Int) + 1))
    refine ⟨rfl, wv, ⟨?_, ?_, W1.ne, owns_same W1.lag (fun k hk => heap_setCell_other _ _ _ _ (fun e => W1.lne (by rw [hk, e]))), W1.lne, W1.apart⟩, (Chg.ofBelow hb1).thenCell nb 3 _ (.inl rfl), fun k hk => .inl hk⟩
    · rw [show ((sent + 1 : Nat) : Int) = (sent : Int) + 1 by omega]
      exact hb
    · have e : sentL l lag { to := q, due := now + lag.toNat, num := sent, bytes := b } = l := by unfold sentL; rw [if_neg (by have := unhide HL; omega)]
      rw [e, pcls_put hnum]
      exact owns_same W1.own (fun k hk => heap_setCell_other _ _ _ _ (fun e => W1.ne (by rw [hk, e])))
  · have hd : (lag != -1) = true := by simp [hl]
    obtain ⟨m, rfl⟩ : ∃ m : Nat, lag = (m : Int) := ⟨lag.toNat, by omega⟩
    have hwd : IntKind.i64.wrap ((now : Int) + (m : Int)) = (now : Int) + (m : Int) := i64_id _ (by omega) (by omega)
    clear hl
    clear f3
    go_wp2_with fail
    refine wp_moves_reads_tail0 19 (by kernel_rfl) (by kernel_rfl) (by kernel_rfl) (by kernel_rfl) ?_
    simp only [List.take_succ_cons, List.take_zero, List.drop_succ_cons, List.drop_zero]
    repeat still_step
    refine wpStill_nil ?_
    go_wp2_with fail
    have hB : Blk w1.drew nb #[pv, lv, .int .i64 (now : Int), .int .i64 (sent : Int), wv] 83 := W1.blk
    have hpush := hpush_any nb 4 (putB bl sent bb) l { to := q, due := now + m, num := sent, bytes := b } wv _ _ w1.drew hB (hB.cell 4) (hB.frozen 4) (by rw [pcls_put hnum]; exact W1.own) W1.ne hlen
    have e0 : (pcl (putB bl sent bb) { to := q, due := now + m, num := sent, bytes := b }).toArray = #[.int .i64 (q : Int), .int .i64 ((now : Int) + (m : Int)), .slice (some ⟨bb, 0, none⟩) b.length b.length, .int .i64 (sent : Int)] := by
      simp [pcl, putB]
    rw [e0] at hpush
    refine hpush.mono ?_
    clear hpush e0 hB W1 c3 c2
    rintro e w3 ⟨rfl, g, cap, hq, hC, hloc, hB3⟩
    have c33 : w3.cell? ⟨nb, 3, none⟩ = some (.int .i64 (sent : Int)) := hB3.cell 3
    have f33 : w3.frozen? ⟨nb, 3, none⟩ = false := hB3.frozen 3
    have H3 := hide (And.intro hq (And.intro hC (And.intro hloc hB3)))
    clear hq hC hloc hB3
    go_wp2
    go_end0
    obtain ⟨hq, hC, hloc, hB3⟩ := unhide H3
    obtain ⟨W1, hb1⟩ := unhide H1
    have hb := hB3.set 3 (.int .i64 ((sent : Int) + 1))
    have hlen2 : (pushL l { to := q, due := now + m, num := sent, bytes := b }).length = l.length + 1 := by rw [(pushL_perm _ _).length_eq]; simp
    have hown := hq.own
    rw [hlen2] at hown
    have hC1 : Chg (fun k => k = nb ∨ wv.ownBlock = some k) w w3 := (Chg.ofBelow (F := fun k => k = nb ∨ wv.ownBlock = some k) hb1.drew).trans hC (fun _ _ h => h)
    have hne : nb ≠ g := hq.ne
    have hlv : ∀ k, lv.ownBlock = some k → k ≠ g := fun k hk e => by
      subst e
      rcases hloc with e | e
      · exact W1.apart k hk e
      · have := (W1.lag.lt k hk).2
        have : w1.drew.heap.size = w1.heap.size := rfl
        omega
    refine ⟨rfl, .slice (some ⟨g, 0, none⟩) (l.length + 1) cap, ⟨?_, ?_, ?_, ?_, W1.lne, fun k hk e => hlv k hk (by injection e with e; exact e.symm)⟩, hC1.thenCell nb 3 _ (.inl rfl), fun k hk => ?_⟩
    · rw [show ((sent + 1 : Nat) : Int) = (sent : Int) + 1 by omega]
      exact hb
    · have e : sentL l (m : Int) { to := q, due := now + (m : Int).toNat, num := sent, bytes := b } = pushL l { to := q, due := now + m, num := sent, bytes := b } := by unfold sentL; rw [if_pos (by omega)]; simp
      rw [e, hlen2]
      exact owns_same hown (fun k hk => heap_setCell_other _ _ _ _ (fun e => hne (by injection hk with hk; have e2 : k = nb := e; rw [← e2]; exact hk.symm)))
    · intro e; injection e with e; exact hne e.symm
    · refine owns_same W1.lag (fun k hk => ?_)
      rw [heap_setCell_other _ _ _ _ (fun e => W1.lne (by rw [hk, e]))]
      exact hC.block k (W1.lag.lt k hk).2 (fun e => by
        rcases e with e | e
        · exact W1.lne (by rw [hk, e])
        · exact W1.apart k hk e)
    · injection hk with hk
      subst hk
      rcases hloc with e | e
      · exact .inl e
      · right
        have h1 := hb1.size
        have h2 : w1.drew.heap.size = w1.heap.size := rfl
        have h3 : w1.heap.size ≤ g := by rw [← h2]; exact e
        exact Nat.le_trans h1 h3
end Go.Proofs.YtandblanpafjoabGreatDoor
