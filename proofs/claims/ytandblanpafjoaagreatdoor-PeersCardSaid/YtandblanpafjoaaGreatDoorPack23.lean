import Derived.Test.YtandblanpafjoaaGreatDoorPack20
import Derived.Test.YtandblanpafjoaaGreatDoorPack21
import Derived.Test.YtandblanpafjoaaGreatDoorPack22
import Derived.Test.YtandblanpafjoaaGreatDoorPack04
import Derived.Test.YtandblanpafjoaaGreatDoorPack09
namespace Go.Proofs.YtandblanpafjoaaGreatDoor
open Go.RowKit Go.Extern.Stop Go.Stop Go.Extern
def takesP (x : PeerM) (num n delay : Nat) (b : List Int) : Prop :=
  OkP b ∧ fromL b ≠ (num : Int) ∧ fromL b < (n : Int) ∧ startL b ≤ ((x.known (fromL b).toNat).length : Int) ∧ startL b + ((inputsL b).length : Int) ≤ 200 + (delay : Int) ∧ ackL b ≤ ((x.known num).length : Int)
instance (x : PeerM) (num n delay : Nat) (b : List Int) : Decidable (takesP x num n delay b) := by unfold takesP; infer_instance
theorem pCells_drop (num n win delay dropped d : Nat) (v : Nat → Value) (ak : Nat → Nat) (st : Value) : (pCells num n win delay dropped v ak st).toArray.setIfInBounds 4 (.int .i64 (d : Int)) = (pCells num n win delay d v ak st).toArray := by
  simp [pCells]
theorem PeerK.dropS {w : World} {b : Nat} {F FS : Nat → Prop} {num n win delay : Nat} {x : PeerM} {v : Nat → Value} {st : Value} (h : PeerK w b F FS num n win delay x v st) (d : Nat) (hd : d ≤ 1000000000) :
    PeerK (w.setCell ⟨b, 4, none⟩ (.int .i64 (d : Int))) b F FS num n win delay { x with dropped := d } v st := by
  refine ⟨?_, fun q' hq' => owns_same (h.known q' hq') (fun k hk => heap_setCell_other _ _ _ _ (fun e => (h.fk q' k hq' hk).2.1 e)), h.nils, h.lens, h.fb, h.fk, h.fd, h.fs, h.hn2, h.hn4, h.hw, h.hnum, hd⟩
  have := h.blk.set 4 (.int .i64 (d : Int))
  rw [pCells_drop] at this
  exact this
theorem PeerAt.dropS {w : World} {b : Nat} {F FS : Nat → Prop} {num n win delay : Nat} {x : PeerM} {v : Nat → Value} {st : Value} (h : PeerAt w b F FS num n win delay x v st) (d : Nat) (hd : d ≤ 1000000000) :
    PeerAt (w.setCell ⟨b, 4, none⟩ (.int .i64 (d : Int))) b F FS num n win delay { x with dropped := d } v st :=
  ⟨h.toPeerK.dropS d hd, h.store.same (fun k hk => heap_setCell_other _ _ _ _ (fun e => (h.fs k hk).2 e)), h.ok.drop d⟩
theorem inputsL_len8 {l : List Int} (h : OkP l) : (inputsL l).length = l.length - 8 := by
  have := h.1.1
  simp [inputsL]; omega
theorem takes_iff {x : PeerM} {num n delay : Nat} {l : List Int} (h : OkP l) : takesP x num n delay l ↔ TakesM x num n delay (fromL l).toNat (startL l).toNat (ackL l).toNat (l.length - 8) := by
  have hl := inputsL_len8 h
  obtain ⟨hf, ⟨h1, h2⟩, ⟨h3, h4⟩, ⟨h5, h6⟩, h7⟩ := h
  unfold takesP TakesM
  rw [hl]
  constructor
  · rintro ⟨_, a, b, c, d, e⟩
    exact ⟨by omega, by omega, by omega, by omega, by omega⟩
  · rintro ⟨a, b, c, d, e⟩
    exact ⟨⟨hf, ⟨h1, h2⟩, ⟨h3, h4⟩, ⟨h5, h6⟩, h7⟩, by omega, by omega, by omega, by omega, by omega⟩
/-- The peer's error: its number, and that it is no packet for it. -/
def FaultAt (w : World) (e : Ending) (B num : Nat) (k : Int) : Prop := ∃ g, e = .returned (.iface 149 (.pointer (some ⟨g, 0, none⟩))) ∧ B ≤ g ∧ w.cell? ⟨g, 0, none⟩ = some (.int .i64 (num : Int)) ∧ w.cell? ⟨g, 1, none⟩ = some (.int .i64 k)
theorem own_cells {w : World} {B g L cap : Nat} {l : List Int} (h : w.ownsRow B 5 1 (.slice (some ⟨g, 0, none⟩) L cap) L (l.map (Value.int .u8))) (hl : l.length = L) : g < w.heap.size ∧ B ≤ g ∧ L ≤ cap ∧ ∀ j, j < L → w.cell? ⟨g, j, none⟩ = some (.int .u8 (l.getD j 0)) := by
  obtain ⟨h1, h2⟩ := h
  rcases h2 with ⟨e, h0⟩ | ⟨g', cap', cur, e, hB, hg, hc, _, hs, ht⟩
  · cases e
  · injection e with e1 e2 e3
    injection e1 with e1
    injection e1 with e1 _ _
    subst e1 e3
    refine ⟨(Array.getElem?_eq_some_iff.1 hg).1, hB, hc, fun j hj => ?_⟩
    rw [cell_of_row w g j cur 5 (0, 0) hg]
    have := congrArg (fun l => l[j]?) ht
    simp only [Nat.mul_one, List.getElem?_take, hj, if_true, Array.getElem?_toList, List.getElem?_map] at this
    rw [this]
    simp [hj, hl]
theorem inputsL_rng {l : List Int} (hr : ∀ j : Nat, 0 ≤ l.getD j 0 ∧ l.getD j 0 ≤ 255) (j : Nat) : 0 ≤ (inputsL l).getD j 0 ∧ (inputsL l).getD j 0 ≤ 255 := by
  unfold inputsL
  rw [List.getD_eq_getElem?_getD, List.getElem?_take]
  split
  · rw [List.getElem?_drop, ← List.getD_eq_getElem?_getD]; exact hr _
  · simp
set_option maxRecDepth 10000 in
set_option maxHeartbeats 2000000 in
theorem take_any (b num n win delay bb o L c : Nat) (l : List Int) (F FS : Nat → Prop) (x : PeerM) (v : Nat → Value) (st : Value) (w : World) (h : PeerAt w b F FS num n win delay x v st) (hF : ∀ k, F k → k < w.heap.size)
    (hl : l.length = L) (hn : L ≤ 70000) (hcap : L ≤ c) (hr : ∀ j : Nat, 0 ≤ l.getD j 0 ∧ l.getD j 0 ≤ 255) (hcells : ∀ j, j < L → w.cell? ⟨bb, o + j, none⟩ = some (.int .u8 (l.getD j 0))) (hbb : bb < w.heap.size) (hdrop : x.dropped + 1 ≤ 1000000000) :
    Calls Tryz.prog 60 #[.pointer (some ⟨b, 0, none⟩), .slice (some ⟨bb, o, none⟩) L c] w fun e w' => Chg F w w' ∧ ∃ F' FS' v', (∀ k, F' k → F k ∨ w.heap.size ≤ k) ∧ (∀ k, F' k → k < w'.heap.size) ∧
      ((takesP x num n delay l ∧ e = .returned .nilIface ∧ PeerAt w' b F' FS' num n win delay (taken x (fromL l).toNat (startL l).toNat (ackL l).toNat (inputsL l)) v' st) ∨
       (¬ takesP x num n delay l ∧ FaultAt w' e w.heap.size num 5 ∧ PeerAt w' b F' FS' num n win delay { x with dropped := x.dropped + 1 } v' st)) := by
  have hbl := h.blk.lt
  have HB := hide h
  have HR := hide hr
  have hdel := h.ok.delay
  clear h hr
  go_enter Tryz.func60, Tryz.ntmps60
  go_wp2_with fail
  refine (pkread_any bb o L c l w hl hn hcap (unhide HR) hcells hbb).mono ?_
  have HC := hide hcells
  clear hcells
  rintro e w1 ⟨hb1, hcase⟩
  rcases hcase with ⟨hno, s, rfl⟩ | ⟨hok, g, cap, rfl, hown⟩
  · have HN := hide hno
    clear hno
    have hbne : ¬ b = w1.heap.size := by have := hb1.size; omega
    have hbl1 : b < w1.heap.size := by have := hb1.size; omega
    have c4 : w1.cell? ⟨b, 4, none⟩ = some (.int .i64 (x.dropped : Int)) := (hb1.cell (p := ⟨b, 4, none⟩) hbl).trans ((unhide HB).cell 4)
    have f4 : w1.frozen? ⟨b, 4, none⟩ = false := (hb1.frozen (p := ⟨b, 4, none⟩) hbl).trans ((unhide HB).blk.frozen 4)
    have hw4 := i64_id ((x.dropped : Int) + 1) (by omega) (by omega)
    have H1 := hide hb1
    clear hb1
    unfold Z4
    go_wp2_with fail
    have P1 : PeerAt w1 b F FS num n win delay x v st := (unhide HB).same (fun k hk => (unhide H1).block k (hF k hk))
    have P2 := P1.dropS (x.dropped + 1) hdrop
    rw [show (((x.dropped + 1 : Nat)) : Int) = (x.dropped : Int) + 1 by omega] at P2
    have hz1 := (unhide H1).size
    have P3 : PeerAt ((w1.setCell ⟨b, 4, none⟩ (.int .i64 ((x.dropped : Int) + 1))).alloc (.cells #[.int .i64 0, .int .i64 0, .int .i64 0, .slice none 0 0] 130)) b F FS num n win delay { x with dropped := x.dropped + 1 } v st :=
      P2.same (fun k hk => by have := hF k hk; exact ((Below.refl _ (w1.setCell ⟨b, 4, none⟩ (.int .i64 ((x.dropped : Int) + 1)))).alloc (Nat.le_refl _) _).block k (by simp; omega))
    have C3 : Chg F w ((w1.setCell ⟨b, 4, none⟩ (.int .i64 ((x.dropped : Int) + 1))).alloc (.cells #[.int .i64 0, .int .i64 0, .int .i64 0, .slice none 0 0] 130)) :=
      ((Chg.ofBelow (F := F) (unhide H1)).thenCell b 4 _ (unhide HB).fb).trans (Chg.alloc F _ _) (fun _ _ h => h)
    have H3 := hide (And.intro P3 C3)
    clear P1 P2 C3
    refine (fault_any b num n win delay 5 F FS _ v st _ P3).mono ?_
    rintro e w4 ⟨g4, rfl, hg4, hc0, hc1, hb4⟩
    clear P3
    go_wp2
    go_ret
    obtain ⟨P3, C3⟩ := unhide H3
    have hC := C3.thenBelow (hb4.mono C3.size)
    refine ⟨hC, F, FS, v, fun k hk => .inl hk, fun k hk => by have := hF k hk; have := hC.size; omega, .inr ⟨fun h => unhide HN h.1, ⟨g4, rfl, Nat.le_trans C3.size hg4, hc0, hc1⟩, P3.same (fun k hk => hb4.block k (by have := hF k hk; have := C3.size; omega))⟩⟩
  · have hlen : (inputsL l).length = L - 8 := by rw [inputsL_len8 hok, hl]
    obtain ⟨⟨hf0, hf3⟩, ⟨hs0, hs1⟩, ⟨ha0, ha1⟩, _⟩ := hok.2
    obtain ⟨fr, hfr⟩ : ∃ fr : Nat, fromL l = (fr : Int) := ⟨(fromL l).toNat, by omega⟩
    obtain ⟨start, hst⟩ : ∃ start : Nat, startL l = (start : Int) := ⟨(startL l).toNat, by omega⟩
    obtain ⟨ack, hak⟩ : ∃ ack : Nat, ackL l = (ack : Int) := ⟨(ackL l).toNat, by omega⟩
    have hTi : takesP x num n delay l ↔ TakesM x num n delay fr start ack (inputsL l).length := by
      rw [takes_iff hok, hfr, hst, hak, hlen, hl]; simp only [Int.toNat_natCast]
    rw [hfr, hst, hak]
    have hrng := inputsL_rng (unhide HR)
    obtain ⟨hgl, hgB, hgc, hgcells⟩ := own_cells hown hlen
    rw [← hlen] at hgc hgcells ⊢
    rw [hfr] at hf0 hf3
    rw [hst] at hs0 hs1
    rw [hak] at ha0 ha1
    have hLn : (inputsL l).length ≤ 70000 := by omega
    have hEq : (fromL l).toNat = fr ∧ (startL l).toNat = start ∧ (ackL l).toNat = ack := by rw [hfr, hst, hak]; simp
    obtain ⟨ins, hins⟩ : ∃ ins, inputsL l = ins := ⟨_, rfl⟩
    rw [hins] at hTi hrng hgc hgcells hLn ⊢
    have HE := hide (And.intro hEq hins)
    clear hown hlen hfr hst hak hok hEq hins
    have HT := hide hTi
    have HRn := hide hrng
    have HG := hide hgcells
    clear hTi hrng hgcells
    have hz1 := hb1.size
    have hbne : ¬ b = w1.heap.size := by omega
    have bB : Below w1.heap.size w1 (w1.alloc (.cells #[.int .i64 (fr : Int), .int .i64 (start : Int), .int .i64 (ack : Int), .slice (some ⟨g, 0, none⟩) ins.length cap] 130)) := (Below.refl _ w1).alloc (Nat.le_refl _) _
    have xB : Blk (w1.alloc (.cells #[.int .i64 (fr : Int), .int .i64 (start : Int), .int .i64 (ack : Int), .slice (some ⟨g, 0, none⟩) ins.length cap] 130)) w1.heap.size #[.int .i64 (fr : Int), .int .i64 (start : Int), .int .i64 (ack : Int), .slice (some ⟨g, 0, none⟩) ins.length cap] 130 := Blk.new _ _ _
    have HX := hide (And.intro hb1 (And.intro bB xB))
    clear hb1 bB xB hz1
    go_wp2_with fail
    generalize w1.alloc (.cells #[.int .i64 (fr : Int), .int .i64 (start : Int), .int .i64 (ack : Int), .slice (some ⟨g, 0, none⟩) ins.length cap] 130) = W2 at *
    have P2 : PeerAt W2 b F FS num n win delay x v st := (unhide HB).same (fun k hk => ((unhide HX).2.1.block k (by have := hF k hk; have := (unhide HX).1.size; omega)).trans ((unhide HX).1.block k (hF k hk)))
    refine (refuses_any b num n win delay fr start ack ins.length cap (some ⟨g, 0, none⟩) F FS x v st W2 P2.toPeerK hdel (by omega) (by omega) hLn).mono ?_
    clear P2
    rintro e w3 ⟨rfl, hb3⟩
    obtain ⟨hb1, bB, xB⟩ := unhide HX
    have hB3 : Below w.heap.size w w3 := (hb1.trans (bB.mono hb1.size)).trans (hb3.mono (Nat.le_trans hb1.size bB.size))
    have x3 : Blk w3 w1.heap.size #[.int .i64 (fr : Int), .int .i64 (start : Int), .int .i64 (ack : Int), .slice (some ⟨g, 0, none⟩) ins.length cap] 130 := (hb3.block _ xB.lt).trans xB
    have hgl3 : g < w3.heap.size := by have := bB.size; have := hb3.size; omega
    have hgW : g < W2.heap.size := by have := bB.size; omega
    have hg3 : ∀ j, j < ins.length → w3.cell? ⟨g, j, none⟩ = some (.int .u8 (ins.getD j 0)) := fun j hj => (hb3.cell (p := ⟨g, j, none⟩) hgW).trans ((bB.cell (p := ⟨g, j, none⟩) hgl).trans (unhide HG j hj))
    clear hb1 bB xB hb3 HX HG
    have P3 : PeerAt w3 b F FS num n win delay x v st := (unhide HB).same (fun k hk => hB3.block k (hF k hk))
    have hsz3 := hB3.size
    have hF3 : ∀ k, F k → k < w3.heap.size := fun k hk => by have := hF k hk; omega
    have HP := hide (And.intro P3 (And.intro hB3 (And.intro x3 hg3)))
    have m0 : w3.cell? ⟨w1.heap.size, 0, none⟩ = some (.int .i64 (fr : Int)) := x3.cell 0
    have m1 : w3.cell? ⟨w1.heap.size, 1, none⟩ = some (.int .i64 (start : Int)) := x3.cell 1
    have m2 : w3.cell? ⟨w1.heap.size, 2, none⟩ = some (.int .i64 (ack : Int)) := x3.cell 2
    have m3 : w3.cell? ⟨w1.heap.size, 3, none⟩ = some (.slice (some ⟨g, 0, none⟩) ins.length cap) := x3.cell 3
    clear hB3 x3 hg3
    by_cases hT : TakesM x num n delay fr start ack ins.length
    · have hdT : decide (TakesM x num n delay fr start ack ins.length) = true := decide_eq_true hT
      have HTT := hide hT
      clear hT
      rw [hdT]
      clear hdT
      have HP3 := hide P3
      clear P3
      go_wp2_with fail
      refine (conf_any b num n win delay F FS x v st w3 (unhide HP3)).mono ?_
      rintro e w4 ⟨rfl, rfl⟩
      go_wp2_with fail
      obtain ⟨hT1, hT2, hT3, hT4, hT5⟩ := unhide HTT
      have hok := (unhide HP3).ok
      have hln := hok.len num (unhide HP3).hnum
      have haq := hok.ack fr hT2
      refine (learn_any b num n win delay fr start ack g cap ins F FS x v st w4 (unhide HP3).toPeerK hF3 hT2 hT3 (by omega) (by omega) (by omega) hgc hgl3 (unhide HP).2.2.2).mono ?_
      rintro e w5 ⟨rfl, hC5, F', v', h1, h2, h3, K5⟩
      have H5 := hide (And.intro hC5 (And.intro h1 (And.intro h2 (And.intro h3 K5))))
      clear hC5 h1 h2 h3 K5 m0 m1 m2 m3
      have hcf := confTo_frame x n
      go_wp2_with fail
      obtain ⟨hC5, h1, h2, h3, K5⟩ := unhide H5
      have S5 : StoreAt w5 st FS n win (x.frame - win) x.frame (insM x n) := (unhide HP3).store.same (fun k hk => hC5.block k (hF3 k ((unhide HP3).fs k hk).1) (fun e => e.2 hk))
      have ok5 := hok.taken (q := fr) (start := start) (ack := ack) (ins := ins) hT1 hT2 hT3 hT4 hT5 (unhide HRn)
      refine (mend_any b num n win delay F' FS x (taken x fr start ack ins) v' st w5 K5 S5 h3 ok5 hok.frame (confTo x n) hcf hok.win (fun f hf => taken_ins x n fr start ack ins f hf)).mono ?_
      rintro e w6 ⟨rfl, hC6, S6⟩
      have H6 := hide (And.intro hC6 S6)
      clear hC6 S6 hC5 h1 h2 h3 K5 S5
      go_wp2
      go_ret
      obtain ⟨hC5, h1, h2, h3, K5⟩ := unhide H5
      obtain ⟨hC6, S6⟩ := unhide H6
      have hB := (unhide HP).2.1
      have hC56 : Chg F w w6 := ((Chg.ofBelow (F := F) hB).trans hC5 (fun k _ h => h.1)).trans hC6 (fun k _ h => ((unhide HP3).fs k h).1)
      obtain ⟨⟨e1, e2, e3⟩, e4⟩ := unhide HE
      refine ⟨hC56, F', FS, v', fun k hk => (h2 k hk).elim .inl (fun h => .inr (by omega)), fun k hk => by have := h3 k hk; have := hC6.size; omega, .inl ⟨(unhide HT).2 (unhide HTT), rfl, ?_⟩⟩
      rw [e1, e2, e3, e4]
      exact ⟨K5.but (fun k hk hFS => hC6.block k (h3 k hk) hFS), S6, ok5⟩
    · have hdT : decide (TakesM x num n delay fr start ack ins.length) = false := decide_eq_false hT
      have HTT := hide hT
      clear hT
      rw [hdT]
      clear hdT
      have hbl3 : b < w3.heap.size := P3.blk.lt
      have c4 : w3.cell? ⟨b, 4, none⟩ = some (.int .i64 (x.dropped : Int)) := P3.cell 4
      have f4 : w3.frozen? ⟨b, 4, none⟩ = false := P3.blk.frozen 4
      have hw4 := i64_id ((x.dropped : Int) + 1) (by omega) (by omega)
      clear P3
      go_wp2_with fail
      have P4 := (unhide HP).1.dropS (x.dropped + 1) hdrop
      rw [show (((x.dropped + 1 : Nat)) : Int) = (x.dropped : Int) + 1 by omega] at P4
      have C4 : Chg F w (w3.setCell ⟨b, 4, none⟩ (.int .i64 ((x.dropped : Int) + 1))) := (Chg.ofBelow (F := F) (unhide HP).2.1).thenCell b 4 _ (unhide HB).fb
      have H4 := hide (And.intro P4 C4)
      clear C4
      refine (fault_any b num n win delay 5 F FS _ v st _ P4).mono ?_
      rintro e w4 ⟨g4, rfl, hg4, hc0, hc1, hb4⟩
      clear P4
      go_wp2
      go_ret
      obtain ⟨P4, C4⟩ := unhide H4
      have hC := C4.thenBelow (hb4.mono C4.size)
      refine ⟨hC, F, FS, v, fun k hk => .inl hk, fun k hk => by have := hF k hk; have := hC.size; omega, .inr ⟨fun h => unhide HTT ((unhide HT).1 h), ⟨g4, rfl, Nat.le_trans C4.size hg4, hc0, hc1⟩, P4.same (fun k hk => hb4.block k (by have := hF k hk; have := C4.size; omega))⟩⟩
end Go.Proofs.YtandblanpafjoaaGreatDoor

namespace Go.Proofs.YtandblanpafjoaaGreatDoor
open Go.RowKit Go.Extern.Stop Go.Stop Go.Extern
set_option maxRecDepth 10000 in
set_option maxHeartbeats 2000000 in
theorem packet_any (b num n win delay q : Nat) (F FS : Nat → Prop) (x : PeerM) (v : Nat → Value) (st : Value) (w : World) (h : PeerK w b F FS num n win delay x v st) (hq : q < n) (hak : x.acked q < (x.known num).length) :
    Calls Tryz.prog 34 #[.pointer (some ⟨b, 0, none⟩), .int .i64 (q : Int)] w fun e w' => ∃ g, e = .returned (.slice (some ⟨g, 0, none⟩) (packM x num q).length (packM x num q).length) ∧ w.heap.size ≤ g ∧ Blk w' g (nums .u8 (packM x num q)) 5 ∧ Below w.heap.size w w' := by
  have hn4 := h.hn4
  have hnum := h.hnum
  have c0 : w.cell? ⟨b, 0, none⟩ = some (.int .i64 (num : Int)) := h.cell 0
  have ca := h.cA q hq
  have ck := h.cK num (by omega)
  have ck2 := h.cK q (by omega)
  have hl := h.lens num hnum
  have hl2 := h.lens q hq
  obtain ⟨ao, cp, hv, hsome, hnone⟩ := h.shape num hnum
  obtain ⟨ao2, cp2, hv2, hx1, hx2⟩ := h.shape q hq
  clear hx1 hx2
  rw [hv] at ck
  rw [hv2] at ck2
  obtain ⟨a0, rfl⟩ : ∃ a0, ao = some a0 := by
    cases ao with
    | none => exact absurd (hnone rfl).1 (by omega)
    | some a0 => exact ⟨a0, rfl⟩
  obtain ⟨g, rfl, hgl, hcap, hcells⟩ := hsome _ rfl
  clear hsome hnone h hv hv2
  obtain ⟨s, hs⟩ : ∃ s, x.acked q = s := ⟨_, rfl⟩
  obtain ⟨N, hN⟩ : ∃ N, (x.known num).length = N := ⟨_, rfl⟩
  obtain ⟨k, hk⟩ : ∃ k, min (N - s) 64 = k := ⟨_, rfl⟩
  rw [hN] at ck hak hcap hcells hl
  rw [hs] at ca hak
  have hlen : (packM x num q).length = 8 + k := by
    unfold packM; rw [packL_len]; simp; omega
  have hpk : packM x num q = packL (num : Int) (s : Int) ((x.known q).length : Int) (((x.known num).drop s).take 64) := by unfold packM; rw [hs]
  have hll : (((x.known num).drop s).take 64).length = k := by simp; omega
  have hcs : ∀ j, j < k → w.cell? ⟨g, s + j, none⟩ = some (.int .u8 ((((x.known num).drop s).take 64).getD j 0)) := fun j hj => by
    rw [hcells (s + j) (by omega)]
    congr 2
    simp [List.getD_eq_getElem?_getD, List.getElem?_drop, show j < 64 by omega]
  rw [hlen, hpk]
  generalize ((x.known num).drop s).take 64 = l at *
  generalize (x.known q).length = Q at *
  clear hcells hlen hpk
  have t0 : (0 : Int) ≤ (q : Int) := by omega
  have t1 : (q : Int) < 4 := by omega
  have u0 : (0 : Int) ≤ (num : Int) := by omega
  have u1 : (num : Int) < 4 := by omega
  have s0 : (0 : Int) ≤ (s : Int) := by omega
  have s1 : (s : Int) ≤ (N : Int) := by omega
  have s2 : (s : Int) ≤ (cp : Int) := by omega
  have s3 : ¬ cp = s := by omega
  have hsw : IntKind.i64.wrap (s : Int) = (s : Int) := i64_id _ (by omega) (by omega)
  have hif : (if (64 : Int) < ((N - s : Nat) : Int) then 64 else ((N - s : Nat) : Int)) = (k : Int) := by split <;> omega
  have k0 : (0 : Int) ≤ (k : Int) := by omega
  have k1 : (k : Int) ≤ ((cp - s : Nat) : Int) := by omega
  have k2 : (k : Int) ≤ ((N - s : Nat) : Int) := by omega
  have hkw : IntKind.i64.wrap (k : Int) = (k : Int) := i64_id _ (by omega) (by omega)
  have HC := hide hcs
  clear hcs
  go_enter Tryz.func34, Tryz.ntmps34
  go_wp2_with fail
  refine wp_moves_reads_tail0 11 (by kernel_rfl) (by kernel_rfl) (by kernel_rfl) (by kernel_rfl) ?_
  simp only [List.take_succ_cons, List.take_zero, List.drop_succ_cons, List.drop_zero]
  repeat still_step
  refine wpStill_nil ?_
  go_wp2_with fail
  have hG : GoodP (num : Int) (s : Int) (Q : Int) k := ⟨⟨by omega, by omega⟩, ⟨by omega, by omega⟩, ⟨by omega, by omega⟩, by omega⟩
  have hbl : b < w.heap.size := World.block_lt_of_cell? w _ c0
  refine wp_region_noPanic ?_
  refine wp_held_reads 18 (fun W' => W'.cell? ⟨b, 0, none⟩ = some (.int .i64 (num : Int)) ∧ W'.cell? ⟨b, 5 + q, none⟩ = some (.slice ao2 Q cp2)) (by kernel_rfl) (by simp) (by kernel_rfl) (by kernel_rfl) (fun _ _ _ _ _ h => h) ⟨c0, ck2⟩ ?_
  simp only [List.take_succ_cons, List.take_zero]
  refine wpHeld_op ?y0 rfl ?z0 ?_
  case z0 => intro w' hS; obtain ⟨hS1, hS2⟩ := hS; go_simp; rfl
  refine wpHeld_op ?y1 rfl ?z1 ?_
  case z1 => intro w' hS; obtain ⟨hS1, hS2⟩ := hS; go_simp; rfl
  refine wpHeld_op ?y2 rfl ?z2 ?_
  case z2 => intro w' hS; obtain ⟨hS1, hS2⟩ := hS; go_simp; rfl
  refine wpHeld_op ?y3 rfl ?z3 ?_
  case z3 => intro w' hS; obtain ⟨hS1, hS2⟩ := hS; go_simp; rfl
  refine wpHeld_op ?y4 rfl ?z4 ?_
  case z4 => intro w' hS; obtain ⟨hS1, hS2⟩ := hS; go_simp; rfl
  refine wpHeld_op ?y5 rfl ?z5 ?_
  case z5 => intro w' hS; obtain ⟨hS1, hS2⟩ := hS; go_simp; rfl
  refine wpHeld_op ?y6 rfl ?z6 ?_
  case z6 => intro w' hS; obtain ⟨hS1, hS2⟩ := hS; go_simp; rfl
  refine wpHeld_op ?y7 rfl ?z7 ?_
  case z7 => intro w' hS; obtain ⟨hS1, hS2⟩ := hS; go_simp; rfl
  refine wpHeld_op ?y8 rfl ?z8 ?_
  case z8 => intro w' hS; obtain ⟨hS1, hS2⟩ := hS; go_simp; rfl
  refine wpHeld_op ?y9 rfl ?z9 ?_
  case z9 => intro w' hS; obtain ⟨hS1, hS2⟩ := hS; go_simp; rfl
  refine wpHeld_op ?y10 rfl ?z10 ?_
  case z10 => intro w' hS; obtain ⟨hS1, hS2⟩ := hS; go_simp; rfl
  refine wpHeld_op ?y11 rfl ?z11 ?_
  case z11 => intro w' hS; obtain ⟨hS1, hS2⟩ := hS; go_simp; rfl
  refine wpHeld_op ?y12 rfl ?z12 ?_
  case z12 => intro w' hS; obtain ⟨hS1, hS2⟩ := hS; go_simp; rfl
  refine wpHeld_op ?y13 rfl ?z13 ?_
  case z13 => intro w' hS; obtain ⟨hS1, hS2⟩ := hS; go_simp; rfl
  refine wpHeld_op ?y14 rfl ?z14 ?_
  case z14 => intro w' hS; obtain ⟨hS1, hS2⟩ := hS; go_simp; rfl
  refine wpHeld_op ?y15 rfl ?z15 ?_
  case z15 => intro w' hS; obtain ⟨hS1, hS2⟩ := hS; go_simp; rfl
  refine wpHeld_op (.slice (some ⟨g, s, none⟩) k (cp - s)) rfl ?z16 ?_
  case z16 => intro w' hS; obtain ⟨hS1, hS2⟩ := hS; go_simp
  refine wpHeld_op ?y17 rfl ?z17 ?_
  case z17 => intro w' hS; obtain ⟨hS1, hS2⟩ := hS; go_simp; rfl
  unfold wpHeld
  refine wpAnyH_all (rs := [18]) (by kernel_rfl) (by simp) ?_
  intro j hj
  obtain rfl : j = 18 := by simpa using hj
  refine wpOp_of_list _ rfl rfl ?_
  go_wp2_with fail
  refine (write_yes (num : Int) (s : Int) (Q : Int) (some ⟨g, s, none⟩) k (cp - s) l w.drew.drew hG hll (fun h => (by cases h)) (.inr ⟨g, s, rfl, hgl, fun j hj => unhide HC j (by omega)⟩)).mono ?_
  rintro e w5 ⟨g5, rfl, hg5, hB5, hb5⟩
  have hS5 : w5.cell? ⟨b, 0, none⟩ = some (.int .i64 (num : Int)) ∧ w5.cell? ⟨b, 5 + q, none⟩ = some (.slice ao2 Q cp2) := ⟨(hb5.cell (p := ⟨b, 0, none⟩) hbl).trans c0, (hb5.cell (p := ⟨b, 5 + q, none⟩) hbl).trans ck2⟩
  go_wp2_with fail
  refine ⟨hS5, ?_⟩
  refine wpAnyH_take (i := 19) (v := .tuple #[.slice (some ⟨g5, 0, none⟩) (8 + k) (8 + k), .nilIface]) rfl (by kernel_rfl) (by kernel_rfl) (by kernel_rfl) (fun _ _ _ h => h) (Or.inl ⟨by rfl, ?g19⟩) hS5 ?_
  case g19 => intro w' _; go_simp
  refine wpAnyH_take (i := 20) (v := .slice (some ⟨g5, 0, none⟩) (8 + k) (8 + k)) rfl (by kernel_rfl) (by kernel_rfl) (by kernel_rfl) (fun _ _ _ h => h) (Or.inl ⟨by rfl, ?g20⟩) hS5 ?_
  case g20 => intro w' _; go_simp
  refine wpAnyH_take (i := 21) (v := .nilIface) rfl (by kernel_rfl) (by kernel_rfl) (by kernel_rfl) (fun _ _ _ h => h) (Or.inl ⟨by rfl, ?g21⟩) hS5 ?_
  case g21 => intro w' _; go_simp
  refine wpAnyH_take (i := 22) (v := .slice (some ⟨g5, 0, none⟩) (8 + k) (8 + k)) rfl (by kernel_rfl) (by kernel_rfl) (by kernel_rfl) (fun _ _ _ h => h) (Or.inl ⟨by rfl, ?g22⟩) hS5 ?_
  case g22 => intro w' _; go_simp
  refine wpAnyH_take (i := 23) (v := .nilIface) rfl (by kernel_rfl) (by kernel_rfl) (by kernel_rfl) (fun _ _ _ h => h) (Or.inl ⟨by rfl, ?g23⟩) hS5 ?_
  case g23 => intro w' _; go_simp
  refine ⟨by kernel_rfl, ?_⟩
  go_wp2_with fail
  refine NoPanic.normal ?_
  go_wp2
  go_ret
  exact ⟨g5, rfl, hg5, hB5, ⟨hb5.os, hb5.tape, hb5.output, hb5.size, hb5.block⟩⟩
end Go.Proofs.YtandblanpafjoaaGreatDoor

namespace Go.Proofs.YtandblanpafjoaaGreatDoor
open Go.RowKit Go.Extern.Stop Go.Stop Go.Extern
def WPart (g : Nat) (pv lv wv : Value) (k : Nat) : Prop := k = g ∨ pv.ownBlock = some k ∨ lv.ownBlock = some k ∨ wv.ownBlock = some k
def BPart (bl : Nat → Nat) (fs : List FlyM) (k : Nat) : Prop := ∃ f ∈ fs, k = bl f.num
structure NetP (w : World) (g : Nat) (pv lv wv : Value) (bl : Nat → Nat) (l : List FlyM) (pb : Nat → Nat) (Fp : Nat → Nat → Prop) (m : NetM) : Prop where
  wire : WireAt w g pv m.lags m.now m.sent lv wv bl l
  perm : l.Perm m.flights
  heap : HeapO l l.length
  numb : Nums m
  row : w.ownsRow 0 67 1 pv m.players ((List.range m.players).map fun p => Value.pointer (some ⟨pb p, 0, none⟩))
  pvn : pv.ownBlock ≠ some g
  pvl : ∀ k, pv.ownBlock = some k → lv.ownBlock ≠ some k ∧ wv.ownBlock ≠ some k
  peers : ∀ p, p < m.players → ∃ FS v st, PeerAt w (pb p) (Fp p) FS p m.players m.window m.delay (m.peers p) v st
  plt : ∀ p k, p < m.players → Fp p k → k < w.heap.size ∧ ¬ WPart g pv lv wv k ∧ ¬ BPart bl m.flights k
  papart : ∀ p q k, p < m.players → q < m.players → Fp p k → Fp q k → p = q
  bytes : ∀ f ∈ m.flights, Blk w (bl f.num) (nums .u8 f.bytes) 5 ∧ ¬ WPart g pv lv wv (bl f.num)
  fly : ∀ f ∈ m.flights, f.to < m.players ∧ f.bytes.length ≤ 70000 ∧ ∀ j : Nat, 0 ≤ f.bytes.getD j 0 ∧ f.bytes.getD j 0 ≤ 255
  lags : ∀ x ∈ m.lags, -1 ≤ x ∧ x ≤ 20
  hp : 2 ≤ m.players ∧ m.players ≤ 4
def Foot (g : Nat) (pv lv wv : Value) (bl : Nat → Nat) (Fp : Nat → Nat → Prop) (m : NetM) (k : Nat) : Prop := WPart g pv lv wv k ∨ BPart bl m.flights k ∨ ∃ p, p < m.players ∧ Fp p k
theorem NetP.lt {w : World} {g : Nat} {pv lv wv : Value} {bl : Nat → Nat} {l : List FlyM} {pb : Nat → Nat} {Fp : Nat → Nat → Prop} {m : NetM} (h : NetP w g pv lv wv bl l pb Fp m) (k : Nat) (hk : Foot g pv lv wv bl Fp m k) : k < w.heap.size := by
  rcases hk with (hk | hk | hk) | ⟨f, hf, rfl⟩ | ⟨p, hp, hk⟩
  · exact h.wire.lts k (.inl hk)
  · exact (h.row.lt k hk).2
  · exact h.wire.lts k (.inr hk)
  · exact (h.bytes f hf).1.lt
  · exact (h.plt p k hp hk).1
theorem NetP.same {w w' : World} {g : Nat} {pv lv wv : Value} {bl : Nat → Nat} {l : List FlyM} {pb : Nat → Nat} {Fp : Nat → Nat → Prop} {m : NetM} (h : NetP w g pv lv wv bl l pb Fp m) (hs : ∀ k, Foot g pv lv wv bl Fp m k → w'.heap[k]? = w.heap[k]?) : NetP w' g pv lv wv bl l pb Fp m where
  wire := h.wire.same (fun k hk => hs k (.inl (hk.imp id (fun h => .inr h))))
  perm := h.perm
  heap := h.heap
  numb := h.numb
  row := owns_same h.row (fun k hk => hs k (.inl (.inr (.inl hk))))
  pvn := h.pvn
  pvl := h.pvl
  peers := fun p hp => by
    obtain ⟨FS, v, st, hP⟩ := h.peers p hp
    exact ⟨FS, v, st, hP.same (fun k hk => hs k (.inr (.inr ⟨p, hp, hk⟩)))⟩
  plt := fun p k hp hk => by
    refine ⟨?_, (h.plt p k hp hk).2⟩
    have h1 := hs k (.inr (.inr ⟨p, hp, hk⟩))
    rw [Array.getElem?_eq_getElem (h.plt p k hp hk).1] at h1
    exact (Array.getElem?_eq_some_iff.1 h1).1
  papart := h.papart
  bytes := fun f hf => ⟨(hs _ (.inr (.inl ⟨f, hf, rfl⟩))).trans (h.bytes f hf).1, (h.bytes f hf).2⟩
  fly := h.fly
  lags := h.lags
  hp := h.hp
theorem NetP.below {w w' : World} {g : Nat} {pv lv wv : Value} {bl : Nat → Nat} {l : List FlyM} {pb : Nat → Nat} {Fp : Nat → Nat → Prop} {m : NetM} (h : NetP w g pv lv wv bl l pb Fp m) (hb : Below w.heap.size w w') : NetP w' g pv lv wv bl l pb Fp m := h.same (fun k hk => hb.block k (h.lt k hk))
/-- A peer has changed. -/
theorem NetP.peer {w w' : World} {g : Nat} {pv lv wv : Value} {bl : Nat → Nat} {l : List FlyM} {pb : Nat → Nat} {Fp : Nat → Nat → Prop} {m : NetM} (h : NetP w g pv lv wv bl l pb Fp m) {p : Nat} (hp : p < m.players) (hC : Chg (Fp p) w w') {F' FS' : Nat → Prop} {x' : PeerM} {v' : Nat → Value} {st' : Value}
    (hP : PeerAt w' (pb p) F' FS' p m.players m.window m.delay x' v' st') (hF : ∀ k, F' k → Fp p k ∨ w.heap.size ≤ k) (hlt : ∀ k, F' k → k < w'.heap.size) : NetP w' g pv lv wv bl l pb (fun i => if i = p then F' else Fp i) (m.put p x') := by
  have hsW : ∀ k, WPart g pv lv wv k → w'.heap[k]? = w.heap[k]? := fun k hk => hC.block k (h.lt k (.inl hk)) (fun e => (h.plt p k hp e).2.1 hk)
  have hsB : ∀ k, BPart bl m.flights k → w'.heap[k]? = w.heap[k]? := fun k hk => hC.block k (h.lt k (.inr (.inl hk))) (fun e => (h.plt p k hp e).2.2 hk)
  refine ⟨h.wire.same (fun k hk => hsW k (hk.imp id (fun h => .inr h))), h.perm, h.heap, ⟨h.numb.lt, h.numb.row⟩, owns_same h.row (fun k hk => hsW k (.inr (.inl hk))), h.pvn, h.pvl, fun q hq => ?_, fun q k hq hk => ?_, fun q q' k hq hq' h1 h2 => ?_, fun f hf => ⟨(hsB _ ⟨f, hf, rfl⟩).trans (h.bytes f hf).1, (h.bytes f hf).2⟩, h.fly, h.lags, h.hp⟩
  · by_cases e : q = p
    · subst e
      simp only [if_true, NetM.put]
      exact ⟨FS', v', st', hP⟩
    · obtain ⟨FS, v, st, hQ⟩ := h.peers q hq
      simp only [if_neg e, NetM.put]
      exact ⟨FS, v, st, hQ.same (fun k hk => hC.block k (h.plt q k hq hk).1 (fun e2 => e (h.papart q p k hq hp hk e2)))⟩
  · by_cases e : q = p
    · subst e
      simp only [if_true] at hk
      refine ⟨hlt k hk, ?_⟩
      rcases hF k hk with hk | hk
      · exact (h.plt q k hq hk).2
      · exact ⟨fun hw => by have := h.lt k (.inl hw); omega, fun hb => by have := h.lt k (.inr (.inl hb)); omega⟩
    · simp only [if_neg e] at hk
      have := h.plt q k hq hk
      exact ⟨Nat.lt_of_lt_of_le this.1 hC.size, this.2⟩
  · by_cases e : q = p
    · by_cases e' : q' = p
      · rw [e, e']
      · simp only [if_pos e, if_neg e'] at h1 h2
        rcases hF k h1 with h1 | h1
        · rw [e]; exact h.papart p q' k hp hq' h1 h2
        · have := (h.plt q' k hq' h2).1; omega
    · by_cases e' : q' = p
      · simp only [if_neg e, if_pos e'] at h1 h2
        rcases hF k h2 with h2 | h2
        · rw [e']; exact h.papart q p k hq hp h1 h2
        · have := (h.plt q k hq h1).1; omega
      · simp only [if_neg e, if_neg e'] at h1 h2
        exact h.papart q q' k hq hq' h1 h2
theorem NetP.footPeer {w : World} {g : Nat} {pv lv wv : Value} {bl : Nat → Nat} {Fp : Nat → Nat → Prop} {m : NetM} {p : Nat} {F' : Nat → Prop} {x' : PeerM} (hp : p < m.players) (hF : ∀ k, F' k → Fp p k ∨ w.heap.size ≤ k) (k : Nat) (hk : Foot g pv lv wv bl (fun i => if i = p then F' else Fp i) (m.put p x') k) : Foot g pv lv wv bl Fp m k ∨ w.heap.size ≤ k := by
  rcases hk with hk | hk | ⟨q, hq, hk⟩
  · exact .inl (.inl hk)
  · exact .inl (.inr (.inl hk))
  · by_cases e : q = p
    · simp only [if_pos e] at hk
      exact (hF k hk).imp (fun h => .inr (.inr ⟨p, hp, h⟩)) id
    · simp only [if_neg e] at hk
      exact .inl (.inr (.inr ⟨q, hq, hk⟩))
theorem NetP.lagRng {w : World} {g : Nat} {pv lv wv : Value} {bl : Nat → Nat} {l : List FlyM} {pb : Nat → Nat} {Fp : Nat → Nat → Prop} {m : NetM} (h : NetP w g pv lv wv bl l pb Fp m) : -1 ≤ lagI m.lags m.sent ∧ lagI m.lags m.sent ≤ 20 := by
  unfold lagI
  split
  · omega
  · rename_i hne
    have hl : 0 < m.lags.length := List.length_pos_iff.2 hne
    have hm : m.sent % m.lags.length < m.lags.length := Nat.mod_lt _ hl
    rw [List.getD_eq_getElem?_getD, List.getElem?_eq_getElem hm]
    exact h.lags _ (List.getElem_mem _)
theorem Nums.few {m : NetM} (h : Nums m) : m.flights.length ≤ m.sent := by
  have : ∀ (l : List FlyM) (lo s : Nat), (∀ f ∈ l, lo ≤ f.num ∧ f.num < s) → l.Pairwise (fun a b => a.num < b.num) → l.length ≤ s - lo := by
    intro l
    induction l with
    | nil => intro lo s _ _; exact Nat.zero_le _
    | cons f l ih =>
      intro lo s h1 h2
      rw [List.pairwise_cons] at h2
      have h3 := ih (f.num + 1) s (fun a ha => ⟨h2.1 a ha, (h1 a (by simp [ha])).2⟩) h2.2
      have h4 := h1 f (by simp)
      simp only [List.length_cons]; omega
  have := this m.flights 0 m.sent (fun f hf => ⟨Nat.zero_le _, h.lt f hf⟩) h.row
  omega
theorem packM_in {x : PeerM} {num n win delay q : Nat} (h : POk x num n win delay) (hn : n ≤ 4) (hnum : num < n) (hq : q < n) : (packM x num q).length ≤ 72 ∧ ∀ j : Nat, 0 ≤ (packM x num q).getD j 0 ∧ (packM x num q).getD j 0 ≤ 255 := by
  have hl : (((x.known num).drop (x.acked q)).take 64).length ≤ 64 := by simp; omega
  have h1 := h.len num hnum
  have h2 := h.len q hq
  have h3 := h.ack q hq
  refine ⟨by unfold packM; rw [packL_len]; omega, ?_⟩
  refine (InB.pack (f := (num : Int)) (st := (x.acked q : Int)) (ak := ((x.known q).length : Int)) (l := ((x.known num).drop (x.acked q)).take 64) ⟨⟨by omega, by omega⟩, ⟨by omega, by omega⟩, ⟨by omega, by omega⟩, hl⟩ ?_).get
  intro y hy
  have hy2 := List.mem_of_mem_drop (List.mem_of_mem_take hy)
  obtain ⟨j, hj, rfl⟩ := List.mem_iff_getElem.1 hy2
  have := h.rng num hnum j
  rw [List.getD_eq_getElem?_getD, List.getElem?_eq_getElem hj] at this
  exact this
end Go.Proofs.YtandblanpafjoaaGreatDoor

