import Derived.Test.YtandblanpafjoabGreatDoorPeerG
import Derived.Deep.QuietTactic
import Derived.BigQuiet
namespace Go.Proofs.YtandblanpafjoabGreatDoor
open Go.RowKit Go.Extern.Stop Go.Stop Go.Extern

/-- What a peer takes of a packet whose bytes are one. -/
def TakesM (x : PeerM) (num n delay fr start ack L : Nat) : Prop := fr ≠ num ∧ fr < n ∧ start ≤ (x.known fr).length ∧ start + L ≤ 200 + delay ∧ ack ≤ (x.known num).length
instance (x : PeerM) (num n delay fr start ack L : Nat) : Decidable (TakesM x num n delay fr start ack L) := by unfold TakesM; infer_instance

theorem below_drewN {B : Nat} {w w' : World} (h : Below B w w') (n : Nat) : Below B w (w'.drewN n) := ⟨h.os, h.tape, h.output, h.size, h.block⟩
set_option maxRecDepth 10000 in
set_option maxHeartbeats 2000000 in
theorem refuses_any (b num n win delay fr start ack L cap : Nat) (ao : Option Addr) (F FS : Nat → Prop) (x : PeerM) (v : Nat → Value) (st : Value) (w : World) (h : PeerK w b F FS num n win delay x v st) (hd : delay ≤ 3)
    (hfr : fr ≤ 255) (hs : start ≤ 65535) (hL : L ≤ 70000) :
    Calls Tryz.prog 80 #[.pointer (some ⟨b, 0, none⟩), .agg #[.int .i64 (fr : Int), .int .i64 (start : Int), .int .i64 (ack : Int), .slice ao L cap]] w fun e w' => e = .returned (.bool (!decide (TakesM x num n delay fr start ack L))) ∧ Below w.heap.size w w' := by
  have hn4 := h.hn4
  have hnum := h.hnum
  have hbl := h.blk.lt
  have bB : Below w.heap.size w (w.alloc (.cells #[.int .i64 (fr : Int), .int .i64 (start : Int), .int .i64 (ack : Int), .slice ao L cap] 130)) := (Below.refl _ w).alloc (Nat.le_refl _) _
  have xB : Blk (w.alloc (.cells #[.int .i64 (fr : Int), .int .i64 (start : Int), .int .i64 (ack : Int), .slice ao L cap] 130)) w.heap.size #[.int .i64 (fr : Int), .int .i64 (start : Int), .int .i64 (ack : Int), .slice ao L cap] 130 := Blk.new _ _ _
  have HB := hide h
  clear h
  go_enter Tryz.func80, Tryz.ntmps80
  go_wp2_with fail
  generalize w.alloc (.cells #[.int .i64 (fr : Int), .int .i64 (start : Int), .int .i64 (ack : Int), .slice ao L cap] 130) = W1 at *
  have m0 : W1.cell? ⟨w.heap.size, 0, none⟩ = some (.int .i64 (fr : Int)) := xB.cell 0
  have m1 : W1.cell? ⟨w.heap.size, 1, none⟩ = some (.int .i64 (start : Int)) := xB.cell 1
  have m2 : W1.cell? ⟨w.heap.size, 2, none⟩ = some (.int .i64 (ack : Int)) := xB.cell 2
  have m3 : W1.cell? ⟨w.heap.size, 3, none⟩ = some (.slice ao L cap) := xB.cell 3
  have c0 : W1.cell? ⟨b, 0, none⟩ = some (.int .i64 (num : Int)) := (bB.cell (p := ⟨b, 0, none⟩) hbl).trans ((unhide HB).cell 0)
  have c1 : W1.cell? ⟨b, 1, none⟩ = some (.int .i64 (n : Int)) := (bB.cell (p := ⟨b, 1, none⟩) hbl).trans ((unhide HB).cell 1)
  have c3 : W1.cell? ⟨b, 3, none⟩ = some (.int .i64 (delay : Int)) := (bB.cell (p := ⟨b, 3, none⟩) hbl).trans ((unhide HB).cell 3)
  obtain ⟨ao1, cp1, hv1, _, _⟩ := (unhide HB).shape num hnum
  have ck1 : W1.cell? ⟨b, 5 + num, none⟩ = some (.slice ao1 (x.known num).length cp1) := by rw [← hv1]; exact (bB.cell (p := ⟨b, 5 + num, none⟩) hbl).trans ((unhide HB).cK num (by omega))
  have hl1 := (unhide HB).lens num hnum
  have n0 : (0 : Int) ≤ (num : Int) := by omega
  have n1 : (num : Int) < 4 := by omega
  have hw1 : IntKind.i64.wrap ((start : Int) + (L : Int)) = (start : Int) + (L : Int) := i64_id _ (by omega) (by omega)
  have hw2 : IntKind.i64.wrap (200 + (delay : Int)) = 200 + (delay : Int) := i64_id _ (by omega) (by omega)
  have HX := hide bB
  clear xB bB
  by_cases h1 : fr = num
  · have e1 : ((fr : Int) == (num : Int)) = true := by simp [h1]
    have hR : decide (TakesM x num n delay fr start ack L) = false := by simp [TakesM, h1]
    clear h1
    go_quiet (fail)
    go_wp2
    go_ret
    exact ⟨by rw [hR]; rfl, below_drewN (unhide HX) _⟩
  · have e1 : ((fr : Int) == (num : Int)) = false := by simp; omega
    by_cases h2 : n ≤ fr
    · have e2 : decide (n ≤ fr) = true := by simp; omega
      have hR : decide (TakesM x num n delay fr start ack L) = false := decide_eq_false (fun h => by obtain ⟨_, _, _, _, _⟩ := h; omega)
      clear h1 h2
      go_quiet (fail)
      go_wp2
      go_ret
      exact ⟨by rw [hR]; rfl, below_drewN (unhide HX) _⟩
    · have e2 : decide (n ≤ fr) = false := by simp; omega
      have hfn : fr < n := by omega
      obtain ⟨ao2, cp2, hv2, _, _⟩ := (unhide HB).shape fr hfn
      have ck2 : W1.cell? ⟨b, 5 + fr, none⟩ = some (.slice ao2 (x.known fr).length cp2) := by rw [← hv2]; exact ((unhide HX).cell (p := ⟨b, 5 + fr, none⟩) hbl).trans ((unhide HB).cK fr (by omega))
      have hl2 := (unhide HB).lens fr hfn
      have f0 : (0 : Int) ≤ (fr : Int) := by omega
      have f1 : (fr : Int) < 4 := by omega
      by_cases h3 : (x.known fr).length < start
      · have e3 : decide ((x.known fr).length < start) = true := by simp; omega
        have hR : decide (TakesM x num n delay fr start ack L) = false := decide_eq_false (fun h => by obtain ⟨_, _, _, _, _⟩ := h; omega)
        clear h1 h2 h3
        go_quiet (fail)
        go_wp2
        go_ret
        exact ⟨by rw [hR]; rfl, below_drewN (unhide HX) _⟩
      · have e3 : decide ((x.known fr).length < start) = false := by simp; omega
        by_cases h4 : 200 + delay < start + L
        · have e4 : decide (200 + (delay : Int) < (start : Int) + (L : Int)) = true := by simp; omega
          have hR : decide (TakesM x num n delay fr start ack L) = false := decide_eq_false (fun h => by obtain ⟨_, _, _, _, _⟩ := h; omega)
          clear h1 h2 h3 h4
          go_quiet (fail)
          go_wp2
          go_ret
          exact ⟨by rw [hR]; rfl, below_drewN (unhide HX) _⟩
        · have e4 : decide (200 + (delay : Int) < (start : Int) + (L : Int)) = false := by simp; omega
          by_cases h5 : (x.known num).length < ack
          · have e5 : decide ((x.known num).length < ack) = true := by simp; omega
            have hR : decide (TakesM x num n delay fr start ack L) = false := decide_eq_false (fun h => by obtain ⟨_, _, _, _, _⟩ := h; omega)
            clear h1 h2 h3 h4 h5
            go_quiet (fail)
            go_wp2
            go_ret
            exact ⟨by rw [hR]; rfl, below_drewN (unhide HX) _⟩
          · have e5 : decide ((x.known num).length < ack) = false := by simp; omega
            have hR : decide (TakesM x num n delay fr start ack L) = true := decide_eq_true ⟨by omega, by omega, by omega, by omega, by omega⟩
            clear h1 h2 h3 h4 h5
            go_quiet (fail)
            go_wp2
            go_ret
            exact ⟨by rw [hR]; rfl, below_drewN (unhide HX) _⟩
end Go.Proofs.YtandblanpafjoabGreatDoor
