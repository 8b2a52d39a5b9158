import Derived.Test.YtandblanpafjoabGreatDoorPeerG
import Derived.Test.YtandblanpafjoabGreatDoorPk2
namespace Go.Proofs.YtandblanpafjoabGreatDoor
open Go.RowKit Go.Extern.Stop Go.Stop Go.Extern

/-! What a peer sends. -/
set_option maxRecDepth 10000 in
set_option maxHeartbeats 2000000 in
theorem packet_any (b num n win delay q : Nat) (F FS : Nat → Prop) (x : PeerM) (v : Nat → Value) (st : Value) (w : World) (h : PeerK w b F FS num n win delay x v st) (hq : q < n) (hak : x.acked q < (x.known num).length) :
    Calls Tryz.prog 34 #[.pointer (some ⟨b, 0, none⟩), .int .i64 (q : Int)] w fun e w' => ∃ g, e = .returned (.slice (some ⟨g, 0, none⟩) (packM x num q).length (packM x num q).length) ∧ w.heap.size ≤ g ∧ Blk w' g (nums .u8 (packM x num q)) 5 ∧ Below w.heap.size w w' := by
  have hn4 := h.hn4
  have hnum := h.hnum
  have c0 : w.cell? ⟨b, 0, none⟩ = some (.int .i64 (num : Int)) := h.cell 0
  have ca := h.cA q hq
  have ck := h.cK num (by omega)
  have ck2 := h.cK q (by omega)
  have hl := h.lens num hnum
  have hl2 := h.lens q hq
  obtain ⟨ao, cp, hv, hsome, hnone⟩ := h.shape num hnum
  obtain ⟨ao2, cp2, hv2, hx1, hx2⟩ := h.shape q hq
  clear hx1 hx2
  rw [hv] at ck
  rw [hv2] at ck2
  obtain ⟨a0, rfl⟩ : ∃ a0, ao = some a0 := by
    cases ao with
    | none => exact absurd (hnone rfl).1 (by omega)
    | some a0 => exact ⟨a0, rfl⟩
  obtain ⟨g, rfl, hgl, hcap, hcells⟩ := hsome _ rfl
  clear hsome hnone h hv hv2
  obtain ⟨s, hs⟩ : ∃ s, x.acked q = s := ⟨_, rfl⟩
  obtain ⟨N, hN⟩ : ∃ N, (x.known num).length = N := ⟨_, rfl⟩
  obtain ⟨k, hk⟩ : ∃ k, min (N - s) 64 = k := ⟨_, rfl⟩
  rw [hN] at ck hak hcap hcells hl
  rw [hs] at ca hak
  have hlen : (packM x num q).length = 8 + k := by
    unfold packM; rw [packL_len]; simp; omega
  have hpk : packM x num q = packL (num : Int) (s : Int) ((x.known q).length : Int) (((x.known num).drop s).take 64) := by unfold packM; rw [hs]
  have hll : (((x.known num).drop s).take 64).length = k := by simp; omega
  have hcs : ∀ j, j < k → w.cell? ⟨g, s + j, none⟩ = some (.int .u8 ((((x.known num).drop s).take 64).getD j 0)) := fun j hj => by
    rw [hcells (s + j) (by omega)]
    congr 2
    simp [List.getD_eq_getElem?_getD, List.getElem?_drop, show j < 64 by omega]
  rw [hlen, hpk]
  generalize ((x.known num).drop s).take 64 = l at *
  generalize (x.known q).length = Q at *
  clear hcells hlen hpk
  have t0 : (0 : Int) ≤ (q : Int) := by omega
  have t1 : (q : Int) < 4 := by omega
  have u0 : (0 : Int) ≤ (num : Int) := by omega
  have u1 : (num : Int) < 4 := by omega
  have s0 : (0 : Int) ≤ (s : Int) := by omega
  have s1 : (s : Int) ≤ (N : Int) := by omega
  have s2 : (s : Int) ≤ (cp : Int) := by omega
  have s3 : ¬ cp = s := by omega
  have hsw : IntKind.i64.wrap (s : Int) = (s : Int) := i64_id _ (by omega) (by omega)
  have hif : (if (64 : Int) < ((N - s : Nat) : Int) then 64 else ((N - s : Nat) : Int)) = (k : Int) := by split <;> omega
  have k0 : (0 : Int) ≤ (k : Int) := by omega
  have k1 : (k : Int) ≤ ((cp - s : Nat) : Int) := by omega
  have k2 : (k : Int) ≤ ((N - s : Nat) : Int) := by omega
  have hkw : IntKind.i64.wrap (k : Int) = (k : Int) := i64_id _ (by omega) (by omega)
  have HC := hide hcs
  clear hcs
  go_enter Tryz.func34, Tryz.ntmps34
  go_wp2_with fail
  refine wp_moves_reads_tail0 11 (by kernel_rfl) (by kernel_rfl) (by kernel_rfl) (by kernel_rfl) ?_
  simp only [List.take_succ_cons, List.take_zero, List.drop_succ_cons, List.drop_zero]
  repeat still_step
  refine wpStill_nil ?_
  go_wp2_with fail
  have hG : GoodP (num : Int) (s : Int) (Q : Int) k := ⟨⟨by omega, by omega⟩, ⟨by omega, by omega⟩, ⟨by omega, by omega⟩, by omega⟩
  have hbl : b < w.heap.size := World.block_lt_of_cell? w _ c0
  refine wp_region_noPanic ?_
  refine wp_held_reads 18 (fun W' => W'.cell? ⟨b, 0, none⟩ = some (.int .i64 (num : Int)) ∧ W'.cell? ⟨b, 5 + q, none⟩ = some (.slice ao2 Q cp2)) (by kernel_rfl) (by simp) (by kernel_rfl) (by kernel_rfl) (fun _ _ _ _ _ h => h) ⟨c0, ck2⟩ ?_
  simp only [List.take_succ_cons, List.take_zero]
  refine wpHeld_op ?y0 rfl ?z0 ?_
  case z0 => intro w' hS; obtain ⟨hS1, hS2⟩ := hS; go_simp; rfl
  refine wpHeld_op ?y1 rfl ?z1 ?_
  case z1 => intro w' hS; obtain ⟨hS1, hS2⟩ := hS; go_simp; rfl
  refine wpHeld_op ?y2 rfl ?z2 ?_
  case z2 => intro w' hS; obtain ⟨hS1, hS2⟩ := hS; go_simp; rfl
  refine wpHeld_op ?y3 rfl ?z3 ?_
  case z3 => intro w' hS; obtain ⟨hS1, hS2⟩ := hS; go_simp; rfl
  refine wpHeld_op ?y4 rfl ?z4 ?_
  case z4 => intro w' hS; obtain ⟨hS1, hS2⟩ := hS; go_simp; rfl
  refine wpHeld_op ?y5 rfl ?z5 ?_
  case z5 => intro w' hS; obtain ⟨hS1, hS2⟩ := hS; go_simp; rfl
  refine wpHeld_op ?y6 rfl ?z6 ?_
  case z6 => intro w' hS; obtain ⟨hS1, hS2⟩ := hS; go_simp; rfl
  refine wpHeld_op ?y7 rfl ?z7 ?_
  case z7 => intro w' hS; obtain ⟨hS1, hS2⟩ := hS; go_simp; rfl
  refine wpHeld_op ?y8 rfl ?z8 ?_
  case z8 => intro w' hS; obtain ⟨hS1, hS2⟩ := hS; go_simp; rfl
  refine wpHeld_op ?y9 rfl ?z9 ?_
  case z9 => intro w' hS; obtain ⟨hS1, hS2⟩ := hS; go_simp; rfl
  refine wpHeld_op ?y10 rfl ?z10 ?_
  case z10 => intro w' hS; obtain ⟨hS1, hS2⟩ := hS; go_simp; rfl
  refine wpHeld_op ?y11 rfl ?z11 ?_
  case z11 => intro w' hS; obtain ⟨hS1, hS2⟩ := hS; go_simp; rfl
  refine wpHeld_op ?y12 rfl ?z12 ?_
  case z12 => intro w' hS; obtain ⟨hS1, hS2⟩ := hS; go_simp; rfl
  refine wpHeld_op ?y13 rfl ?z13 ?_
  case z13 => intro w' hS; obtain ⟨hS1, hS2⟩ := hS; go_simp; rfl
  refine wpHeld_op ?y14 rfl ?z14 ?_
  case z14 => intro w' hS; obtain ⟨hS1, hS2⟩ := hS; go_simp; rfl
  refine wpHeld_op ?y15 rfl ?z15 ?_
  case z15 => intro w' hS; obtain ⟨hS1, hS2⟩ := hS; go_simp; rfl
  refine wpHeld_op (.slice (some ⟨g, s, none⟩) k (cp - s)) rfl ?z16 ?_
  case z16 => intro w' hS; obtain ⟨hS1, hS2⟩ := hS; go_simp
  refine wpHeld_op ?y17 rfl ?z17 ?_
  case z17 => intro w' hS; obtain ⟨hS1, hS2⟩ := hS; go_simp; rfl
  unfold wpHeld
  refine wpAnyH_all (rs := [18]) (by kernel_rfl) (by simp) ?_
  intro j hj
  obtain rfl : j = 18 := by simpa using hj
  refine wpOp_of_list _ rfl rfl ?_
  go_wp2_with fail
  refine (write_yes (num : Int) (s : Int) (Q : Int) (some ⟨g, s, none⟩) k (cp - s) l w.drew.drew hG hll (fun h => (by cases h)) (.inr ⟨g, s, rfl, hgl, fun j hj => unhide HC j (by omega)⟩)).mono ?_
  rintro e w5 ⟨g5, rfl, hg5, hB5, hb5⟩
  have hS5 : w5.cell? ⟨b, 0, none⟩ = some (.int .i64 (num : Int)) ∧ w5.cell? ⟨b, 5 + q, none⟩ = some (.slice ao2 Q cp2) := ⟨(hb5.cell (p := ⟨b, 0, none⟩) hbl).trans c0, (hb5.cell (p := ⟨b, 5 + q, none⟩) hbl).trans ck2⟩
  go_wp2_with fail
  refine ⟨hS5, ?_⟩
  refine wpAnyH_take (i := 19) (v := .tuple #[.slice (some ⟨g5, 0, none⟩) (8 + k) (8 + k), .nilIface]) rfl (by kernel_rfl) (by kernel_rfl) (by kernel_rfl) (fun _ _ _ h => h) (Or.inl ⟨by rfl, ?g19⟩) hS5 ?_
  case g19 => intro w' _; go_simp
  refine wpAnyH_take (i := 20) (v := .slice (some ⟨g5, 0, none⟩) (8 + k) (8 + k)) rfl (by kernel_rfl) (by kernel_rfl) (by kernel_rfl) (fun _ _ _ h => h) (Or.inl ⟨by rfl, ?g20⟩) hS5 ?_
  case g20 => intro w' _; go_simp
  refine wpAnyH_take (i := 21) (v := .nilIface) rfl (by kernel_rfl) (by kernel_rfl) (by kernel_rfl) (fun _ _ _ h => h) (Or.inl ⟨by rfl, ?g21⟩) hS5 ?_
  case g21 => intro w' _; go_simp
  refine wpAnyH_take (i := 22) (v := .slice (some ⟨g5, 0, none⟩) (8 + k) (8 + k)) rfl (by kernel_rfl) (by kernel_rfl) (by kernel_rfl) (fun _ _ _ h => h) (Or.inl ⟨by rfl, ?g22⟩) hS5 ?_
  case g22 => intro w' _; go_simp
  refine wpAnyH_take (i := 23) (v := .nilIface) rfl (by kernel_rfl) (by kernel_rfl) (by kernel_rfl) (fun _ _ _ h => h) (Or.inl ⟨by rfl, ?g23⟩) hS5 ?_
  case g23 => intro w' _; go_simp
  refine ⟨by kernel_rfl, ?_⟩
  go_wp2_with fail
  refine NoPanic.normal ?_
  go_wp2
  go_ret
  exact ⟨g5, rfl, hg5, hB5, ⟨hb5.os, hb5.tape, hb5.output, hb5.size, hb5.block⟩⟩
end Go.Proofs.YtandblanpafjoabGreatDoor
