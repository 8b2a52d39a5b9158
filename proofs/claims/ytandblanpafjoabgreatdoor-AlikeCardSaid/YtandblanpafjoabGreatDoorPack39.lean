import Derived.Test.YtandblanpafjoabGreatDoorPack33
import Derived.Deep.CutBlock
namespace Go.Proofs.YtandblanpafjoabGreatDoor
open Go.RowKit Go.Extern.Stop Go.Stop Go.Extern

/-! How a peer stands. -/
def zPs : Array Value := #[.int .i64 0, .int .i64 0, .int .i64 0, .int .i64 0, .int .i64 0, .int .i64 0, .int .i64 0]
theorem Tryz.sizePs : (Tryz.prog.info? 38).map (·.size) = some 7 := by kernel_rfl
theorem Tryz.zeroPs (w : World) : (zeroValue 38).run Tryz.prog w = .ok (.agg zPs) w := by kernel_rfl
def knTo (x : PeerM) (k q : Nat) : Nat := if q < k then (x.known q).length else 0
def stands (x : PeerM) (n k : Nat) : Array Value := #[.int .i64 (x.frame : Int), .int .i64 (confTo x n : Int), .int .i64 (x.dropped : Int), .int .i64 (knTo x k 0 : Int), .int .i64 (knTo x k 1 : Int), .int .i64 (knTo x k 2 : Int), .int .i64 (knTo x k 3 : Int)]
theorem stands_zero (x : PeerM) (n : Nat) : stands x n 0 = #[.int .i64 (x.frame : Int), .int .i64 (confTo x n : Int), .int .i64 (x.dropped : Int), .int .i64 0, .int .i64 0, .int .i64 0, .int .i64 0] := by simp [stands, knTo]
theorem stands_succ (x : PeerM) (n k : Nat) (hk : k < 4) : (stands x n k).setIfInBounds (3 + k) (.int .i64 ((x.known k).length : Int)) = stands x n (k + 1) := by
  rcases k with _ | _ | _ | _ | k
  · simp [stands, knTo]
  · simp [stands, knTo]
  · simp [stands, knTo]
  · simp [stands, knTo]
  · omega
theorem stands_one (x : PeerM) (n k : Nat) : (stands x n k).all (·.oneCell') = true := by simp [stands, Value.oneCell']
theorem StoreAt.frame_call2 {w : World} {st : Value} {F : Nat → Prop} {n win lo frame : Nat} {fs : Nat → List Int} (h : StoreAt w st F n win lo frame fs) : ∃ t sb, st = .iface t (.pointer (some ⟨sb, 0, none⟩)) ∧ (∀ W : World, (Go.method 397 t (.pointer (some ⟨sb, 0, none⟩)) "Frame").run Tryz.prog W = .ok (180, .pointer (some ⟨sb, 0, none⟩)) W) ∧ w.cell? ⟨sb, 1, none⟩ = some (.int .i64 (frame : Int)) ∧ F sb := by
  rcases h with ⟨sb, pb, rb, e, h⟩ | ⟨sb, pb, rb, mb, e, h⟩
  · exact ⟨_, sb, e, fun W => mFrameF _ W, h.blk.c1, h.f1⟩
  · exact ⟨_, sb, e, fun W => mFrameD _ W, h.blk.c1, h.f1⟩

set_option maxRecDepth 10000 in
set_option maxHeartbeats 4000000 in
theorem stands_any (b num n win delay : Nat) (F FS : Nat → Prop) (x : PeerM) (v : Nat → Value) (st : Value) (w : World) (h : PeerAt w b F FS num n win delay x v st) (hF : ∀ k, F k → k < w.heap.size) :
    Calls Tryz.prog 41 #[.pointer (some ⟨b, 0, none⟩)] w fun e w' => e = .returned (.agg (stands x n n)) ∧ Below w.heap.size w w' := by
  obtain ⟨t, sb, rfl, hm, hc, hsb⟩ := h.store.frame_call2
  have hz := Tryz.zeroPs
  have hn4 := h.hn4
  have hbl := h.blk.lt
  have hsl := hF sb (h.fs sb hsb).1
  have HB := hide h
  have bR : Below w.heap.size w (w.alloc (.cells zPs 38)) := (Below.refl _ w).alloc (Nat.le_refl _) _
  have xR : Blk (w.alloc (.cells zPs 38)) w.heap.size zPs 38 := Blk.new _ _ _
  have c13 : (w.alloc (.cells zPs 38)).cell? ⟨b, 13, none⟩ = some (.iface t (.pointer (some ⟨sb, 0, none⟩))) := (bR.cell (p := ⟨b, 13, none⟩) hbl).trans (h.cell 13)
  have c4 : (w.alloc (.cells zPs 38)).cell? ⟨b, 4, none⟩ = some (.int .i64 (x.dropped : Int)) := (bR.cell (p := ⟨b, 4, none⟩) hbl).trans (h.cell 4)
  have cf : (w.alloc (.cells zPs 38)).cell? ⟨sb, 1, none⟩ = some (.int .i64 (x.frame : Int)) := (bR.cell (p := ⟨sb, 1, none⟩) hsl).trans hc
  have c1 : (w.alloc (.cells zPs 38)).cell? ⟨b, 1, none⟩ = some (.int .i64 (n : Int)) := (bR.cell (p := ⟨b, 1, none⟩) hbl).trans (h.cell 1)
  have hz1 : (w.alloc (.cells zPs 38)).heap.size = w.heap.size + 1 := by simp
  clear h hc
  go_enter Tryz.func41, Tryz.ntmps41
  go_upto_region 1 with fail
  generalize w.alloc (.cells zPs 38) = w1 at *
  have HZ := hide hz1
  clear hz1 hz
  go_cut [3] from 5 (fun s3 wx => s3 = .pointer (some ⟨w1.heap.size, 0, none⟩) ∧ Blk wx w1.heap.size (stands x n 0) 38 ∧ Below w1.heap.size w1 wx)
  case first =>
    have hS0 : w1.drew.cell? ⟨b, 13, none⟩ = some (.iface t (.pointer (some ⟨sb, 0, none⟩))) ∧ w1.drew.cell? ⟨b, 4, none⟩ = some (.int .i64 (x.dropped : Int)) ∧ w1.drew.cell? ⟨sb, 1, none⟩ = some (.int .i64 (x.frame : Int)) ∧ Below w.heap.size w w1.drew := ⟨c13, c4, cf, bR.drew⟩
    have hbA : Below w1.heap.size w1 (w1.drew.alloc (.cells zPs 38)) := (Below.refl _ w1).drew.alloc (Nat.le_refl _) _
    have xA : Blk (w1.drew.alloc (.cells zPs 38)) w1.heap.size zPs 38 := Blk.new _ _ _
    have hzz := unhide HZ
    have hSA : (w1.drew.alloc (.cells zPs 38)).cell? ⟨b, 13, none⟩ = some (.iface t (.pointer (some ⟨sb, 0, none⟩))) ∧ (w1.drew.alloc (.cells zPs 38)).cell? ⟨b, 4, none⟩ = some (.int .i64 (x.dropped : Int)) ∧ (w1.drew.alloc (.cells zPs 38)).cell? ⟨sb, 1, none⟩ = some (.int .i64 (x.frame : Int)) ∧ Below w.heap.size w (w1.drew.alloc (.cells zPs 38)) :=
      ⟨(hbA.cell (p := ⟨b, 13, none⟩) (by show b < w1.heap.size; omega)).trans c13, (hbA.cell (p := ⟨b, 4, none⟩) (by show b < w1.heap.size; omega)).trans c4, (hbA.cell (p := ⟨sb, 1, none⟩) (by show sb < w1.heap.size; omega)).trans cf, bR.trans (hbA.mono (by omega))⟩
    have xZ : Blk ((w1.drew.alloc (.cells zPs 38)).setRow w1.heap.size #[.int .i64 (x.frame : Int), .int .i64 (confTo x n : Int), .int .i64 (x.dropped : Int), .int .i64 0, .int .i64 0, .int .i64 0, .int .i64 0]) w1.heap.size (stands x n 0) 38 := by rw [stands_zero]; exact xA.setRow _
    have bZ : Below w1.heap.size w1 ((w1.drew.alloc (.cells zPs 38)).setRow w1.heap.size #[.int .i64 (x.frame : Int), .int .i64 (confTo x n : Int), .int .i64 (x.dropped : Int), .int .i64 0, .int .i64 0, .int .i64 0, .int .i64 0]) := below_setRow hbA (Nat.le_refl _) _
    have hSZ : ((w1.drew.alloc (.cells zPs 38)).setRow w1.heap.size #[.int .i64 (x.frame : Int), .int .i64 (confTo x n : Int), .int .i64 (x.dropped : Int), .int .i64 0, .int .i64 0, .int .i64 0, .int .i64 0]).cell? ⟨b, 13, none⟩ = some (.iface t (.pointer (some ⟨sb, 0, none⟩))) ∧ ((w1.drew.alloc (.cells zPs 38)).setRow w1.heap.size #[.int .i64 (x.frame : Int), .int .i64 (confTo x n : Int), .int .i64 (x.dropped : Int), .int .i64 0, .int .i64 0, .int .i64 0, .int .i64 0]).cell? ⟨b, 4, none⟩ = some (.int .i64 (x.dropped : Int)) ∧ ((w1.drew.alloc (.cells zPs 38)).setRow w1.heap.size #[.int .i64 (x.frame : Int), .int .i64 (confTo x n : Int), .int .i64 (x.dropped : Int), .int .i64 0, .int .i64 0, .int .i64 0, .int .i64 0]).cell? ⟨sb, 1, none⟩ = some (.int .i64 (x.frame : Int)) ∧ Below w.heap.size w ((w1.drew.alloc (.cells zPs 38)).setRow w1.heap.size #[.int .i64 (x.frame : Int), .int .i64 (confTo x n : Int), .int .i64 (x.dropped : Int), .int .i64 0, .int .i64 0, .int .i64 0, .int .i64 0]) :=
      ⟨(bZ.cell (p := ⟨b, 13, none⟩) (by show b < w1.heap.size; omega)).trans c13, (bZ.cell (p := ⟨b, 4, none⟩) (by show b < w1.heap.size; omega)).trans c4, (bZ.cell (p := ⟨sb, 1, none⟩) (by show sb < w1.heap.size; omega)).trans cf, bR.trans (bZ.mono (by omega))⟩
    clear hzz
    refine wp_region_noPanic ?_
    refine wp_held_reads 4 (fun W' => W'.cell? ⟨b, 13, none⟩ = some (.iface t (.pointer (some ⟨sb, 0, none⟩))) ∧ W'.cell? ⟨b, 4, none⟩ = some (.int .i64 (x.dropped : Int)) ∧ W'.cell? ⟨sb, 1, none⟩ = some (.int .i64 (x.frame : Int)) ∧ Below w.heap.size w W') (by kernel_rfl) (by simp) (by kernel_rfl) (by kernel_rfl) (fun _ _ _ _ _ h => h) hS0 ?_
    simp only [List.take_succ_cons, List.take_zero]
    refine wpHeld_op ?y0 rfl ?z0 ?_
    case z0 => intro w' hS; obtain ⟨hS1, hS2, hS3, hS4⟩ := hS; go_simp; rfl
    refine wpHeld_op ?y1 rfl ?z1 ?_
    case z1 => intro w' hS; obtain ⟨hS1, hS2, hS3, hS4⟩ := hS; go_simp; rfl
    refine wpHeld_op ?y2 rfl ?z2 ?_
    case z2 => intro w' hS; obtain ⟨hS1, hS2, hS3, hS4⟩ := hS; go_simp; rfl
    refine wpHeld_op ?y3 rfl ?z3 ?_
    case z3 => intro w' hS; obtain ⟨hS1, hS2, hS3, hS4⟩ := hS; go_simp; rfl
    unfold wpHeld
    refine wpAnyH_take (i := 5) (v := .pointer (some ⟨b, 0, none⟩)) rfl (by kernel_rfl) (by kernel_rfl) (by kernel_rfl) (fun _ _ _ h => h) (Or.inl ⟨by rfl, ?t5⟩) hS0 ?_
    case t5 => intro w' hS; obtain ⟨hS1, hS2, hS3, hS4⟩ := hS; go_simp
    refine wpAnyH_take (i := 7) (v := .pointer (some ⟨b, 0, none⟩)) rfl (by kernel_rfl) (by kernel_rfl) (by kernel_rfl) (fun _ _ _ h => h) (Or.inl ⟨by rfl, ?t7⟩) hS0 ?_
    case t7 => intro w' hS; obtain ⟨hS1, hS2, hS3, hS4⟩ := hS; go_simp
    refine wpAnyH_take (i := 8) (v := .pointer (some ⟨b, 0, none⟩)) rfl (by kernel_rfl) (by kernel_rfl) (by kernel_rfl) (fun _ _ _ h => h) (Or.inl ⟨by rfl, ?t8⟩) hS0 ?_
    case t8 => intro w' hS; obtain ⟨hS1, hS2, hS3, hS4⟩ := hS; go_simp
    refine wpAnyH_take (i := 9) (v := .pointer (some ⟨b, 4, none⟩)) rfl (by kernel_rfl) (by kernel_rfl) (by kernel_rfl) (fun _ _ _ h => h) (Or.inl ⟨by rfl, ?t9⟩) hS0 ?_
    case t9 => intro w' hS; obtain ⟨hS1, hS2, hS3, hS4⟩ := hS; go_simp
    refine wpAnyH_take (i := 10) (v := .int .i64 (x.dropped : Int)) rfl (by kernel_rfl) (by kernel_rfl) (by kernel_rfl) (fun _ _ _ h => h) (Or.inl ⟨by rfl, ?t10⟩) hS0 ?_
    case t10 => intro w' hS; obtain ⟨hS1, hS2, hS3, hS4⟩ := hS; go_simp
    refine wpAnyH_all (rs := [4, 12]) (by kernel_rfl) (by simp) ?_
    intro k hk
    have hk2 : k = 4 ∨ k = 12 := by simpa using hk
    clear hk
    rcases hk2 with rfl | rfl
    · skip
      refine wpOp_of_list _ rfl rfl ?_
      go_wp2_with fail
      refine (frame_cell sb x.frame _ hS0.2.2.1).mono ?_
      rintro e w' ⟨rfl, rfl⟩
      go_wp2_with fail
      refine ⟨hS0, ?_⟩
      refine wpAnyH_all (rs := [6, 12]) (by kernel_rfl) (by simp) ?_
      intro k hk
      have hk2 : k = 6 ∨ k = 12 := by simpa using hk
      clear hk
      rcases hk2 with rfl | rfl
      · skip
        refine wpOp_of_list _ rfl rfl ?_
        go_wp2_with fail
        refine (conf_any b num n win delay F FS x v _ _ ((unhide HB).same (fun k hk => hS0.2.2.2.block k (by have := hF k hk; omega)))).mono ?_
        rintro e w' ⟨rfl, rfl⟩
        go_wp2_with fail
        refine ⟨hS0, ?_⟩
        refine wpAnyH_take (i := 11) (v := .agg #[.int .i64 (x.frame : Int), .int .i64 (confTo x n : Int), .int .i64 (x.dropped : Int), .int .i64 0, .int .i64 0, .int .i64 0, .int .i64 0]) rfl (by kernel_rfl) (by kernel_rfl) (by kernel_rfl) (fun _ _ _ h => h) (Or.inl ⟨by rfl, ?gb3⟩) hS0 ?_
        case gb3 => intro w' _; go_simp
        refine wpAnyH_all (rs := [12]) (by kernel_rfl) (by simp) ?_
        intro k hk
        obtain rfl : k = 12 := by simpa using hk
        refine wpOp_of_list _ rfl rfl ?_
        go_wp2_with fail
        refine ⟨hSA, ?_⟩
        refine wpAnyH_all (rs := [13]) (by kernel_rfl) (by simp) ?_
        intro k hk
        obtain rfl : k = 13 := by simpa using hk
        refine wpOp_of_list _ rfl rfl ?_
        go_simp
        refine wpList_store_blk rfl 38 _ _ rfl w1.heap.size 38 zPs #[.int .i64 (x.frame : Int), .int .i64 (confTo x n : Int), .int .i64 (x.dropped : Int), .int .i64 0, .int .i64 0, .int .i64 0, .int .i64 0] rfl rfl xA Tryz.sizePs rfl (by simp [Value.oneCell']) ?_
        go_wp2_with fail
        refine ⟨hSZ, ⟨by kernel_rfl, ?_⟩⟩
        refine NoPanic.normal ?_
        go_wp2_with fail
        go_meet
        case rel => exact ⟨rfl, xZ, bZ⟩
      · skip
        refine wpOp_of_list _ rfl rfl ?_
        go_wp2_with fail
        refine ⟨hSA, ?_⟩
        refine wpAnyH_all (rs := [6]) (by kernel_rfl) (by simp) ?_
        intro k hk
        obtain rfl : k = 6 := by simpa using hk
        refine wpOp_of_list _ rfl rfl ?_
        go_wp2_with fail
        refine (conf_any b num n win delay F FS x v _ _ ((unhide HB).same (fun k hk => hSA.2.2.2.block k (by have := hF k hk; omega)))).mono ?_
        rintro e w' ⟨rfl, rfl⟩
        go_wp2_with fail
        refine ⟨hSA, ?_⟩
        refine wpAnyH_take (i := 11) (v := .agg #[.int .i64 (x.frame : Int), .int .i64 (confTo x n : Int), .int .i64 (x.dropped : Int), .int .i64 0, .int .i64 0, .int .i64 0, .int .i64 0]) rfl (by kernel_rfl) (by kernel_rfl) (by kernel_rfl) (fun _ _ _ h => h) (Or.inl ⟨by rfl, ?gb7⟩) hSA ?_
        case gb7 => intro w' _; go_simp
        refine wpAnyH_all (rs := [13]) (by kernel_rfl) (by simp) ?_
        intro k hk
        obtain rfl : k = 13 := by simpa using hk
        refine wpOp_of_list _ rfl rfl ?_
        go_simp
        refine wpList_store_blk rfl 38 _ _ rfl w1.heap.size 38 zPs #[.int .i64 (x.frame : Int), .int .i64 (confTo x n : Int), .int .i64 (x.dropped : Int), .int .i64 0, .int .i64 0, .int .i64 0, .int .i64 0] rfl rfl xA Tryz.sizePs rfl (by simp [Value.oneCell']) ?_
        go_wp2_with fail
        refine ⟨hSZ, ⟨by kernel_rfl, ?_⟩⟩
        refine NoPanic.normal ?_
        go_wp2_with fail
        go_meet
        case rel => exact ⟨rfl, xZ, bZ⟩
    · skip
      refine wpOp_of_list _ rfl rfl ?_
      go_wp2_with fail
      refine ⟨hSA, ?_⟩
      refine wpAnyH_all (rs := [4]) (by kernel_rfl) (by simp) ?_
      intro k hk
      obtain rfl : k = 4 := by simpa using hk
      refine wpOp_of_list _ rfl rfl ?_
      go_wp2_with fail
      refine (frame_cell sb x.frame _ hSA.2.2.1).mono ?_
      rintro e w' ⟨rfl, rfl⟩
      go_wp2_with fail
      refine ⟨hSA, ?_⟩
      refine wpAnyH_all (rs := [6]) (by kernel_rfl) (by simp) ?_
      intro k hk
      obtain rfl : k = 6 := by simpa using hk
      refine wpOp_of_list _ rfl rfl ?_
      go_wp2_with fail
      refine (conf_any b num n win delay F FS x v _ _ ((unhide HB).same (fun k hk => hSA.2.2.2.block k (by have := hF k hk; omega)))).mono ?_
      rintro e w' ⟨rfl, rfl⟩
      go_wp2_with fail
      refine ⟨hSA, ?_⟩
      refine wpAnyH_take (i := 11) (v := .agg #[.int .i64 (x.frame : Int), .int .i64 (confTo x n : Int), .int .i64 (x.dropped : Int), .int .i64 0, .int .i64 0, .int .i64 0, .int .i64 0]) rfl (by kernel_rfl) (by kernel_rfl) (by kernel_rfl) (fun _ _ _ h => h) (Or.inl ⟨by rfl, ?gb11⟩) hSA ?_
      case gb11 => intro w' _; go_simp
      refine wpAnyH_all (rs := [13]) (by kernel_rfl) (by simp) ?_
      intro k hk
      obtain rfl : k = 13 := by simpa using hk
      refine wpOp_of_list _ rfl rfl ?_
      go_simp
      refine wpList_store_blk rfl 38 _ _ rfl w1.heap.size 38 zPs #[.int .i64 (x.frame : Int), .int .i64 (confTo x n : Int), .int .i64 (x.dropped : Int), .int .i64 0, .int .i64 0, .int .i64 0, .int .i64 0] rfl rfl xA Tryz.sizePs rfl (by simp [Value.oneCell']) ?_
      go_wp2_with fail
      refine ⟨hSZ, ⟨by kernel_rfl, ?_⟩⟩
      refine NoPanic.normal ?_
      go_wp2_with fail
      go_meet
      case rel => exact ⟨rfl, xZ, bZ⟩
  case rest =>
    obtain ⟨rfl, hx0, hb0⟩ := hcut
    have hz1 : w.heap.size + 1 ≤ w1.heap.size := by have := unhide HZ; omega
    have c1' : wc.cell? ⟨b, 1, none⟩ = some (.int .i64 (n : Int)) := (hb0.cell (p := ⟨b, 1, none⟩) (by show b < w1.heap.size; omega)).trans c1
    have H0 := hide (And.intro hx0 hb0)
    clear hx0 hb0 c13 c4 cf c1 hm
    go_wp2_with fail
    go_loopw [21] (fun s wr => ∃ k : Nat, k ≤ n ∧ s = .int .i64 (k : Int) ∧ Below w1.heap.size w1 wr ∧ Blk wr w1.heap.size (stands x n k) 38) (fun s _ => n - (intOf s).toNat)
    case atStart => exact ⟨0, by omega, rfl, (unhide H0).2, (unhide H0).1⟩
    case round =>
      obtain ⟨k, hk, rfl, hbr, hxr⟩ := hrel
      clear c1'
      by_cases hlt : k < n
      · obtain ⟨ao, cp, hv, hx1, hx2⟩ := (unhide HB).shape k hlt
        clear hx1 hx2
        have hdk : decide (k < n) = true := by simp; omega
        have hadd := i64_id ((k : Int) + 1) (by omega) (by omega)
        have k0 : (0 : Int) ≤ (k : Int) := by omega
        have k1 : (k : Int) < 4 := by omega
        have ck : wr.cell? ⟨b, 5 + k, none⟩ = some (.slice ao (x.known k).length cp) := by
          rw [← hv]
          exact (hbr.cell (p := ⟨b, 5 + k, none⟩) (by show b < w1.heap.size; omega)).trans ((bR.cell (p := ⟨b, 5 + k, none⟩) hbl).trans ((unhide HB).cK k (by omega)))
        have cs : ∃ u, wr.cell? ⟨w1.heap.size, 3 + k, none⟩ = some u := by
          rw [hxr.cell]
          rcases k with _ | _ | _ | _ | k
          · exact ⟨_, rfl⟩
          · exact ⟨_, rfl⟩
          · exact ⟨_, rfl⟩
          · exact ⟨_, rfl⟩
          · omega
        obtain ⟨u, cs⟩ := cs
        have fs : wr.frozen? ⟨w1.heap.size, 3 + k, none⟩ = false := hxr.frozen _
        have HX := hide (And.intro hbr hxr)
        clear hbr hxr hv
        go_wp2
        obtain ⟨hbr, hxr⟩ := unhide HX
        have hx2 := hxr.set (3 + k) (.int .i64 ((x.known k).length : Int))
        rw [stands_succ x n k (by omega)] at hx2
        exact ⟨⟨k + 1, by omega, by go_num, hbr.setCell (p := ⟨w1.heap.size, 3 + k, none⟩) (Nat.le_refl _) _, hx2⟩, by simp [intOf]; omega⟩
      · have hdk : decide (k < n) = false := by simp; omega
        have hke : k = n := by omega
        have hxr' : Blk wr w1.heap.size (stands x n n) 38 := by rw [hke] at hxr; exact hxr
        have xr : Blk wr w.heap.size zPs 38 := (hbr.block _ (by omega)).trans xR
        have hsz : (Tryz.prog.info? 38).map (·.size) = some (stands x n n).size := Tryz.sizePs
        clear hxr hke
        go_wp2_with (first | (refine wpList_load_blk rfl 38 _ rfl w1.heap.size rfl 38 (stands x n n) _ hxr' Tryz.underlying38 rfl hsz ?_) | (refine wpList_store_blk rfl 38 _ _ rfl w.heap.size 38 zPs (stands x n n) rfl rfl xr hsz rfl (stands_one _ _ _) ?_))
        refine bodyPost_ret (v := .agg (stands x n n)) ?_ rfl ⟨rfl, ?_⟩
        · exact results_cell_row Tryz.results41 _ _ w.heap.size 38 _ (0, 0) _ rfl (xr.setRow _) Tryz.underlying38 rfl hsz
        · exact below_setRow (bR.trans (hbr.mono (by omega))) (Nat.le_refl _) _
end Go.Proofs.YtandblanpafjoabGreatDoor

