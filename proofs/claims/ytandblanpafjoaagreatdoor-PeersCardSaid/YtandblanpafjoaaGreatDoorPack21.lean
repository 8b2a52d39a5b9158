import Derived.Test.YtandblanpafjoaaGreatDoorPack20
import Derived.Test.YtandblanpafjoaaGreatDoorPack13
import Derived.Deep.CutBlock
namespace Go.Proofs.YtandblanpafjoaaGreatDoor
open Go.RowKit Go.Extern.Stop Go.Stop Go.Extern
theorem pad4_inj {n : Nat} {a b : List Int} (ha : a.length = n) (hb : b.length = n) (h : pad4 n a = pad4 n b) : a = b := by
  have := congrArg (List.take n) h
  simpa [pad4, List.take_append_of_le_length, ha, hb] using this
theorem Tryz.neqIn (W : World) (a b : List Int) (ha : a.length = 4) (hb : b.length = 4) : (binOp .neq 199 (.agg (nums .u8 a)) (.agg (nums .u8 b))).run Tryz.prog W = .ok (.bool (!decide (a = b))) W :=
  run_binneq_nums W 199 5 .u8 4 Tryz.underlying199 Tryz.underlying5 (by kernel_rfl) a b ha hb
set_option maxRecDepth 10000 in
set_option maxHeartbeats 2000000 in
theorem mendF (b num n win delay sb pb rb : Nat) (F FS : Nat → Prop) (x y : PeerM) (v : Nat → Value) (w : World) (K : PeerK w b F FS num n win delay y v (.iface 227 (.pointer (some ⟨sb, 0, none⟩)))) (hS : FullAt w sb FS n win (x.frame - win) x.frame (insM x n) pb rb) (hF : ∀ k, F k → k < w.heap.size)
    (hok : POk y num n win delay) (hfr : x.frame ≤ 200) (c : Nat) (hc1 : c ≤ x.frame) (hc2 : x.frame ≤ c + win) (hsame : ∀ f, f < c → insM y n f = insM x n f) :
    Calls Tryz.prog 90 #[.pointer (some ⟨b, 0, none⟩), .int .i64 (c : Int)] w fun e w' => e = .returned (.tuple #[]) ∧ Chg FS w w' ∧ FullAt w' sb FS n win (x.frame - win) x.frame (insM y n) pb rb := by
  have hn4 := K.hn4
  have hn2 := K.hn2
  have hw8 := K.hw
  have hbl := K.blk.lt
  have c13 : w.cell? ⟨b, 13, none⟩ = some (.iface 227 (.pointer (some ⟨sb, 0, none⟩))) := K.cell 13
  have hm1 := mFrameF ⟨sb, 0, none⟩
  have hm2 := mPlayedF ⟨sb, 0, none⟩
  have hm3 := mBackF ⟨sb, 0, none⟩
  have hm4 := mPlayF ⟨sb, 0, none⟩
  have hgd : Tryz.prog.eqGuardType Tryz.prog.depth 199 = false := by kernel_rfl
  have hFS : ∀ k, FS k → k < w.heap.size := fun k hk => hF k (K.fs k hk).1
  have HK := hide K
  have HS := hide hS
  have HO := hide hok
  have hcf := hS.blk.c1
  clear K hS hok
  go_enter Tryz.func90, Tryz.ntmps90
  go_wp2_with fail
  refine (frame_cell sb x.frame w hcf).mono ?_
  rintro e w1 ⟨rfl, rfl⟩
  go_upto_block 0 with fail
  go_cut [4] from 12 (fun s4 wx => s4 = .int .i64 (x.frame : Int) ∧ ∃ f, c ≤ f ∧ f ≤ x.frame ∧ Chg FS w1 wx ∧ FullAt wx sb FS n win (x.frame - win) f (insM y n) pb rb)
  case first =>
    go_wp2_with fail
    go_loopw [5] (fun i wr => ∃ f : Nat, c ≤ f ∧ f ≤ x.frame ∧ i = .int .i64 (f : Int) ∧ Below w1.heap.size w1 wr ∧ (∀ g, g < f → insM y n g = insM x n g)) (fun i _ => x.frame - (intOf i).toNat)
    case atStart => exact ⟨c, Nat.le_refl _, hc1, rfl, Below.refl _ _, hsame⟩
    case round =>
      obtain ⟨f, h1, h2, rfl, hb, hg⟩ := hrel
      have HG := hide hg
      clear hg
      by_cases hlt : f < x.frame
      · have hd : decide ((f : Int) < (x.frame : Int)) = true := by simp; omega
        have c13' : wr.cell? ⟨b, 13, none⟩ = some (.iface 227 (.pointer (some ⟨sb, 0, none⟩))) := (hb.cell (p := ⟨b, 13, none⟩) hbl).trans c13
        have hSr := (unhide HS).same (w' := wr) (fun k hk => hb.block k (hFS k hk))
        obtain ⟨p0, p1, p2, p3, e4⟩ := four (pad4_len (insM_len x n f) hn4)
        have hrg := hSr.pl.at_ f (by omega) hlt
        simp only [insV, e4] at hrg
        have HR := hide (And.intro hSr hrg)
        clear hSr hrg
        have hadd := i64_id ((f : Int) + 1) (by omega) (by omega)
        go_wp2_with fail
        refine (played_any sb n x.frame pb win rb _ f _ _ p0 p1 p2 p3 wr (unhide HR).1.blk hw8.1 (unhide HR).2).mono ?_
        rintro e w2 ⟨rfl, hb2⟩
        go_wp2_with fail
        have hb12 : Below w1.heap.size w1 w2 := hb.trans (hb2.mono hb.size)
        refine (inputs_any b num n win delay f F FS y v _ w2 ((unhide HK).same (fun k hk => hb12.block k (hF k hk))) (by omega)).mono ?_
        rintro e w3 ⟨rfl, hb3⟩
        have hb13 : Below w1.heap.size w1 w3 := hb12.trans (hb3.mono hb12.size)
        have hneq := fun W => Tryz.neqIn W [p0, p1, p2, p3] (pad4 n (insM y n f)) rfl (pad4_len (insM_len y n f) hn4)
        by_cases hE : [p0, p1, p2, p3] = pad4 n (insM y n f)
        · have hnq : ∀ W : World, (binOp .neq 199 (.agg (nums .u8 [p0, p1, p2, p3])) (.agg (nums .u8 (pad4 n (insM y n f))))).run Tryz.prog W = .ok (.bool false) W := fun W => by rw [hneq W]; simp [hE]
          have hEf : insM y n f = insM x n f := pad4_inj (insM_len y n f) (insM_len x n f) (by rw [e4]; exact hE.symm)
          have HE := hide hEf
          clear hneq hE hb hb2 hb3 hb12 hEf e4
          generalize pad4 n (insM y n f) = PY at *
          go_wp2
          refine ⟨⟨f + 1, by omega, by omega, by go_num, hb13, fun g hg => ?_⟩, by simp [intOf]; omega⟩
          by_cases e : g = f
          · subst e; exact unhide HE
          · exact unhide HG g (by omega)
        · have hnq : ∀ W : World, (binOp .neq 199 (.agg (nums .u8 [p0, p1, p2, p3])) (.agg (nums .u8 (pad4 n (insM y n f))))).run Tryz.prog W = .ok (.bool true) W := fun W => by rw [hneq W]; simp [hE]
          have c13'' : w3.cell? ⟨b, 13, none⟩ = some (.iface 227 (.pointer (some ⟨sb, 0, none⟩))) := (hb13.cell (p := ⟨b, 13, none⟩) hbl).trans c13
          clear hneq hE hb hb2 hb3 hb12 e4
          generalize pad4 n (insM y n f) = PY at *
          go_wp2_with fail
          refine (fback_any sb n win (x.frame - win) x.frame pb rb f FS (insM x n) w3 ((unhide HS).same (fun k hk => hb13.block k (hFS k hk))) hn4 hw8.1 (by omega) h2).mono ?_
          rintro e w4 ⟨rfl, hC4, hS4⟩
          go_wp2_with fail
          go_meet
          case rel => exact ⟨rfl, f, h1, h2, (Chg.ofBelow hb13).trans hC4 (fun _ _ h => h), hS4.congr (fun g hg => unhide HG g hg)⟩
      · have hd : decide ((f : Int) < (x.frame : Int)) = false := by simp; omega
        have hfe : f = x.frame := by omega
        have HE := hide hfe
        clear hfe
        go_wp2_with fail
        go_meet
        case rel => exact ⟨rfl, x.frame, hc1, Nat.le_refl _, Chg.ofBelow hb, ((unhide HS).same (fun k hk => hb.block k (hFS k hk))).congr (fun g hg => unhide HG g (by have := unhide HE; omega))⟩
  case rest =>
    obtain ⟨rfl, f0, h1, h2, hC, hS2⟩ := hcut
    have cw : wc.cell? ⟨b, 13, none⟩ = some (.iface 227 (.pointer (some ⟨sb, 0, none⟩))) := ((unhide HK).but (w' := wc) (fun k hk hFS => hC.block k (hF k hk) hFS)).cell 13
    have hcf2 := hS2.blk.c1
    have H2 := hide hS2
    clear hS2 c13
    go_wp2_with fail
    refine (frame_cell sb f0 wc hcf2).mono ?_
    rintro e w5 ⟨rfl, rfl⟩
    go_wp2_with fail
    go_loopw [6] (fun i wr => ∃ f : Nat, f0 ≤ f ∧ f ≤ x.frame ∧ i = .int .i64 (f : Int) ∧ Chg FS w1 wr ∧ FullAt wr sb FS n win (x.frame - win) f (insM y n) pb rb) (fun i _ => x.frame - (intOf i).toNat)
    case atStart => exact ⟨f0, Nat.le_refl _, h2, rfl, hC, unhide H2⟩
    case round =>
      obtain ⟨f, g1, g2, rfl, hCr, hSr⟩ := hrel
      have HR := hide hSr
      clear hSr cw hcf2
      by_cases hlt : f < x.frame
      · have hd : decide ((f : Int) < (x.frame : Int)) = true := by simp; omega
        have KR : PeerK wr b F FS num n win delay y v (.iface 227 (.pointer (some ⟨sb, 0, none⟩))) := (unhide HK).but (fun k hk hFS => hCr.block k (hF k hk) hFS)
        have hrng := insM_rng (unhide HO) f
        have hadd := i64_id ((f : Int) + 1) (by omega) (by omega)
        have hcz := hCr.size
        have HC := hide (And.intro hCr hcz)
        clear hCr hcz
        go_wp2_with fail
        refine wp_region_noPanic ?_
        refine wp_held_tail 6 9 (fun W' => W'.cell? ⟨b, 13, none⟩ = some (.iface 227 (.pointer (some ⟨sb, 0, none⟩)))) (by kernel_rfl) (by decide) (by kernel_rfl) (by kernel_rfl) (by kernel_rfl) (fun _ _ _ _ _ h => h) (KR.cell 13) ?_
        simp only [List.take_succ_cons, List.take_zero, List.drop_succ_cons, List.drop_zero]
        refine wpHeld_op ?yF0 rfl ?zF0 ?_
        case zF0 => intro w' hS; go_simp; rfl
        refine wpHeld_op ?yF1 rfl ?zF1 ?_
        case zF1 => intro w' hS; go_simp; rfl
        refine wpHeld_op ?yF2 rfl ?zF2 ?_
        case zF2 => intro w' hS; go_simp; rfl
        refine wpHeld_op ?yF3 rfl ?zF3 ?_
        case zF3 => intro w' hS; go_simp; rfl
        refine wpHeld_op ?yF4 rfl ?zF4 ?_
        case zF4 => intro w' hS; go_simp; rfl
        refine wpHeld_op ?yF5 rfl ?zF5 ?_
        case zF5 => intro w' hS; go_simp; rfl
        unfold wpHeld
        refine wpAnyH_take (i := 7) (v := .iface 227 (.pointer (some ⟨sb, 0, none⟩))) rfl (by kernel_rfl) (by kernel_rfl) (by kernel_rfl) (fun _ _ _ h => h) (Or.inl ⟨by rfl, ?g7F⟩) (KR.cell 13) ?_
        case g7F => intro w' _; go_simp
        refine wpAnyH_take (i := 8) (v := .iface 227 (.pointer (some ⟨sb, 0, none⟩))) rfl (by kernel_rfl) (by kernel_rfl) (by kernel_rfl) (fun _ _ _ h => h) (Or.inl ⟨by rfl, ?g8F⟩) (KR.cell 13) ?_
        case g8F => intro w' _; go_simp
        refine wpAnyH_all (rs := [6]) (by kernel_rfl) (by simp) ?_
        intro j hj
        obtain rfl : j = 6 := by simpa using hj
        refine wpOp_of_list _ rfl rfl ?_
        go_wp2_with fail
        refine (inputs_any b num n win delay f F FS y v _ wr.drew (KR.same (fun _ _ => rfl)) (by omega)).mono ?_
        rintro e w6 ⟨rfl, hb6⟩
        have hB6 : Below wr.heap.size wr w6 := ⟨hb6.os, hb6.tape, hb6.output, hb6.size, hb6.block⟩
        go_wp2_with fail
        refine ⟨(hB6.cell (p := ⟨b, 13, none⟩) KR.blk.lt).trans (KR.cell 13), ⟨by kernel_rfl, ?_⟩⟩
        change wpList _ _ _ _ _ _
        go_wp2_with fail
        refine (fplay_any sb n win (x.frame - win) (x.frame - win) f pb rb FS (insM y n) (insM y n f) w6 ((unhide HR).same (fun k hk => hB6.block k (by have := hFS k hk; have := (unhide HC).2; omega))) hn2 hn4 (insM_len _ _ _) (fun f _ => insM_len _ _ _) hrng hw8.1 (by omega) (Nat.le_refl _) (by omega)).mono ?_
        rintro e w7 ⟨rfl, hC7, hS7⟩
        go_wp2_with fail
        refine NoPanic.normal ?_
        have H7 := hide hS7
        clear hS7
        go_wp2
        refine ⟨⟨f + 1, by omega, by omega, by go_num, ((unhide HC).1.thenBelow (hB6.mono (unhide HC).2)).trans hC7 (fun _ _ h => h), (unhide H7).congr (fun g hg => ?_)⟩, by simp [intOf]; omega⟩
        by_cases e : g = f
        · subst e; rw [updF_same]
        · rw [updF_other _ _ _ _ e]
      · have hd : decide ((f : Int) < (x.frame : Int)) = false := by simp; omega
        have hfe : f = x.frame := by omega
        have HE := hide hfe
        clear hfe
        go_wp2
        go_end0
        refine ⟨rfl, hCr, ?_⟩
        have e := unhide HE
        have hR := unhide HR
        rw [e] at hR
        exact hR
set_option maxRecDepth 10000 in
set_option maxHeartbeats 2000000 in
theorem mendD (b num n win delay sb pb rb : Nat) (mb : Nat → Nat) (F FS : Nat → Prop) (x y : PeerM) (v : Nat → Value) (w : World) (K : PeerK w b F FS num n win delay y v (.iface 225 (.pointer (some ⟨sb, 0, none⟩)))) (hS : DeltaAt w sb FS n win (x.frame - win) x.frame (insM x n) pb rb mb) (hF : ∀ k, F k → k < w.heap.size)
    (hok : POk y num n win delay) (hfr : x.frame ≤ 200) (c : Nat) (hc1 : c ≤ x.frame) (hc2 : x.frame ≤ c + win) (hsame : ∀ f, f < c → insM y n f = insM x n f) :
    Calls Tryz.prog 90 #[.pointer (some ⟨b, 0, none⟩), .int .i64 (c : Int)] w fun e w' => e = .returned (.tuple #[]) ∧ Chg FS w w' ∧ DeltaAt w' sb FS n win (x.frame - win) x.frame (insM y n) pb rb mb := by
  have hn4 := K.hn4
  have hn2 := K.hn2
  have hw8 := K.hw
  have hbl := K.blk.lt
  have c13 : w.cell? ⟨b, 13, none⟩ = some (.iface 225 (.pointer (some ⟨sb, 0, none⟩))) := K.cell 13
  have hm1 := mFrameD ⟨sb, 0, none⟩
  have hm2 := mPlayedD ⟨sb, 0, none⟩
  have hm3 := mBackD ⟨sb, 0, none⟩
  have hm4 := mPlayD ⟨sb, 0, none⟩
  have hgd : Tryz.prog.eqGuardType Tryz.prog.depth 199 = false := by kernel_rfl
  have hFS : ∀ k, FS k → k < w.heap.size := fun k hk => hF k (K.fs k hk).1
  have HK := hide K
  have HS := hide hS
  have HO := hide hok
  have hcf := hS.blk.c1
  clear K hS hok
  go_enter Tryz.func90, Tryz.ntmps90
  go_wp2_with fail
  refine (frame_cell sb x.frame w hcf).mono ?_
  rintro e w1 ⟨rfl, rfl⟩
  go_upto_block 0 with fail
  go_cut [4] from 12 (fun s4 wx => s4 = .int .i64 (x.frame : Int) ∧ ∃ f, c ≤ f ∧ f ≤ x.frame ∧ Chg FS w1 wx ∧ DeltaAt wx sb FS n win (x.frame - win) f (insM y n) pb rb mb)
  case first =>
    go_wp2_with fail
    go_loopw [5] (fun i wr => ∃ f : Nat, c ≤ f ∧ f ≤ x.frame ∧ i = .int .i64 (f : Int) ∧ Below w1.heap.size w1 wr ∧ (∀ g, g < f → insM y n g = insM x n g)) (fun i _ => x.frame - (intOf i).toNat)
    case atStart => exact ⟨c, Nat.le_refl _, hc1, rfl, Below.refl _ _, hsame⟩
    case round =>
      obtain ⟨f, h1, h2, rfl, hb, hg⟩ := hrel
      have HG := hide hg
      clear hg
      by_cases hlt : f < x.frame
      · have hd : decide ((f : Int) < (x.frame : Int)) = true := by simp; omega
        have c13' : wr.cell? ⟨b, 13, none⟩ = some (.iface 225 (.pointer (some ⟨sb, 0, none⟩))) := (hb.cell (p := ⟨b, 13, none⟩) hbl).trans c13
        have hSr := (unhide HS).same (w' := wr) (fun k hk => hb.block k (hFS k hk))
        obtain ⟨p0, p1, p2, p3, e4⟩ := four (pad4_len (insM_len x n f) hn4)
        have hrg := hSr.pl.at_ f (by omega) hlt
        simp only [insV, e4] at hrg
        have HR := hide (And.intro hSr hrg)
        clear hSr hrg
        have hadd := i64_id ((f : Int) + 1) (by omega) (by omega)
        go_wp2_with fail
        refine (played_any sb n x.frame pb win rb _ f _ _ p0 p1 p2 p3 wr (unhide HR).1.blk hw8.1 (unhide HR).2).mono ?_
        rintro e w2 ⟨rfl, hb2⟩
        go_wp2_with fail
        have hb12 : Below w1.heap.size w1 w2 := hb.trans (hb2.mono hb.size)
        refine (inputs_any b num n win delay f F FS y v _ w2 ((unhide HK).same (fun k hk => hb12.block k (hF k hk))) (by omega)).mono ?_
        rintro e w3 ⟨rfl, hb3⟩
        have hb13 : Below w1.heap.size w1 w3 := hb12.trans (hb3.mono hb12.size)
        have hneq := fun W => Tryz.neqIn W [p0, p1, p2, p3] (pad4 n (insM y n f)) rfl (pad4_len (insM_len y n f) hn4)
        by_cases hE : [p0, p1, p2, p3] = pad4 n (insM y n f)
        · have hnq : ∀ W : World, (binOp .neq 199 (.agg (nums .u8 [p0, p1, p2, p3])) (.agg (nums .u8 (pad4 n (insM y n f))))).run Tryz.prog W = .ok (.bool false) W := fun W => by rw [hneq W]; simp [hE]
          have hEf : insM y n f = insM x n f := pad4_inj (insM_len y n f) (insM_len x n f) (by rw [e4]; exact hE.symm)
          have HE := hide hEf
          clear hneq hE hb hb2 hb3 hb12 hEf e4
          generalize pad4 n (insM y n f) = PY at *
          go_wp2
          refine ⟨⟨f + 1, by omega, by omega, by go_num, hb13, fun g hg => ?_⟩, by simp [intOf]; omega⟩
          by_cases e : g = f
          · subst e; exact unhide HE
          · exact unhide HG g (by omega)
        · have hnq : ∀ W : World, (binOp .neq 199 (.agg (nums .u8 [p0, p1, p2, p3])) (.agg (nums .u8 (pad4 n (insM y n f))))).run Tryz.prog W = .ok (.bool true) W := fun W => by rw [hneq W]; simp [hE]
          have c13'' : w3.cell? ⟨b, 13, none⟩ = some (.iface 225 (.pointer (some ⟨sb, 0, none⟩))) := (hb13.cell (p := ⟨b, 13, none⟩) hbl).trans c13
          clear hneq hE hb hb2 hb3 hb12 e4
          generalize pad4 n (insM y n f) = PY at *
          go_wp2_with fail
          refine (dback_any sb n win (x.frame - win) x.frame pb rb f mb FS (insM x n) w3 ((unhide HS).same (fun k hk => hb13.block k (hFS k hk))) hn4 (by omega) h2 (by omega) (by omega)).mono ?_
          rintro e w4 ⟨rfl, hC4, hS4⟩
          go_wp2_with fail
          go_meet
          case rel => exact ⟨rfl, f, h1, h2, (Chg.ofBelow hb13).trans hC4 (fun _ _ h => h), hS4.congr (fun g hg => unhide HG g hg)⟩
      · have hd : decide ((f : Int) < (x.frame : Int)) = false := by simp; omega
        have hfe : f = x.frame := by omega
        have HE := hide hfe
        clear hfe
        go_wp2_with fail
        go_meet
        case rel => exact ⟨rfl, x.frame, hc1, Nat.le_refl _, Chg.ofBelow hb, ((unhide HS).same (fun k hk => hb.block k (hFS k hk))).congr (fun g hg => unhide HG g (by have := unhide HE; omega))⟩
  case rest =>
    obtain ⟨rfl, f0, h1, h2, hC, hS2⟩ := hcut
    have cw : wc.cell? ⟨b, 13, none⟩ = some (.iface 225 (.pointer (some ⟨sb, 0, none⟩))) := ((unhide HK).but (w' := wc) (fun k hk hFS => hC.block k (hF k hk) hFS)).cell 13
    have hcf2 := hS2.blk.c1
    have H2 := hide hS2
    clear hS2 c13
    go_wp2_with fail
    refine (frame_cell sb f0 wc hcf2).mono ?_
    rintro e w5 ⟨rfl, rfl⟩
    go_wp2_with fail
    go_loopw [6] (fun i wr => ∃ f : Nat, f0 ≤ f ∧ f ≤ x.frame ∧ i = .int .i64 (f : Int) ∧ Chg FS w1 wr ∧ DeltaAt wr sb FS n win (x.frame - win) f (insM y n) pb rb mb) (fun i _ => x.frame - (intOf i).toNat)
    case atStart => exact ⟨f0, Nat.le_refl _, h2, rfl, hC, unhide H2⟩
    case round =>
      obtain ⟨f, g1, g2, rfl, hCr, hSr⟩ := hrel
      have HR := hide hSr
      clear hSr cw hcf2
      by_cases hlt : f < x.frame
      · have hd : decide ((f : Int) < (x.frame : Int)) = true := by simp; omega
        have KR : PeerK wr b F FS num n win delay y v (.iface 225 (.pointer (some ⟨sb, 0, none⟩))) := (unhide HK).but (fun k hk hFS => hCr.block k (hF k hk) hFS)
        have hrng := insM_rng (unhide HO) f
        have hadd := i64_id ((f : Int) + 1) (by omega) (by omega)
        have hcz := hCr.size
        have HC := hide (And.intro hCr hcz)
        clear hCr hcz
        go_wp2_with fail
        refine wp_region_noPanic ?_
        refine wp_held_tail 6 9 (fun W' => W'.cell? ⟨b, 13, none⟩ = some (.iface 225 (.pointer (some ⟨sb, 0, none⟩)))) (by kernel_rfl) (by decide) (by kernel_rfl) (by kernel_rfl) (by kernel_rfl) (fun _ _ _ _ _ h => h) (KR.cell 13) ?_
        simp only [List.take_succ_cons, List.take_zero, List.drop_succ_cons, List.drop_zero]
        refine wpHeld_op ?yD0 rfl ?zD0 ?_
        case zD0 => intro w' hS; go_simp; rfl
        refine wpHeld_op ?yD1 rfl ?zD1 ?_
        case zD1 => intro w' hS; go_simp; rfl
        refine wpHeld_op ?yD2 rfl ?zD2 ?_
        case zD2 => intro w' hS; go_simp; rfl
        refine wpHeld_op ?yD3 rfl ?zD3 ?_
        case zD3 => intro w' hS; go_simp; rfl
        refine wpHeld_op ?yD4 rfl ?zD4 ?_
        case zD4 => intro w' hS; go_simp; rfl
        refine wpHeld_op ?yD5 rfl ?zD5 ?_
        case zD5 => intro w' hS; go_simp; rfl
        unfold wpHeld
        refine wpAnyH_take (i := 7) (v := .iface 225 (.pointer (some ⟨sb, 0, none⟩))) rfl (by kernel_rfl) (by kernel_rfl) (by kernel_rfl) (fun _ _ _ h => h) (Or.inl ⟨by rfl, ?g7D⟩) (KR.cell 13) ?_
        case g7D => intro w' _; go_simp
        refine wpAnyH_take (i := 8) (v := .iface 225 (.pointer (some ⟨sb, 0, none⟩))) rfl (by kernel_rfl) (by kernel_rfl) (by kernel_rfl) (fun _ _ _ h => h) (Or.inl ⟨by rfl, ?g8D⟩) (KR.cell 13) ?_
        case g8D => intro w' _; go_simp
        refine wpAnyH_all (rs := [6]) (by kernel_rfl) (by simp) ?_
        intro j hj
        obtain rfl : j = 6 := by simpa using hj
        refine wpOp_of_list _ rfl rfl ?_
        go_wp2_with fail
        refine (inputs_any b num n win delay f F FS y v _ wr.drew (KR.same (fun _ _ => rfl)) (by omega)).mono ?_
        rintro e w6 ⟨rfl, hb6⟩
        have hB6 : Below wr.heap.size wr w6 := ⟨hb6.os, hb6.tape, hb6.output, hb6.size, hb6.block⟩
        go_wp2_with fail
        refine ⟨(hB6.cell (p := ⟨b, 13, none⟩) KR.blk.lt).trans (KR.cell 13), ⟨by kernel_rfl, ?_⟩⟩
        change wpList _ _ _ _ _ _
        go_wp2_with fail
        refine (dplay_any sb n win (x.frame - win) (x.frame - win) f pb rb mb FS (insM y n) (insM y n f) w6 ((unhide HR).same (fun k hk => hB6.block k (by have := hFS k hk; have := (unhide HC).2; omega))) hn2 hn4 (insM_len _ _ _) (fun f _ => insM_len _ _ _) hrng hw8.1 (by omega) (Nat.le_refl _) (by omega)).mono ?_
        rintro e w7 ⟨rfl, hC7, hS7⟩
        go_wp2_with fail
        refine NoPanic.normal ?_
        have H7 := hide hS7
        clear hS7
        go_wp2
        refine ⟨⟨f + 1, by omega, by omega, by go_num, ((unhide HC).1.thenBelow (hB6.mono (unhide HC).2)).trans hC7 (fun _ _ h => h), (unhide H7).congr (fun g hg => ?_)⟩, by simp [intOf]; omega⟩
        by_cases e : g = f
        · subst e; rw [updF_same]
        · rw [updF_other _ _ _ _ e]
      · have hd : decide ((f : Int) < (x.frame : Int)) = false := by simp; omega
        have hfe : f = x.frame := by omega
        have HE := hide hfe
        clear hfe
        go_wp2
        go_end0
        refine ⟨rfl, hCr, ?_⟩
        have e := unhide HE
        have hR := unhide HR
        rw [e] at hR
        exact hR
theorem mend_any (b num n win delay : Nat) (F FS : Nat → Prop) (x y : PeerM) (v : Nat → Value) (st : Value) (w : World) (K : PeerK w b F FS num n win delay y v st) (hS : StoreAt w st FS n win (x.frame - win) x.frame (insM x n)) (hF : ∀ k, F k → k < w.heap.size)
    (hok : POk y num n win delay) (hfr : x.frame ≤ 200) (c : Nat) (hc1 : c ≤ x.frame) (hc2 : x.frame ≤ c + win) (hsame : ∀ f, f < c → insM y n f = insM x n f) :
    Calls Tryz.prog 90 #[.pointer (some ⟨b, 0, none⟩), .int .i64 (c : Int)] w fun e w' => e = .returned (.tuple #[]) ∧ Chg FS w w' ∧ StoreAt w' st FS n win (x.frame - win) x.frame (insM y n) := by
  rcases hS with ⟨sb, pb, rb, rfl, hS⟩ | ⟨sb, pb, rb, mb, rfl, hS⟩
  · exact (mendF b num n win delay sb pb rb F FS x y v w K hS hF hok hfr c hc1 hc2 hsame).mono fun e w' ⟨h1, h2, h3⟩ => ⟨h1, h2, .inl ⟨sb, pb, rb, rfl, h3⟩⟩
  · exact (mendD b num n win delay sb pb rb mb F FS x y v w K hS hF hok hfr c hc1 hc2 hsame).mono fun e w' ⟨h1, h2, h3⟩ => ⟨h1, h2, .inr ⟨sb, pb, rb, mb, rfl, h3⟩⟩
end Go.Proofs.YtandblanpafjoaaGreatDoor

