import Derived.Test.YtandblanpafjoaaGreatDoorPack18
import Derived.Maps.AppendAt
namespace Go.Proofs.YtandblanpafjoaaGreatDoor
open Go.RowKit Go.Extern.Stop Go.Stop Go.Extern
theorem StoreAt.frame_call {w : World} {st : Value} {F : Nat → Prop} {n win lo frame : Nat} {fs : Nat → List Int} (h : StoreAt w st F n win lo frame fs) : ∃ t sb, st = .iface t (.pointer (some ⟨sb, 0, none⟩)) ∧ (Go.method 429 t (.pointer (some ⟨sb, 0, none⟩)) "Frame").run Tryz.prog w = .ok (194, .pointer (some ⟨sb, 0, none⟩)) w ∧ w.cell? ⟨sb, 1, none⟩ = some (.int .i64 (frame : Int)) := by
  rcases h with ⟨sb, pb, rb, e, h⟩ | ⟨sb, pb, rb, mb, e, h⟩
  · exact ⟨_, sb, e, mFrameF _ w, h.blk.c1⟩
  · exact ⟨_, sb, e, mFrameD _ w, h.blk.c1⟩
set_option maxHeartbeats 1000000 in
theorem conf_any (b num n win delay : Nat) (F FS : Nat → Prop) (x : PeerM) (v : Nat → Value) (st : Value) (w : World) (h : PeerAt w b F FS num n win delay x v st) :
    Calls Tryz.prog 88 #[.pointer (some ⟨b, 0, none⟩)] w fun e w' => e = .returned (.int .i64 (confTo x n : Int)) ∧ w' = w := by
  obtain ⟨t, sb, rfl, hm, hc⟩ := h.store.frame_call
  have c13 : w.cell? ⟨b, 13, none⟩ = some (.iface t (.pointer (some ⟨sb, 0, none⟩))) := h.cell 13
  have c1 : w.cell? ⟨b, 1, none⟩ = some (.int .i64 (n : Int)) := h.cell 1
  have HB := hide h
  have hn4 := h.hn4
  have hfr := h.ok.frame
  clear h
  go_enter Tryz.func88, Tryz.ntmps88
  go_wp2
  go_loop [3, 14] (fun m i => ∃ k : Nat, k ≤ n ∧ i = .int .i64 (k : Int) ∧ m = .int .i64 (confTo x k : Int)) (fun _ i => n - (intOf i).toNat)
  case atStart => exact ⟨0, by omega, rfl, rfl⟩
  case round =>
    obtain ⟨k, hk, rfl, rfl⟩ := hrel
    by_cases hlt : k < n
    · obtain ⟨ao, cp, hv, _, _⟩ := (unhide HB).shape k hlt
      have ck := (unhide HB).cK k (by omega)
      rw [hv] at ck
      have hd : decide ((k : Int) < (n : Int)) = true := by simp; omega
      have hk0 : (0 : Int) ≤ (k : Int) := by omega
      have hk4 : (k : Int) < 4 := by omega
      have hif : (if (x.known k).length < confTo x k then ((x.known k).length : Int) else (confTo x k : Int)) = (confTo x (k + 1) : Int) := by simp only [confTo]; split <;> omega
      go_wp2
      exact ⟨⟨k + 1, by omega, by go_num, rfl⟩, by simp [intOf]; omega⟩
    · have hkn : k = n := by omega
      subst hkn
      have hd : decide ((k : Int) < (k : Int)) = false := by simp
      go_wp2
      go_ret
      exact ⟨rfl, rfl⟩
theorem insM_pad {x : PeerM} {n f q : Nat} (hq : q < n) : (pad4 n (insM x n f)).getD q 0 = inputM x q f := by
  rw [pad4_get (insM_len x n f) q hq, insM_get x n f q hq]
/-- The first k of a frame's inputs; the others are noughts. -/
def insTo (x : PeerM) (f k : Nat) : List Int := (List.range 4).map fun q => if q < k then inputM x q f else 0
theorem insTo_zero (x : PeerM) (f : Nat) : insTo x f 0 = Z4u := by simp [insTo, Z4u]; rfl
theorem insTo_len (x : PeerM) (f k : Nat) : (insTo x f k).length = 4 := by simp [insTo]
theorem insTo_all (x : PeerM) (f n : Nat) (hn : n ≤ 4) : insTo x f n = pad4 n (insM x n f) := by
  apply List.ext_getElem (by rw [insTo_len, pad4_len (insM_len _ _ _) hn])
  intro i h1 h2
  rw [insTo_len] at h1
  simp only [insTo, List.getElem_map, List.getElem_range]
  by_cases h : i < n
  · have := insM_pad (x := x) (f := f) h
    rw [List.getD_eq_getElem?_getD, List.getElem?_eq_getElem h2] at this
    simp only [Option.getD_some] at this
    rw [if_pos h, this]
  · rw [if_neg h]
    simp only [pad4]
    rw [List.getElem_append_right (by rw [insM_len]; omega)]
    simp
theorem insTo_succ (x : PeerM) (f k : Nat) : insTo x f (k + 1) = (insTo x f k).set k (inputM x k f) := by
  apply List.ext_getElem (by simp [insTo_len])
  intro i h1 h2
  rw [insTo_len] at h1
  rw [List.getElem_set]
  simp only [insTo, List.getElem_map, List.getElem_range]
  by_cases e : k = i
  · subst e; simp
  · rw [if_neg e]
    by_cases h : i < k
    · rw [if_pos h, if_pos (by omega)]
    · rw [if_neg h, if_neg (by omega)]
set_option maxRecDepth 10000 in
set_option maxHeartbeats 1000000 in
theorem inputs_any (b num n win delay f : Nat) (F FS : Nat → Prop) (x : PeerM) (v : Nat → Value) (st : Value) (w : World) (h : PeerK w b F FS num n win delay x v st) (hf : f ≤ 1000) :
    Calls Tryz.prog 110 #[.pointer (some ⟨b, 0, none⟩), .int .i64 (f : Int)] w fun e w' => e = .returned (.agg (nums .u8 (pad4 n (insM x n f)))) ∧ Below w.heap.size w w' := by
  have hz := Tryz.zeroIn
  have hbl := h.blk.lt
  have HB := hide h
  have hn4 := h.hn4
  have b2 : Below w.heap.size w ((w.alloc (.cells (nums .u8 Z4u) 199)).alloc (.cells (nums .u8 Z4u) 199)) := ((Below.refl _ w).alloc (Nat.le_refl _) _).alloc (by simp) _
  have x1 : Blk ((w.alloc (.cells (nums .u8 Z4u) 199)).alloc (.cells (nums .u8 Z4u) 199)) w.heap.size (nums .u8 Z4u) 199 := (Blk.new w _ _).alloc _
  have y1 : Blk ((w.alloc (.cells (nums .u8 Z4u) 199)).alloc (.cells (nums .u8 Z4u) 199)) (w.heap.size + 1) (nums .u8 Z4u) 199 := by
    have := Blk.new (w.alloc (.cells (nums .u8 Z4u) 199)) (nums .u8 Z4u) 199
    simpa using this
  have e2 : ((w.alloc (.cells (nums .u8 Z4u) 199)).alloc (.cells (nums .u8 Z4u) 199)).heap.size = w.heap.size + 2 := by simp
  obtain ⟨V, hV⟩ : ∃ V, (w.alloc (.cells (nums .u8 Z4u) 199)).alloc (.cells (nums .u8 Z4u) 199) = V := ⟨_, rfl⟩
  rw [hV] at b2 x1 y1 e2
  have c1 : V.cell? ⟨b, 1, none⟩ = some (.int .i64 (n : Int)) := (b2.cell (p := ⟨b, 1, none⟩) hbl).trans (h.cell 1)
  clear h
  go_enter Tryz.func110, Tryz.ntmps110
  go_wp2_with fail
  try rw [hV]
  clear hV
  go_loopw [12] (fun i wr => ∃ k : Nat, k ≤ n ∧ i = .int .i64 (k : Int) ∧ Below w.heap.size w wr ∧ wr.heap.size = w.heap.size + 2 ∧ Blk wr w.heap.size (nums .u8 Z4u) 199 ∧ Blk wr (w.heap.size + 1) (nums .u8 (insTo x f k)) 199) (fun i _ => n - (intOf i).toNat)
  case atStart => exact ⟨0, by omega, rfl, b2, e2, x1, by rw [insTo_zero]; exact y1⟩
  case round =>
    clear b2 x1 y1 e2 c1
    obtain ⟨k, hk, rfl, hb, hsz, hx, hy⟩ := hrel
    by_cases hlt : k < n
    · obtain ⟨ao, cp, hv, hsome, hnone⟩ := (unhide HB).shape k hlt
      have ck := (hb.cell (p := ⟨b, 5 + k, none⟩) hbl).trans ((unhide HB).cK k (by omega))
      rw [hv] at ck
      have hlen := (unhide HB).lens k hlt
      have hd : decide ((k : Int) < (n : Int)) = true := by simp; omega
      have hk0 : (0 : Int) ≤ (k : Int) := by omega
      have hk4 : (k : Int) < 4 := by omega
      by_cases h0 : (x.known k).length = 0
      · have hd0 : decide ((0 : Int) < ((x.known k).length : Int)) = false := by simp [h0]
        have hin : inputM x k f = 0 := by
          unfold inputM; rw [if_neg (by omega)]
          exact getD_out _ _ (by omega)
        have hst : insTo x f (k + 1) = insTo x f k := by
          rw [insTo_succ x f k, hin]
          apply List.ext_getElem (by simp)
          intro i h1 h2
          rw [List.getElem_set]
          split
          · rename_i e; subst e; simp [insTo]
          · rfl
        clear hsome hnone
        go_wp2
        exact ⟨⟨k + 1, by omega, by go_num, hb, hsz, hx, by rw [hst]; exact hy⟩, by simp [intOf]; omega⟩
      · have hd0 : decide ((0 : Int) < ((x.known k).length : Int)) = true := by simp; omega
        obtain ⟨a0, rfl⟩ : ∃ a0, ao = some a0 := by
          cases ao with
          | none => exact absurd (hnone rfl).1 h0
          | some a0 => exact ⟨a0, rfl⟩
        obtain ⟨g, rfl, hgl, hcap, hcells⟩ := hsome _ rfl
        obtain ⟨m, hm⟩ : ∃ m, min f ((x.known k).length - 1) = m := ⟨_, rfl⟩
        have hml : m < (x.known k).length := by omega
        have hcm := (hb.cell (p := ⟨g, m, none⟩) hgl).trans (hcells m hml)
        have hin : (x.known k).getD m 0 = inputM x k f := by
          unfold inputM
          split
          · rw [show m = f by omega]
          · rw [show m = (x.known k).length - 1 by omega]
        rw [hin] at hcm
        have hif : (if ((x.known k).length : Int) - 1 < (f : Int) then ((x.known k).length : Int) - 1 else (f : Int)) = (m : Int) := by split <;> omega
        have hm0 : (0 : Int) ≤ (m : Int) := by omega
        have hm1 : (m : Int) < ((x.known k).length : Int) := by omega
        have hw1 := i64_id (((x.known k).length : Int) - 1) (by omega) (by omega)
        clear hsome hnone hcells
        have hyc := hy.num k (by rw [insTo_len]; omega)
        have hyf := hy.frozen k
        go_wp2
        refine ⟨⟨k + 1, by omega, by go_num, hb.setCell (p := ⟨w.heap.size + 1, k, none⟩) (by simp) _, by simp [hsz], hx.setOther _ _ (by simp), ?_⟩, by simp [intOf]; omega⟩
        rw [insTo_succ x f k]; exact hy.put k _
    · have hkn : k = n := by omega
      subst hkn
      have hd : decide ((k : Int) < (k : Int)) = false := by simp
      have hlp := insTo_len x f k
      go_wp2_with (first | (refine wpList_load_blk rfl 199 _ rfl (w.heap.size + 1) rfl 199 (nums .u8 (insTo x f k)) _ hy Tryz.underlying199 rfl (Tryz.sizeIn _ hlp) ?_) | (refine wpList_store_blk rfl 199 _ _ rfl w.heap.size 199 (nums .u8 Z4u) (nums .u8 (insTo x f k)) rfl rfl hx (Tryz.sizeIn _ hlp) (by rw [nums_size, nums_size, hlp]; rfl) (nums_one _ _) ?_))
      refine bodyPost_ret (v := .agg (nums .u8 (insTo x f k))) ?_ rfl ⟨by rw [insTo_all x f k hn4], ?_⟩
      · exact results_cell_row Tryz.results110 _ _ w.heap.size 199 _ (0, 0) _ rfl (hx.setRow _) Tryz.underlying199 rfl (Tryz.sizeIn _ hlp)
      · exact below_setRow hb (Nat.le_refl _) _
set_option maxHeartbeats 1000000 in
theorem fault_any (b num n win delay : Nat) (k : Int) (F FS : Nat → Prop) (x : PeerM) (v : Nat → Value) (st : Value) (w : World) (h : PeerAt w b F FS num n win delay x v st) :
    Calls Tryz.prog 87 #[.pointer (some ⟨b, 0, none⟩), .int .i64 k] w fun e w' => ∃ g, e = .returned (.iface 149 (.pointer (some ⟨g, 0, none⟩))) ∧ w.heap.size ≤ g ∧ w'.cell? ⟨g, 0, none⟩ = some (.int .i64 (num : Int)) ∧ w'.cell? ⟨g, 1, none⟩ = some (.int .i64 k) ∧ Below w.heap.size w w' := by
  have c0 : w.cell? ⟨b, 0, none⟩ = some (.int .i64 (num : Int)) := h.cell 0
  clear h
  go_enter Tryz.func87, Tryz.ntmps87
  go_wp2
  go_ret
  refine ⟨w.heap.size, rfl, Nat.le_refl _, ?_, ?_, (Below.refl _ w).alloc (Nat.le_refl _) _⟩
  · simp
  · simp
end Go.Proofs.YtandblanpafjoaaGreatDoor

namespace Go.Proofs.YtandblanpafjoaaGreatDoor
open Go.RowKit Go.Extern.Stop Go.Stop Go.Extern
set_option maxHeartbeats 400000 in
theorem frame_cell (sb frame : Nat) (w : World) (h1 : w.cell? ⟨sb, 1, none⟩ = some (.int .i64 (frame : Int))) :
    Calls Tryz.prog 194 #[.pointer (some ⟨sb, 0, none⟩)] w fun e w' => e = .returned (.int .i64 (frame : Int)) ∧ w' = w := by
  go_enter Tryz.func194, Tryz.ntmps194
  go_wp2
  go_ret
  exact ⟨rfl, rfl⟩
set_option maxRecDepth 10000 in
set_option maxHeartbeats 1000000 in
theorem owes_any (b num n win delay q : Nat) (F FS : Nat → Prop) (x : PeerM) (v : Nat → Value) (st : Value) (w : World) (h : PeerAt w b F FS num n win delay x v st) (hto : q < n) :
    Calls Tryz.prog 32 #[.pointer (some ⟨b, 0, none⟩), .int .i64 (q : Int)] w fun e w' => e = .returned (.bool (decide (x.acked q < (x.known num).length))) ∧ Below w.heap.size w w' := by
  have c0 : w.cell? ⟨b, 0, none⟩ = some (.int .i64 (num : Int)) := h.cell 0
  have ca := h.cA q hto
  have hn4 := h.hn4
  have hnum := h.hnum
  have ck := h.cK num (by omega)
  obtain ⟨ao, cp, hv, _, _⟩ := h.shape num hnum
  rw [hv] at ck
  have t0 : (0 : Int) ≤ (q : Int) := by omega
  have t1 : (q : Int) < 4 := by omega
  have u0 : (0 : Int) ≤ (num : Int) := by omega
  have u1 : (num : Int) < 4 := by omega
  clear h
  go_enter Tryz.func32, Tryz.ntmps32
  go_wp2_with fail
  go_still (by kernel_rfl)
  go_wp2
  go_ret
  refine ⟨?_, (Below.refl _ w).drew⟩
  first | rfl | simp
set_option maxRecDepth 10000 in
set_option maxHeartbeats 1000000 in
theorem sum_yes (b num n win delay f : Nat) (F FS : Nat → Prop) (x : PeerM) (v : Nat → Value) (st : Value) (w : World) (h : PeerAt w b F FS num n win delay x v st) (h1 : x.frame - win ≤ f) (h2 : f ≤ x.frame) :
    Calls Tryz.prog 98 #[.pointer (some ⟨b, 0, none⟩), .int .i64 (f : Int)] w fun e w' => e = .returned (.tuple #[.int .u32 (digL (stF n (insM x n) f)), .nilIface]) ∧ Below w.heap.size w w' := by
  have c13 : w.cell? ⟨b, 13, none⟩ = some st := h.cell 13
  have c2 : w.cell? ⟨b, 2, none⟩ = some (.int .i64 (win : Int)) := h.cell 2
  have hfr := h.ok.frame
  have hw8 := h.hw
  have hn4 := h.hn4
  have hg := stF_good h.hn4 (insM x n) f
  have d1 : decide ((f : Int) < 0) = false := by simp
  have d2 : decide ((x.frame : Int) < (f : Int)) = false := by simp; omega
  have hwr := i64_id ((x.frame : Int) - (win : Int)) (by omega) (by omega)
  have d3 : decide ((f : Int) < (x.frame : Int) - (win : Int)) = false := by simp; omega
  have hSt := h.store
  clear h
  rcases hSt with ⟨sb, pb, rb, rfl, hS⟩ | ⟨sb, pb, rb, mb, rfl, hS⟩
  · skip
    have hc := hS.blk.c1
    have hm1 := mFrameF ⟨sb, 0, none⟩
    have hm2 := mStateF ⟨sb, 0, none⟩
    have HS := hide hS
    clear hS
    go_enter Tryz.func98, Tryz.ntmps98
    go_wp2_with fail
    refine (frame_cell sb x.frame w hc).mono ?_
    rintro e w1 ⟨rfl, rfl⟩
    go_wp2_with fail
    refine (fstate_any sb n win (x.frame - win) x.frame pb rb f FS (insM x n) w1 (unhide HS) hn4 hw8.1 h1 h2).mono ?_
    rintro e w2 ⟨rfl, hb2⟩
    go_wp2_with fail
    refine (gdigest_any (stF n (insM x n) f) w2 hg.len hg.rng).mono ?_
    rintro e w3 ⟨rfl, hb3⟩
    go_wp2
    go_ret2
    exact ⟨rfl, hb2.trans (hb3.mono hb2.size)⟩
  · skip
    have hc := hS.blk.c1
    have hm1 := mFrameD ⟨sb, 0, none⟩
    have hm2 := mStateD ⟨sb, 0, none⟩
    have HS := hide hS
    clear hS
    go_enter Tryz.func98, Tryz.ntmps98
    go_wp2_with fail
    refine (frame_cell sb x.frame w hc).mono ?_
    rintro e w1 ⟨rfl, rfl⟩
    go_wp2_with fail
    refine (dstate_any sb n win (x.frame - win) x.frame pb rb f mb FS (insM x n) w1 (unhide HS) hn4 h1 h2 (by omega)).mono ?_
    rintro e w2 ⟨rfl, hb2⟩
    go_wp2_with fail
    refine (gdigest_any (stF n (insM x n) f) w2 hg.len hg.rng).mono ?_
    rintro e w3 ⟨rfl, hb3⟩
    go_wp2
    go_ret2
    exact ⟨rfl, hb2.trans (hb3.mono hb2.size)⟩
set_option maxRecDepth 10000 in
set_option maxHeartbeats 1000000 in
theorem sum_no (b num n win delay : Nat) (f : Int) (F FS : Nat → Prop) (x : PeerM) (v : Nat → Value) (st : Value) (w : World) (h : PeerAt w b F FS num n win delay x v st) (hf : f < 0 ∨ (x.frame : Int) < f ∨ f < (x.frame : Int) - (win : Int)) :
    Calls Tryz.prog 98 #[.pointer (some ⟨b, 0, none⟩), .int .i64 f] w fun e w' => ∃ g, e = .returned (.tuple #[.int .u32 0, .iface 149 (.pointer (some ⟨g, 0, none⟩))]) ∧ w.heap.size ≤ g ∧ w'.cell? ⟨g, 0, none⟩ = some (.int .i64 (num : Int)) ∧ w'.cell? ⟨g, 1, none⟩ = some (.int .i64 6) ∧ Below w.heap.size w w' := by
  obtain ⟨t, sb, rfl, hm, hc⟩ := h.store.frame_call
  have c13 : w.cell? ⟨b, 13, none⟩ = some (.iface t (.pointer (some ⟨sb, 0, none⟩))) := h.cell 13
  have c2 : w.cell? ⟨b, 2, none⟩ = some (.int .i64 (win : Int)) := h.cell 2
  have hfr := h.ok.frame
  have hw8 := h.hw
  have hwr := i64_id ((x.frame : Int) - (win : Int)) (by omega) (by omega)
  have HB := hide h
  clear h
  by_cases d1 : f < 0
  · have e1 : decide (f < 0) = true := by simp [d1]
    go_enter Tryz.func98, Tryz.ntmps98
    go_wp2_with fail
    refine (frame_cell sb x.frame w hc).mono ?_
    rintro e w1 ⟨rfl, rfl⟩
    go_wp2_with fail
    refine (fault_any b num n win delay 6 F FS x v _ w1 (unhide HB)).mono ?_
    rintro e w2 ⟨g, rfl, hg1, hg2, hg3, hb2⟩
    go_wp2
    go_ret2
    exact ⟨g, rfl, hg1, hg2, hg3, hb2⟩
  · have e1 : decide (f < 0) = false := by simp; omega
    by_cases d2 : (x.frame : Int) < f
    · have e2 : decide ((x.frame : Int) < f) = true := by simp [d2]
      go_enter Tryz.func98, Tryz.ntmps98
      go_wp2_with fail
      refine (frame_cell sb x.frame w hc).mono ?_
      rintro e w1 ⟨rfl, rfl⟩
      go_wp2_with fail
      refine (fault_any b num n win delay 6 F FS x v _ w1 (unhide HB)).mono ?_
      rintro e w2 ⟨g, rfl, hg1, hg2, hg3, hb2⟩
      go_wp2
      go_ret2
      exact ⟨g, rfl, hg1, hg2, hg3, hb2⟩
    · have e2 : decide ((x.frame : Int) < f) = false := by simp; omega
      have e3 : decide (f < (x.frame : Int) - (win : Int)) = true := by simp; omega
      go_enter Tryz.func98, Tryz.ntmps98
      go_wp2_with fail
      refine (frame_cell sb x.frame w hc).mono ?_
      rintro e w1 ⟨rfl, rfl⟩
      go_wp2_with fail
      refine (fault_any b num n win delay 6 F FS x v _ w1 (unhide HB)).mono ?_
      rintro e w2 ⟨g, rfl, hg1, hg2, hg3, hb2⟩
      go_wp2
      go_ret2
      exact ⟨g, rfl, hg1, hg2, hg3, hb2⟩
end Go.Proofs.YtandblanpafjoaaGreatDoor

namespace Go.Proofs.YtandblanpafjoaaGreatDoor
open Go.RowKit Go.Extern.Stop Go.Stop Go.Extern
set_option maxRecDepth 10000 in
set_option maxHeartbeats 1000000 in
theorem memory_any (b num n win delay : Nat) (F FS : Nat → Prop) (x : PeerM) (v : Nat → Value) (st : Value) (w : World) (h : PeerAt w b F FS num n win delay x v st) :
    Calls Tryz.prog 95 #[.pointer (some ⟨b, 0, none⟩)] w fun e w' => ∃ g, e = .returned (.slice (some ⟨g, 0, none⟩) 288 288) ∧ w.heap.size ≤ g ∧ Blk w' g (nums .u8 (stF n (insM x n) x.frame)) 5 ∧ Below w.heap.size w w' := by
  have c13 : w.cell? ⟨b, 13, none⟩ = some st := h.cell 13
  have hfr := h.ok.frame
  have hw8 := h.hw
  have hn4 := h.hn4
  have hg := stF_good h.hn4 (insM x n) x.frame
  have hSt := h.store
  clear h
  rcases hSt with ⟨sb, pb, rb, rfl, hS⟩ | ⟨sb, pb, rb, mb, rfl, hS⟩
  · skip
    have hc := hS.blk.c1
    have hm1 := mFrameF ⟨sb, 0, none⟩
    have hm2 := mStateF ⟨sb, 0, none⟩
    have HS := hide hS
    clear hS
    go_enter Tryz.func95, Tryz.ntmps95
    go_wp2_with fail
    refine wp_moves_reads_tail0 11 (by kernel_rfl) (by kernel_rfl) (by kernel_rfl) (by kernel_rfl) ?_
    simp only [List.take_succ_cons, List.take_zero, List.drop_succ_cons, List.drop_zero]
    still_step
    still_step
    still_step
    still_step
    still_step
    still_step
    still_step
    still_step
    still_call (frame_cell sb x.frame w.drew hc)
    still_step
    still_step
    refine wpStill_nil ?_
    go_wp2_with fail
    refine (fstate_any sb n win (x.frame - win) x.frame pb rb x.frame FS (insM x n) w.drew ((unhide HS).same (fun _ _ => rfl)) hn4 hw8.1 (by omega) (Nat.le_refl _)).mono ?_
    rintro e w2 ⟨rfl, hb2⟩
    go_wp2_with fail
    refine (bytes_any (stF n (insM x n) x.frame) w2 hg.len).mono ?_
    rintro e w3 ⟨g, rfl, hg1, hg2, hb3⟩
    have hz2 : w.heap.size ≤ w2.heap.size := hb2.size
    go_wp2
    go_ret
    exact ⟨g, rfl, by omega, hg2, ⟨hb3.os.trans hb2.os, hb3.tape.trans hb2.tape, hb3.output.trans hb2.output, Nat.le_trans hb2.size hb3.size, fun k hk => (hb3.block k (by omega)).trans (hb2.block k hk)⟩⟩
  · skip
    have hc := hS.blk.c1
    have hm1 := mFrameD ⟨sb, 0, none⟩
    have hm2 := mStateD ⟨sb, 0, none⟩
    have HS := hide hS
    clear hS
    go_enter Tryz.func95, Tryz.ntmps95
    go_wp2_with fail
    refine wp_moves_reads_tail0 11 (by kernel_rfl) (by kernel_rfl) (by kernel_rfl) (by kernel_rfl) ?_
    simp only [List.take_succ_cons, List.take_zero, List.drop_succ_cons, List.drop_zero]
    still_step
    still_step
    still_step
    still_step
    still_step
    still_step
    still_step
    still_step
    still_call (frame_cell sb x.frame w.drew hc)
    still_step
    still_step
    refine wpStill_nil ?_
    go_wp2_with fail
    refine (dstate_any sb n win (x.frame - win) x.frame pb rb x.frame mb FS (insM x n) w.drew ((unhide HS).same (fun _ _ => rfl)) hn4 (by omega) (Nat.le_refl _) (by omega)).mono ?_
    rintro e w2 ⟨rfl, hb2⟩
    go_wp2_with fail
    refine (bytes_any (stF n (insM x n) x.frame) w2 hg.len).mono ?_
    rintro e w3 ⟨g, rfl, hg1, hg2, hb3⟩
    have hz2 : w.heap.size ≤ w2.heap.size := hb2.size
    go_wp2
    go_ret
    exact ⟨g, rfl, by omega, hg2, ⟨hb3.os.trans hb2.os, hb3.tape.trans hb2.tape, hb3.output.trans hb2.output, Nat.le_trans hb2.size hb3.size, fun k hk => (hb3.block k (by omega)).trans (hb2.block k hk)⟩⟩
end Go.Proofs.YtandblanpafjoaaGreatDoor

namespace Go.Proofs.YtandblanpafjoaaGreatDoor
open Go.RowKit Go.Extern.Stop Go.Stop Go.Extern
set_option maxRecDepth 10000 in
set_option maxHeartbeats 2000000 in
theorem padvance_end (b num n win delay : Nat) (i : Int) (F FS : Nat → Prop) (x : PeerM) (v : Nat → Value) (st : Value) (w : World) (h : PeerAt w b F FS num n win delay x v st) (he : x.frame = 200) :
    Calls Tryz.prog 83 #[.pointer (some ⟨b, 0, none⟩), .int .u8 i] w fun e w' => ∃ g, e = .returned (.iface 149 (.pointer (some ⟨g, 0, none⟩))) ∧ w.heap.size ≤ g ∧ w'.cell? ⟨g, 0, none⟩ = some (.int .i64 (num : Int)) ∧ w'.cell? ⟨g, 1, none⟩ = some (.int .i64 3) ∧ Below w.heap.size w w' := by
  obtain ⟨t, sb, rfl, hm, hc⟩ := h.store.frame_call
  have c13 : w.cell? ⟨b, 13, none⟩ = some (.iface t (.pointer (some ⟨sb, 0, none⟩))) := h.cell 13
  have HB := hide h
  have HE := hide he
  have e1 : ((x.frame : Int) == 200) = true := by simp [he]
  clear h he
  go_enter Tryz.func83, Tryz.ntmps83
  go_wp2_with fail
  refine (frame_cell sb x.frame w hc).mono ?_
  rintro e w1 ⟨rfl, rfl⟩
  go_wp2_with fail
  refine (fault_any b num n win delay 3 F FS x v _ w1 (unhide HB)).mono ?_
  rintro e w2 ⟨g, rfl, hg1, hg2, hg3, hb2⟩
  go_wp2
  go_ret
  exact ⟨g, rfl, hg1, hg2, hg3, hb2⟩
set_option maxRecDepth 10000 in
set_option maxHeartbeats 2000000 in
theorem padvance_stall (b num n win delay : Nat) (i : Int) (F FS : Nat → Prop) (x : PeerM) (v : Nat → Value) (st : Value) (w : World) (h : PeerAt w b F FS num n win delay x v st) (he : x.frame ≠ 200) (hs : x.frame - confTo x n = win) :
    Calls Tryz.prog 83 #[.pointer (some ⟨b, 0, none⟩), .int .u8 i] w fun e w' => ∃ g, e = .returned (.iface 149 (.pointer (some ⟨g, 0, none⟩))) ∧ w.heap.size ≤ g ∧ w'.cell? ⟨g, 0, none⟩ = some (.int .i64 (num : Int)) ∧ w'.cell? ⟨g, 1, none⟩ = some (.int .i64 4) ∧ Below w.heap.size w w' := by
  obtain ⟨t, sb, rfl, hm, hc⟩ := h.store.frame_call
  have c13 : w.cell? ⟨b, 13, none⟩ = some (.iface t (.pointer (some ⟨sb, 0, none⟩))) := h.cell 13
  have c2 : w.cell? ⟨b, 2, none⟩ = some (.int .i64 (win : Int)) := h.cell 2
  have hfr := h.ok.frame
  have hcf := confTo_frame x n
  have hw8 := h.hw
  have HB := hide h
  have e1 : ((x.frame : Int) == 200) = false := by rw [beq_eq_false_iff_ne]; omega
  have hsub := i64_id ((x.frame : Int) - (confTo x n : Int)) (by omega) (by omega)
  have e2 : ((x.frame : Int) - (confTo x n : Int) == (win : Int)) = true := by rw [beq_iff_eq]; omega
  clear h
  go_enter Tryz.func83, Tryz.ntmps83
  go_wp2_with fail
  refine (frame_cell sb x.frame w hc).mono ?_
  rintro e w1 ⟨rfl, rfl⟩
  go_wp2_with fail
  refine wp_moves_reads_tail0 9 (by kernel_rfl) (by kernel_rfl) (by kernel_rfl) (by kernel_rfl) ?_
  simp only [List.take_succ_cons, List.take_zero, List.drop_succ_cons, List.drop_zero]
  still_step
  still_step
  still_call (conf_any b num n win delay F FS x v _ w1.drew ((unhide HB).same (fun _ _ => rfl)))
  repeat still_step
  refine wpStill_nil ?_
  go_wp2_with fail
  refine (fault_any b num n win delay 4 F FS x v _ w1.drew ((unhide HB).same (fun _ _ => rfl))).mono ?_
  rintro e w2 ⟨g, rfl, hg1, hg2, hg3, hb2⟩
  go_wp2
  go_ret
  exact ⟨g, rfl, hg1, hg2, hg3, ⟨hb2.os, hb2.tape, hb2.output, hb2.size, hb2.block⟩⟩
end Go.Proofs.YtandblanpafjoaaGreatDoor

namespace Go.Proofs.YtandblanpafjoaaGreatDoor
open Go.RowKit Go.Extern.Stop Go.Stop Go.Extern
def updV (v : Nat → Value) (q : Nat) (u : Value) : Nat → Value := fun k => if k = q then u else v k
theorem pCells_set (num n win delay dropped q : Nat) (v : Nat → Value) (ak : Nat → Nat) (st u : Value) (hq : q < 4) : (pCells num n win delay dropped v ak st).toArray.setIfInBounds (5 + q) u = (pCells num n win delay dropped (updV v q u) ak st).toArray := by
  rcases q with _ | _ | _ | _ | q
  · simp [pCells, updV]
  · simp [pCells, updV]
  · simp [pCells, updV]
  · simp [pCells, updV]
  · omega
/-- What is known of q has grown: its slice lies where it lay, or in a new block. -/
theorem PeerK.learn {w w3 : World} {b : Nat} {F FS : Nat → Prop} {num n win delay : Nat} {x : PeerM} {v : Nat → Value} {st : Value} (h : PeerK w b F FS num n win delay x v st) {q m : Nat} (hq : q < n) {l : List Int} {u : Value} (hl : l.length ≤ 203)
    (hlt : ∀ k, F k → k < w.heap.size) (hm : w.heap.size ≤ m) (hs : ∀ k, k < w.heap.size → (v q).ownBlock ≠ some k → w3.heap[k]? = w.heap[k]?) (hown : w3.ownsRow 0 5 1 u l.length (l.map (Value.int .u8))) (hloc : u.ownBlock = (v q).ownBlock ∨ u.ownBlock = some m) :
    PeerK (w3.setCell ⟨b, 5 + q, none⟩ u) b (fun k => F k ∨ u.ownBlock = some k) FS num n win delay (x.learn q l) (updV v q u) st := by
  have hn4 := h.hn4
  have hub : u.ownBlock ≠ some b := by
    rcases hloc with e | e
    · rw [e]; exact fun e' => (h.fk q b hq e').2.1 rfl
    · rw [e]; intro e'; injection e' with e'; have := hlt b h.fb; omega
  have hun : ∀ k, u.ownBlock = some k → ¬ FS k ∧ k ≠ b ∧ ∀ q', q' < n → q' ≠ q → (v q').ownBlock ≠ some k := by
    intro k hk
    rcases hloc with e | e
    · rw [e] at hk
      exact ⟨(h.fk q k hq hk).2.2, (h.fk q k hq hk).2.1, fun q' hq' hne e' => hne (h.fd q' q k hq' hq e' hk)⟩
    · rw [e] at hk
      injection hk with hk
      subst hk
      exact ⟨fun hF => by have := hlt _ (h.fs _ hF).1; omega, fun e' => by have := hlt b h.fb; omega, fun q' hq' _ e' => by have := hlt _ (h.fk q' _ hq' e').1; omega⟩
  refine ⟨?_, ?_, ?_, ?_, .inl h.fb, ?_, ?_, fun k hk => ⟨.inl (h.fs k hk).1, (h.fs k hk).2⟩, h.hn2, h.hn4, h.hw, h.hnum, h.drop⟩
  · have hb3 : Blk w3 b (pCells num n win delay x.dropped v (fun q => if q < n then x.acked q else 0) st).toArray 122 := (hs b (hlt b h.fb) (fun e => (h.fk q b hq e).2.1 rfl)).trans h.blk
    have := hb3.set (5 + q) u
    rw [pCells_set num n win delay x.dropped q v _ st u (by omega)] at this
    exact this
  · intro q' hq'
    by_cases e : q' = q
    · subst e
      simp only [PeerM.learn, updV, if_true]
      exact owns_same hown (fun k hk => heap_setCell_other _ _ _ _ (fun e => (hun k hk).2.1 e))
    · simp only [PeerM.learn, updV, e, if_false]
      refine owns_same (h.known q' hq') (fun k hk => ?_)
      rw [heap_setCell_other _ _ _ _ (fun e => (h.fk q' k hq' hk).2.1 e)]
      exact hs k (hlt k (h.fk q' k hq' hk).1) (fun e' => e (h.fd q' q k hq' hq hk e'))
  · intro q' hq'
    simp only [updV]
    rw [if_neg (by omega)]; exact h.nils q' hq'
  · intro q' hq'
    simp only [PeerM.learn]
    split
    · exact hl
    · exact h.lens q' hq'
  · intro q' k hq' hk
    by_cases e : q' = q
    · subst e
      simp only [updV, if_true] at hk
      exact ⟨.inr hk, (hun k hk).2.1, (hun k hk).1⟩
    · simp only [updV, e, if_false] at hk
      exact ⟨.inl (h.fk q' k hq' hk).1, (h.fk q' k hq' hk).2⟩
  · intro q1 q2 k h1 h2 e1 e2
    by_cases a1 : q1 = q
    · by_cases a2 : q2 = q
      · rw [a1, a2]
      · simp only [updV, a1, a2, if_true, if_false] at e1 e2
        exact absurd e2 ((hun k e1).2.2 q2 h2 a2)
    · by_cases a2 : q2 = q
      · simp only [updV, a1, a2, if_true, if_false] at e1 e2
        exact absurd e1 ((hun k e2).2.2 q1 h1 a1)
      · simp only [updV, a1, a2, if_false] at e1 e2
        exact h.fd q1 q2 k h1 h2 e1 e2
theorem PeerK.but {w w' : World} {b : Nat} {F FS : Nat → Prop} {num n win delay : Nat} {x : PeerM} {v : Nat → Value} {st : Value} (h : PeerK w b F FS num n win delay x v st) (hs : ∀ k, F k → ¬ FS k → w'.heap[k]? = w.heap[k]?) : PeerK w' b F FS num n win delay x v st :=
  ⟨(hs b h.fb (fun e => (h.fs b e).2 rfl)).trans h.blk, fun q hq => owns_same (h.known q hq) (fun k hk => hs k (h.fk q k hq hk).1 (h.fk q k hq hk).2.2), h.nils, h.lens, h.fb, h.fk, h.fd, h.fs, h.hn2, h.hn4, h.hw, h.hnum, h.drop⟩
end Go.Proofs.YtandblanpafjoaaGreatDoor

