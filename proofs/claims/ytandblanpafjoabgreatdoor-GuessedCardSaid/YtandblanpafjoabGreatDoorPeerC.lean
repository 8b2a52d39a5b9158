import Derived.Test.YtandblanpafjoabGreatDoorPeerA
namespace Go.Proofs.YtandblanpafjoabGreatDoor
open Go.RowKit Go.Extern.Stop Go.Stop Go.Extern

theorem StoreAt.frame_call {w : World} {st : Value} {F : Nat → Prop} {n win lo frame : Nat} {fs : Nat → List Int} (h : StoreAt w st F n win lo frame fs) : ∃ t sb, st = .iface t (.pointer (some ⟨sb, 0, none⟩)) ∧ (Go.method 397 t (.pointer (some ⟨sb, 0, none⟩)) "Frame").run Tryz.prog w = .ok (180, .pointer (some ⟨sb, 0, none⟩)) w ∧ w.cell? ⟨sb, 1, none⟩ = some (.int .i64 (frame : Int)) := by
  rcases h with ⟨sb, pb, rb, e, h⟩ | ⟨sb, pb, rb, mb, e, h⟩
  · exact ⟨_, sb, e, mFrameF _ w, h.blk.c1⟩
  · exact ⟨_, sb, e, mFrameD _ w, h.blk.c1⟩

set_option maxHeartbeats 1000000 in
theorem conf_any (b num n win delay : Nat) (F FS : Nat → Prop) (x : PeerM) (v : Nat → Value) (st : Value) (w : World) (h : PeerAt w b F FS num n win delay x v st) :
    Calls Tryz.prog 65 #[.pointer (some ⟨b, 0, none⟩)] w fun e w' => e = .returned (.int .i64 (confTo x n : Int)) ∧ w' = w := by
  obtain ⟨t, sb, rfl, hm, hc⟩ := h.store.frame_call
  have c13 : w.cell? ⟨b, 13, none⟩ = some (.iface t (.pointer (some ⟨sb, 0, none⟩))) := h.cell 13
  have c1 : w.cell? ⟨b, 1, none⟩ = some (.int .i64 (n : Int)) := h.cell 1
  have HB := hide h
  have hn4 := h.hn4
  have hfr := h.ok.frame
  clear h
  go_enter Tryz.func65, Tryz.ntmps65
  go_wp2
  go_loop [3, 14] (fun m i => ∃ k : Nat, k ≤ n ∧ i = .int .i64 (k : Int) ∧ m = .int .i64 (confTo x k : Int)) (fun _ i => n - (intOf i).toNat)
  case atStart => exact ⟨0, by omega, rfl, rfl⟩
  case round =>
    obtain ⟨k, hk, rfl, rfl⟩ := hrel
    by_cases hlt : k < n
    · obtain ⟨ao, cp, hv, _, _⟩ := (unhide HB).shape k hlt
      have ck := (unhide HB).cK k (by omega)
      rw [hv] at ck
      have hd : decide ((k : Int) < (n : Int)) = true := by simp; omega
      have hk0 : (0 : Int) ≤ (k : Int) := by omega
      have hk4 : (k : Int) < 4 := by omega
      have hif : (if (x.known k).length < confTo x k then ((x.known k).length : Int) else (confTo x k : Int)) = (confTo x (k + 1) : Int) := by simp only [confTo]; split <;> omega
      go_wp2
      exact ⟨⟨k + 1, by omega, by go_num, rfl⟩, by simp [intOf]; omega⟩
    · have hkn : k = n := by omega
      subst hkn
      have hd : decide ((k : Int) < (k : Int)) = false := by simp
      go_wp2
      go_ret
      exact ⟨rfl, rfl⟩

theorem insM_pad {x : PeerM} {n f q : Nat} (hq : q < n) : (pad4 n (insM x n f)).getD q 0 = inputM x q f := by
  rw [pad4_get (insM_len x n f) q hq, insM_get x n f q hq]
/-- The first k of a frame's inputs; the others are noughts. -/
def insTo (x : PeerM) (f k : Nat) : List Int := (List.range 4).map fun q => if q < k then inputM x q f else 0
theorem insTo_zero (x : PeerM) (f : Nat) : insTo x f 0 = Z4u := by simp [insTo, Z4u]; rfl
theorem insTo_len (x : PeerM) (f k : Nat) : (insTo x f k).length = 4 := by simp [insTo]
theorem insTo_all (x : PeerM) (f n : Nat) (hn : n ≤ 4) : insTo x f n = pad4 n (insM x n f) := by
  apply List.ext_getElem (by rw [insTo_len, pad4_len (insM_len _ _ _) hn])
  intro i h1 h2
  rw [insTo_len] at h1
  simp only [insTo, List.getElem_map, List.getElem_range]
  by_cases h : i < n
  · have := insM_pad (x := x) (f := f) h
    rw [List.getD_eq_getElem?_getD, List.getElem?_eq_getElem h2] at this
    simp only [Option.getD_some] at this
    rw [if_pos h, this]
  · rw [if_neg h]
    simp only [pad4]
    rw [List.getElem_append_right (by rw [insM_len]; omega)]
    simp
theorem insTo_succ (x : PeerM) (f k : Nat) : insTo x f (k + 1) = (insTo x f k).set k (inputM x k f) := by
  apply List.ext_getElem (by simp [insTo_len])
  intro i h1 h2
  rw [insTo_len] at h1
  rw [List.getElem_set]
  simp only [insTo, List.getElem_map, List.getElem_range]
  by_cases e : k = i
  · subst e; simp
  · rw [if_neg e]
    by_cases h : i < k
    · rw [if_pos h, if_pos (by omega)]
    · rw [if_neg h, if_neg (by omega)]

set_option maxRecDepth 10000 in
set_option maxHeartbeats 1000000 in
theorem inputs_any (b num n win delay f : Nat) (F FS : Nat → Prop) (x : PeerM) (v : Nat → Value) (st : Value) (w : World) (h : PeerK w b F FS num n win delay x v st) (hf : f ≤ 1000) :
    Calls Tryz.prog 92 #[.pointer (some ⟨b, 0, none⟩), .int .i64 (f : Int)] w fun e w' => e = .returned (.agg (nums .u8 (pad4 n (insM x n f)))) ∧ Below w.heap.size w w' := by
  have hz := Tryz.zeroIn
  have hbl := h.blk.lt
  have HB := hide h
  have hn4 := h.hn4
  have b2 : Below w.heap.size w ((w.alloc (.cells (nums .u8 Z4u) 187)).alloc (.cells (nums .u8 Z4u) 187)) := ((Below.refl _ w).alloc (Nat.le_refl _) _).alloc (by simp) _
  have x1 : Blk ((w.alloc (.cells (nums .u8 Z4u) 187)).alloc (.cells (nums .u8 Z4u) 187)) w.heap.size (nums .u8 Z4u) 187 := (Blk.new w _ _).alloc _
  have y1 : Blk ((w.alloc (.cells (nums .u8 Z4u) 187)).alloc (.cells (nums .u8 Z4u) 187)) (w.heap.size + 1) (nums .u8 Z4u) 187 := by
    have := Blk.new (w.alloc (.cells (nums .u8 Z4u) 187)) (nums .u8 Z4u) 187
    simpa using this
  have e2 : ((w.alloc (.cells (nums .u8 Z4u) 187)).alloc (.cells (nums .u8 Z4u) 187)).heap.size = w.heap.size + 2 := by simp
  obtain ⟨V, hV⟩ : ∃ V, (w.alloc (.cells (nums .u8 Z4u) 187)).alloc (.cells (nums .u8 Z4u) 187) = V := ⟨_, rfl⟩
  rw [hV] at b2 x1 y1 e2
  have c1 : V.cell? ⟨b, 1, none⟩ = some (.int .i64 (n : Int)) := (b2.cell (p := ⟨b, 1, none⟩) hbl).trans (h.cell 1)
  clear h
  go_enter Tryz.func92, Tryz.ntmps92
  go_wp2_with fail
  try rw [hV]
  clear hV
  go_loopw [12] (fun i wr => ∃ k : Nat, k ≤ n ∧ i = .int .i64 (k : Int) ∧ Below w.heap.size w wr ∧ wr.heap.size = w.heap.size + 2 ∧ Blk wr w.heap.size (nums .u8 Z4u) 187 ∧ Blk wr (w.heap.size + 1) (nums .u8 (insTo x f k)) 187) (fun i _ => n - (intOf i).toNat)
  case atStart => exact ⟨0, by omega, rfl, b2, e2, x1, by rw [insTo_zero]; exact y1⟩
  case round =>
    clear b2 x1 y1 e2 c1
    obtain ⟨k, hk, rfl, hb, hsz, hx, hy⟩ := hrel
    by_cases hlt : k < n
    · obtain ⟨ao, cp, hv, hsome, hnone⟩ := (unhide HB).shape k hlt
      have ck := (hb.cell (p := ⟨b, 5 + k, none⟩) hbl).trans ((unhide HB).cK k (by omega))
      rw [hv] at ck
      have hlen := (unhide HB).lens k hlt
      have hd : decide ((k : Int) < (n : Int)) = true := by simp; omega
      have hk0 : (0 : Int) ≤ (k : Int) := by omega
      have hk4 : (k : Int) < 4 := by omega
      by_cases h0 : (x.known k).length = 0
      · have hd0 : decide ((0 : Int) < ((x.known k).length : Int)) = false := by simp [h0]
        have hin : inputM x k f = 0 := by
          unfold inputM; rw [if_neg (by omega)]
          exact getD_out _ _ (by omega)
        have hst : insTo x f (k + 1) = insTo x f k := by
          rw [insTo_succ x f k, hin]
          apply List.ext_getElem (by simp)
          intro i h1 h2
          rw [List.getElem_set]
          split
          · rename_i e; subst e; simp [insTo]
          · rfl
        clear hsome hnone
        go_wp2
        exact ⟨⟨k + 1, by omega, by go_num, hb, hsz, hx, by rw [hst]; exact hy⟩, by simp [intOf]; omega⟩
      · have hd0 : decide ((0 : Int) < ((x.known k).length : Int)) = true := by simp; omega
        obtain ⟨a0, rfl⟩ : ∃ a0, ao = some a0 := by
          cases ao with
          | none => exact absurd (hnone rfl).1 h0
          | some a0 => exact ⟨a0, rfl⟩
        obtain ⟨g, rfl, hgl, hcap, hcells⟩ := hsome _ rfl
        obtain ⟨m, hm⟩ : ∃ m, min f ((x.known k).length - 1) = m := ⟨_, rfl⟩
        have hml : m < (x.known k).length := by omega
        have hcm := (hb.cell (p := ⟨g, m, none⟩) hgl).trans (hcells m hml)
        have hin : (x.known k).getD m 0 = inputM x k f := by
          unfold inputM
          split
          · rw [show m = f by omega]
          · rw [show m = (x.known k).length - 1 by omega]
        rw [hin] at hcm
        have hif : (if ((x.known k).length : Int) - 1 < (f : Int) then ((x.known k).length : Int) - 1 else (f : Int)) = (m : Int) := by split <;> omega
        have hm0 : (0 : Int) ≤ (m : Int) := by omega
        have hm1 : (m : Int) < ((x.known k).length : Int) := by omega
        have hw1 := i64_id (((x.known k).length : Int) - 1) (by omega) (by omega)
        clear hsome hnone hcells
        have hyc := hy.num k (by rw [insTo_len]; omega)
        have hyf := hy.frozen k
        go_wp2
        refine ⟨⟨k + 1, by omega, by go_num, hb.setCell (p := ⟨w.heap.size + 1, k, none⟩) (by simp) _, by simp [hsz], hx.setOther _ _ (by simp), ?_⟩, by simp [intOf]; omega⟩
        rw [insTo_succ x f k]; exact hy.put k _
    · have hkn : k = n := by omega
      subst hkn
      have hd : decide ((k : Int) < (k : Int)) = false := by simp
      have hlp := insTo_len x f k
      go_wp2_with (first | (refine wpList_load_blk rfl 187 _ rfl (w.heap.size + 1) rfl 187 (nums .u8 (insTo x f k)) _ hy Tryz.underlying187 rfl (Tryz.sizeIn _ hlp) ?_) | (refine wpList_store_blk rfl 187 _ _ rfl w.heap.size 187 (nums .u8 Z4u) (nums .u8 (insTo x f k)) rfl rfl hx (Tryz.sizeIn _ hlp) (by rw [nums_size, nums_size, hlp]; rfl) (nums_one _ _) ?_))
      refine bodyPost_ret (v := .agg (nums .u8 (insTo x f k))) ?_ rfl ⟨by rw [insTo_all x f k hn4], ?_⟩
      · exact results_cell_row Tryz.results92 _ _ w.heap.size 187 _ (0, 0) _ rfl (hx.setRow _) Tryz.underlying187 rfl (Tryz.sizeIn _ hlp)
      · exact below_setRow hb (Nat.le_refl _) _

set_option maxHeartbeats 1000000 in
theorem fault_any (b num n win delay : Nat) (k : Int) (F FS : Nat → Prop) (x : PeerM) (v : Nat → Value) (st : Value) (w : World) (h : PeerAt w b F FS num n win delay x v st) :
    Calls Tryz.prog 77 #[.pointer (some ⟨b, 0, none⟩), .int .i64 k] w fun e w' => ∃ g, e = .returned (.iface 96 (.pointer (some ⟨g, 0, none⟩))) ∧ w.heap.size ≤ g ∧ w'.cell? ⟨g, 0, none⟩ = some (.int .i64 (num : Int)) ∧ w'.cell? ⟨g, 1, none⟩ = some (.int .i64 k) ∧ Below w.heap.size w w' := by
  have c0 : w.cell? ⟨b, 0, none⟩ = some (.int .i64 (num : Int)) := h.cell 0
  clear h
  go_enter Tryz.func77, Tryz.ntmps77
  go_wp2
  go_ret
  refine ⟨w.heap.size, rfl, Nat.le_refl _, ?_, ?_, (Below.refl _ w).alloc (Nat.le_refl _) _⟩
  · simp
  · simp
end Go.Proofs.YtandblanpafjoabGreatDoor
