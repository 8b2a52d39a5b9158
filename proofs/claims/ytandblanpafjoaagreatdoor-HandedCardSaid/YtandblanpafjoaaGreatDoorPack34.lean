import Derived.Test.YtandblanpafjoaaGreatDoorPack33
namespace Go.Proofs.YtandblanpafjoaaGreatDoor
open Go.RowKit Go.Extern.Stop Go.Stop Go.Extern
def rouC (L : RLoc) (f : FlyM) : List Value := [.int .i64 (f.to : Int), .int .i64 (f.due : Int), L.fb f.num]
def rous (L : RLoc) (l : List FlyM) : List Value := l.flatMap (rouC L)
theorem rouC_len (L : RLoc) (f : FlyM) : (rouC L f).length = 3 := rfl
theorem rous_append (L : RLoc) (a b : List FlyM) : rous L (a ++ b) = rous L a ++ rous L b := by simp [rous]
theorem rous_get (L : RLoc) : ∀ (l : List FlyM) (i j : Nat), i < l.length → j < 3 → (rous L l)[i * 3 + j]? = (rouC L (fl l i))[j]?
  | a :: l, 0, j, _, hj => by
    simp only [rous, List.flatMap_cons]
    rw [List.getElem?_append_left (by rw [rouC_len]; omega)]
    simp [fl]
  | a :: l, i + 1, j, h, hj => by
    have := rous_get L l i j (by simpa using h) hj
    simp only [rous, List.flatMap_cons] at this ⊢
    rw [List.getElem?_append_right (by rw [rouC_len]; omega), rouC_len, show (i + 1) * 3 + j - 3 = i * 3 + j by omega, this]
    simp [fl]
theorem outM_step (l : List FlyM) (h : l ≠ []) : outM l = fl l (firstM l) :: outM (l.eraseIdx (firstM l)) := by
  have hlt := firstM_lt l h
  have hl : l.length = (l.eraseIdx (firstM l)).length + 1 := by rw [List.length_eraseIdx_of_lt hlt]; omega
  unfold outM
  rw [hl]
  simp only [outTo, if_neg h]
  rfl
theorem outM_nil : outM [] = [] := rfl
theorem owns_base {w : World} {base base' : Nat} {e : TypeId} {s : Nat} {v : Value} {n : Nat} {xs : List Value} (h : w.ownsRow base e s v n xs) (hb : base' ≤ base) : w.ownsRow base' e s v n xs := by
  refine ⟨h.1, ?_⟩
  rcases h.2 with h' | ⟨g, cap, cur, h1, h2, h3⟩
  · exact Or.inl h'
  · exact Or.inr ⟨g, cap, cur, h1, Nat.le_trans hb h2, h3⟩
theorem Tryz.infoFlR : (Tryz.prog.info? 91).map (fun i => (i.zero, i.size, i.bytes)) = some (some (.agg #[.int .i64 0, .int .i64 0, .slice none 0 0]), 3, 40) := by kernel_rfl
set_option maxRecDepth 10000 in
set_option maxHeartbeats 4000000 in
theorem rflights_any (nb : Nat) (ro : Nat → RR) (m : NetM) (L : RLoc) (w : World) (h : RNet w ro nb m L) (hb : m.flights.length ≤ 1000000) :
    Calls Tryz.prog 43 #[.pointer (some ⟨nb, 0, none⟩)] w fun e w' => ∃ v, e = .returned v ∧ w'.ownsRow w.heap.size 91 3 v (outM m.flights).length (rous L (outM m.flights)) ∧ Below w.heap.size w w' := by
  obtain ⟨i8, hi8, hz0, hz1, hz2⟩ := info_parts Tryz.infoFlR
  have c6 : w.cell? ⟨nb, 6, none⟩ = some L.flv := h.cell 6
  have hown0 := h.fls.1
  have HO := hide (fun f (hf : f ∈ m.flights) => show ∃ bg bn bc, L.fb f.num = .slice (some ⟨bg, 0, none⟩) bn bc by obtain ⟨g, c, e, _⟩ := h.bytes f hf; exact ⟨g, _, c, e⟩)
  clear h
  obtain ⟨ao, c, hfl⟩ := own_nil hown0
  have H0 := hide hown0
  rw [hfl] at c6
  have HF := hide hfl
  clear hown0 hfl
  go_enter Tryz.func43, Tryz.ntmps43
  go_wp2_with fail
  go_loopw [3, 4] (fun s3 s4 wr => ∃ (pre l : List FlyM), wr.ownsRow w.heap.size 91 3 s3 pre.length (rous L pre) ∧ wr.ownsRow 0 76 4 s4 l.length (rfls L l) ∧ pre ++ outM l = outM m.flights ∧ (∀ f ∈ l, f ∈ m.flights) ∧ l.length ≤ m.flights.length ∧ pre.length ≤ m.flights.length ∧ (∀ k, s3.ownBlock = some k → s4.ownBlock ≠ some k) ∧ Below w.heap.size w wr) (fun _ s4 _ => lenOf s4)
  case atStart => exact ⟨[], m.flights, by simpa [rous] using World.ownsRow_nil _ _ _ _, by rw [← unhide HF]; exact unhide H0, rfl, fun f hf => hf, Nat.le_refl _, by simp, fun k hk => by simp [Value.ownBlock] at hk, Below.refl _ _⟩
  case round =>
    clear c6
    obtain ⟨v3, hv3⟩ : ∃ v, v = u3 := ⟨_, rfl⟩
    subst hv3
    obtain ⟨pre, l, ho3, ho4, heq, hsub, hll, hpl, hap, hbr⟩ := hrel
    by_cases hl0 : l = []
    · subst hl0
      obtain ⟨ao, c, hv⟩ := own_nil ho4
      subst hv
      have HR := hide (And.intro ho3 (And.intro ho4 hbr))
      clear ho3 ho4 hbr hap
      go_wp2_with fail
      go_ret
      rw [outM_nil, List.append_nil] at heq
      rw [← heq]
      exact ⟨_, rfl, (unhide HR).1, (unhide HR).2.2⟩
    · have hlp : 0 < l.length := List.length_pos_iff.2 hl0
      obtain ⟨g, cap, hv, _, hgl, _⟩ := own4_some ho4 hlp
      subst hv
      have hkl := firstM_lt l hl0
      have hst := outM_step l hl0
      have hd : decide (0 < (l.length : Int)) = true := by simp; omega
      have hd' : decide (0 < l.length) = true := by simp; omega
      have hlen : IntKind.i64.wrap (l.length : Int) = (l.length : Int) := i64_id _ (by omega) (by omega)
      have hfc := first_any (.pointer (some ⟨nb, 0, none⟩)) 0 g cap L l wr ho4 hlp (by omega)
      have HR := hide (And.intro ho3 (And.intro ho4 (And.intro hbr (And.intro hap heq))))
      have HS := hide hst
      have HSub := hide hsub
      clear ho3 ho4 hbr hap heq hst hsub
      go_wp2_with fail
      refine hfc.mono ?_
      clear hfc
      rintro e w2 ⟨rfl, hb2⟩
      have ho4' := (unhide HR).2.1
      have r0 : w2.drew.cell? ⟨g, firstM l * 4, none⟩ = some (.int .i64 ((fl l (firstM l)).to : Int)) := (hb2.cell (p := ⟨g, firstM l * 4, none⟩) hgl).trans (rfls_cell ho4' (firstM l) 0 hkl (by omega))
      have r1 : w2.drew.cell? ⟨g, firstM l * 4 + 1, none⟩ = some (.int .i64 ((fl l (firstM l)).due : Int)) := (hb2.cell (p := ⟨g, firstM l * 4 + 1, none⟩) hgl).trans (rfls_cell ho4' (firstM l) 1 hkl (by omega))
      have r3 : w2.drew.cell? ⟨g, firstM l * 4 + 3, none⟩ = some (L.fb (fl l (firstM l)).num) := (hb2.cell (p := ⟨g, firstM l * 4 + 3, none⟩) hgl).trans (rfls_cell ho4' (firstM l) 3 hkl (by omega))
      have hmem : fl l (firstM l) ∈ m.flights := unhide HSub _ (getD_mem l _ hkl)
      obtain ⟨bg, bn, bc, hbv⟩ := unhide HO _ hmem
      obtain ⟨K, hK⟩ : ∃ K, firstM l = K := ⟨_, rfl⟩
      rw [hK] at r0 r1 r3 hkl hbv ⊢
      obtain ⟨x, hx⟩ : ∃ x, fl l K = x := ⟨_, rfl⟩
      rw [hx] at r0 r1 r3 hbv
      rw [hbv] at r3
      have hX : rouC L x = [.int .i64 (x.to : Int), .int .i64 (x.due : Int), .slice (some ⟨bg, 0, none⟩) bn bc] := by unfold rouC; rw [hbv]
      have HK := hide (And.intro hK (And.intro hx hX))
      have k0 : (0 : Int) ≤ (K : Int) := by omega
      have k1 : (K : Int) < (l.length : Int) := by omega
      have hownA0 : w2.ownsRow w.heap.size 91 3 v3 pre.length (rous L pre) := owns_same (unhide HR).1 (fun k hk => hb2.block k (by have := ((unhide HR).1.lt k hk).2; omega))
      have HOA := hide hownA0
      have HB2 := hide hb2
      clear hb2 ho4' hownA0 hK hx hX hmem hbv
      go_upto_region 5 with fail
      go_cut [3] from 16 to 37 (fun s3 wx => wx.ownsRow w.heap.size 91 3 s3 (pre.length + 1) (rous L pre ++ [.int .i64 (x.to : Int), .int .i64 (x.due : Int), .slice (some ⟨bg, 0, none⟩) bn bc]) ∧ w2.grownBy wx v3.ownBlock ∧ (s3.ownBlock = v3.ownBlock ∨ s3.ownBlock = some (w2.heap.size + 1)))
      case first =>
        refine wp_region_noPanic ?_
        refine wp_held_tail 17 19 (fun W' => W'.cell? ⟨g, K * 4, none⟩ = some (.int .i64 (x.to : Int)) ∧ W'.cell? ⟨g, K * 4 + 1, none⟩ = some (.int .i64 (x.due : Int)) ∧ W'.cell? ⟨g, K * 4 + 3, none⟩ = some (.slice (some ⟨bg, 0, none⟩) bn bc)) (by kernel_rfl) (by decide) (by kernel_rfl) (by kernel_rfl) (by kernel_rfl) (fun _ _ _ _ _ h => h) ⟨r0, r1, r3⟩ ?_
        simp only [List.take_succ_cons, List.take_zero, List.drop_succ_cons, List.drop_zero]
        refine wpHeld_op ?y0 rfl ?z0 ?_
        case z0 => intro w' hS; obtain ⟨hS1, hS2, hS3⟩ := hS; go_simp; rfl
        refine wpHeld_op ?y1 rfl ?z1 ?_
        case z1 => intro w' hS; obtain ⟨hS1, hS2, hS3⟩ := hS; go_simp; rfl
        refine wpHeld_op ?y2 rfl ?z2 ?_
        case z2 => intro w' hS; obtain ⟨hS1, hS2, hS3⟩ := hS; go_simp; rfl
        refine wpHeld_op ?y3 rfl ?z3 ?_
        case z3 => intro w' hS; obtain ⟨hS1, hS2, hS3⟩ := hS; go_simp; rfl
        refine wpHeld_op ?y4 rfl ?z4 ?_
        case z4 => intro w' hS; obtain ⟨hS1, hS2, hS3⟩ := hS; go_simp; rfl
        refine wpHeld_op ?y5 rfl ?z5 ?_
        case z5 => intro w' hS; obtain ⟨hS1, hS2, hS3⟩ := hS; go_simp; rfl
        refine wpHeld_op ?y6 rfl ?z6 ?_
        case z6 => intro w' hS; obtain ⟨hS1, hS2, hS3⟩ := hS; go_simp; rfl
        refine wpHeld_op ?y7 rfl ?z7 ?_
        case z7 => intro w' hS; obtain ⟨hS1, hS2, hS3⟩ := hS; go_simp; rfl
        refine wpHeld_op ?y8 rfl ?z8 ?_
        case z8 => intro w' hS; obtain ⟨hS1, hS2, hS3⟩ := hS; go_simp; rfl
        refine wpHeld_op ?y9 rfl ?z9 ?_
        case z9 => intro w' hS; obtain ⟨hS1, hS2, hS3⟩ := hS; go_simp; rfl
        refine wpHeld_op ?y10 rfl ?z10 ?_
        case z10 => intro w' hS; obtain ⟨hS1, hS2, hS3⟩ := hS; go_simp; rfl
        refine wpHeld_op ?y11 rfl ?z11 ?_
        case z11 => intro w' hS; obtain ⟨hS1, hS2, hS3⟩ := hS; go_simp; rfl
        refine wpHeld_op ?y12 rfl ?z12 ?_
        case z12 => intro w' hS; obtain ⟨hS1, hS2, hS3⟩ := hS; go_simp; rfl
        refine wpHeld_op ?y13 rfl ?z13 ?_
        case z13 => intro w' hS; obtain ⟨hS1, hS2, hS3⟩ := hS; go_simp; rfl
        refine wpHeld_op ?y14 rfl ?z14 ?_
        case z14 => intro w' hS; obtain ⟨hS1, hS2, hS3⟩ := hS; go_simp; rfl
        refine wpHeld_op ?y15 rfl ?z15 ?_
        case z15 => intro w' hS; obtain ⟨hS1, hS2, hS3⟩ := hS; go_simp; rfl
        refine wpHeld_op ?y16 rfl ?z16 ?_
        case z16 => intro w' hS; obtain ⟨hS1, hS2, hS3⟩ := hS; go_simp; rfl
        unfold wpHeld
        refine wpAnyH_all (rs := [17]) (by kernel_rfl) (by simp) ?_
        intro j hj
        obtain rfl : j = 17 := by simpa using hj
        refine wpOp_of_list _ rfl rfl ?_
        have hBa : Below w2.heap.size w2 (w2.drew.alloc (.cells #[.int .i64 (x.to : Int), .int .i64 (x.due : Int), .slice (some ⟨bg, 0, none⟩) bn bc] 91)) := (Below.refl _ w2).drew.alloc (Nat.le_refl _) _
        have hg2 : g < w2.heap.size := by have := (unhide HB2).size; omega
        have hSA : (w2.drew.alloc (.cells #[.int .i64 (x.to : Int), .int .i64 (x.due : Int), .slice (some ⟨bg, 0, none⟩) bn bc] 91)).cell? ⟨g, K * 4, none⟩ = some (.int .i64 (x.to : Int)) ∧ (w2.drew.alloc (.cells #[.int .i64 (x.to : Int), .int .i64 (x.due : Int), .slice (some ⟨bg, 0, none⟩) bn bc] 91)).cell? ⟨g, K * 4 + 1, none⟩ = some (.int .i64 (x.due : Int)) ∧ (w2.drew.alloc (.cells #[.int .i64 (x.to : Int), .int .i64 (x.due : Int), .slice (some ⟨bg, 0, none⟩) bn bc] 91)).cell? ⟨g, K * 4 + 3, none⟩ = some (.slice (some ⟨bg, 0, none⟩) bn bc) :=
          ⟨(hBa.cell (p := ⟨g, K * 4, none⟩) hg2).trans r0, (hBa.cell (p := ⟨g, K * 4 + 1, none⟩) hg2).trans r1, (hBa.cell (p := ⟨g, K * 4 + 3, none⟩) hg2).trans r3⟩
        go_wp2_with fail
        refine ⟨hSA, ?_⟩
        refine wpAnyH_all (rs := [18]) (by kernel_rfl) (by simp) ?_
        intro j hj
        obtain rfl : j = 18 := by simpa using hj
        refine wpOp_of_list _ rfl rfl ?_
        go_simp
        have hownA : (w2.drew.alloc (.cells #[.int .i64 (x.to : Int), .int .i64 (x.due : Int), .slice (some ⟨bg, 0, none⟩) bn bc] 91)).ownsRow w.heap.size 91 3 v3 pre.length (rous L pre) := owns_same (unhide HOA) (fun k hk => hBa.block k (by have := (unhide HOA).lt k hk; omega))
        have hnews : ∀ j u, ([.int .i64 (x.to : Int), .int .i64 (x.due : Int), .slice (some ⟨bg, 0, none⟩) bn bc] : List Value)[j]? = some u → (w2.drew.alloc (.cells #[.int .i64 (x.to : Int), .int .i64 (x.due : Int), .slice (some ⟨bg, 0, none⟩) bn bc] 91)).cell? ((⟨w2.heap.size, 0, none⟩ : Addr).add j) = some u := fun j u hj => by
          have hb := Blk.new w2.drew #[.int .i64 (x.to : Int), .int .i64 (x.due : Int), .slice (some ⟨bg, 0, none⟩) bn bc] 91
          rw [Addr.add_mid, Nat.zero_add, show w2.heap.size = w2.drew.heap.size from rfl, hb.cell]
          simpa using hj
        have hzz : w.heap.size ≤ w2.heap.size := by have := (unhide HB2).size; have := (unhide HR).2.2.1.size; omega
        refine wpList_append_own_at (w2.drew.alloc (.cells #[.int .i64 (x.to : Int), .int .i64 (x.due : Int), .slice (some ⟨bg, 0, none⟩) bn bc] 91)) rfl (.tmp 16) (.tmp 33) 88 rfl w.heap.size 91 i8 _ 3 40 Tryz.underlying88 hi8 hz0 hz1 hz2 rfl (by decide) v3 _ _ rfl hownA ⟨w2.heap.size, 0, none⟩ 1 1 ([.int .i64 (x.to : Int), .int .i64 (x.due : Int), .slice (some ⟨bg, 0, none⟩) bn bc]) rfl rfl hnews (by simp [Value.oneCell']) (by unfold maxLen; omega) (by omega) (by simp; omega) ?_
        intro v' w3 hown3 hg3 hnil3 hloc3
        have hg' : w2.grownBy w3 v3.ownBlock := ⟨hg3.os.trans hBa.os, hg3.tape.trans hBa.tape, hg3.output.trans hBa.output, Nat.le_trans hBa.size hg3.size, fun k hk hne => (hg3.block k (by have := hBa.size; omega) hne).trans (hBa.block k hk)⟩
        have hloc : v'.ownBlock = v3.ownBlock ∨ v'.ownBlock = some (w2.heap.size + 1) := hloc3.imp id (fun e => by rw [e]; simp)
        have hgn : v3.ownBlock ≠ some g := fun e => (unhide HR).2.2.2.1 g e rfl
        have hw3 : w3.heap[g]? = w2.heap[g]? := hg'.block g hg2 (fun e => hgn e.symm)
        refine ⟨⟨(World.cell?_of_block (a := ⟨g, K * 4, none⟩) hw3).trans r0, (World.cell?_of_block (a := ⟨g, K * 4 + 1, none⟩) hw3).trans r1, (World.cell?_of_block (a := ⟨g, K * 4 + 3, none⟩) hw3).trans r3⟩, ⟨by kernel_rfl, ?_⟩⟩
        have HZ := hide (And.intro hown3 (And.intro hg' hloc))
        clear hown3 hg3 hnil3 hloc3 hg' hloc hw3 hownA hnews hBa hSA
        change wpList _ _ _ _ _ _
        go_wp2_with fail
        refine NoPanic.normal ?_
        go_wp2_with fail
        go_meet
        case rel => exact unhide HZ
      case rest =>
        obtain ⟨hox, hgx, hlx⟩ := hcut
        have hzz : w.heap.size ≤ w2.heap.size := by have := (unhide HB2).size; have := (unhide HR).2.2.1.size; omega
        have hgn : v3.ownBlock ≠ some g := fun e => (unhide HR).2.2.2.1 g e rfl
        have hg2 : g < w2.heap.size := by have := (unhide HB2).size; omega
        have ho4x : wc.ownsRow 0 76 4 (.slice (some ⟨g, 0, none⟩) l.length cap) l.length (rfls L l) := owns_same (unhide HR).2.1 (fun k hk => by
          have : g = k := by simpa [Value.ownBlock] using hk
          subst this
          exact (hgx.block g hg2 (fun e => hgn e.symm)).trans ((unhide HB2).block g hgl))
        have hwc := without_any K 0 g cap L l wc ho4x (fun f hf => by obtain ⟨_, _, _, e⟩ := unhide HO f (unhide HSub f hf); rw [e]; rfl) (by omega)
        have hbx : Below w.heap.size w wc := (((unhide HR).2.2.1.trans ((unhide HB2).mono (unhide HR).2.2.1.size))).trans ⟨hgx.os, hgx.tape, hgx.output, hgx.size, fun q hq => hgx.block q (by omega) (fun e => by have := ((unhide HOA).lt q e.symm).1; omega)⟩
        have HX := hide (And.intro hox (And.intro hlx hbx))
        clear hox hgx hlx hbx ho4x hgn r0 r1 r3
        obtain ⟨v5, hv5⟩ : ∃ v, v = u3 := ⟨_, rfl⟩
        subst hv5
        go_wp2_with fail
        refine hwc.mono ?_
        clear hwc
        rintro e w6 ⟨v6, rfl, ho6, hb6⟩
        have H6 := hide (And.intro ho6 hb6)
        clear ho6 hb6
        go_wp2_with fail
        go_roundw
        case rel =>
          obtain ⟨hK, hx, hX⟩ := unhide HK
          obtain ⟨hox, hlx, hbx⟩ := unhide HX
          obtain ⟨ho6, hb6⟩ := unhide H6
          have hel : (l.eraseIdx K).length + 1 = l.length := by rw [List.length_eraseIdx_of_lt hkl]; omega
          have hperm : pre.length + 1 ≤ m.flights.length := by
            have e1 := congrArg List.length (unhide HR).2.2.2.2
            rw [unhide HS] at e1
            simp only [List.length_append, List.length_cons] at e1
            have e2 := (outM_perm m.flights).length_eq
            omega
          refine ⟨pre ++ [x], l.eraseIdx K, ?_, owns_base ho6 (Nat.zero_le _), ?_, fun f hf => unhide HSub f (List.mem_of_mem_eraseIdx hf), by omega, by simp; omega, fun k hk => ?_, hbx.trans (hb6.mono hbx.size)⟩
          · rw [List.length_append, rous_append]
            have : wc.ownsRow w.heap.size 91 3 v5 (pre.length + 1) (rous L pre ++ rous L [x]) := by rw [← hX] at hox; simpa [rous] using hox
            exact owns_same this (fun k hk => hb6.block k (this.lt k hk).2)
          · rw [List.append_assoc, ← (unhide HR).2.2.2.2, unhide HS, hK, hx]; rfl
          · intro e
            have h1 := (ho6.lt k e).1
            have h2 := (hox.lt k hk).2
            omega
        case measure =>
          have hel : (l.eraseIdx K).length + 1 = l.length := by rw [List.length_eraseIdx_of_lt hkl]; omega
          obtain ⟨a6, c6, e6⟩ := own_nil (unhide H6).1
          subst e6
          simp [lenOf]; omega
end Go.Proofs.YtandblanpafjoaaGreatDoor

namespace Go.Proofs.YtandblanpafjoaaGreatDoor
open Go.RowKit Go.Extern.Stop Go.Stop Go.Extern
def RLoc.fly (L : RLoc) (v : Value) (num : Nat) (b : Value) : RLoc := { L with flv := v, fb := fun i => if i = num then b else L.fb i }
theorem rfls_fly (L : RLoc) (v b : Value) (num : Nat) (l : List FlyM) (h : ∀ f ∈ l, f.num < num) : rfls (L.fly v num b) l = rfls L l := by
  unfold rfls
  induction l with
  | nil => rfl
  | cons a l ih =>
    simp only [List.flatMap_cons]
    rw [ih (fun f hf => h f (by simp [hf]))]
    have := h a (by simp)
    simp [rflC, RLoc.fly, Nat.ne_of_lt this]
theorem RNet.flown {w w' : World} {ro ro' : Nat → RR} {nb q : Nat} {m : NetM} {L : RLoc} {v bv : Value} {b : List Int} (h : RNet w ro nb m L) (hlag : 0 ≤ m.lag) (hK : Keep ro ro' (fun r => r = .net ∨ r = .fls) w w') (hz : w.heap.size ≤ w'.heap.size) (hlt : ∀ k, ro' k ≠ .none → k < w'.heap.size)
    (hnet : BlkR w' ro' .net nb (rnC (L.fly v m.sent bv) (m.put1 q b)) 73) (hfls : Owns w' ro' .fls 76 4 v (m.flights.length + 1) (rfls L m.flights ++ [.int .i64 (q : Int), .int .i64 ((m.now + m.lag.toNat : Nat) : Int), .int .i64 (m.sent : Int), bv])) (hb : BytesR w' ro' bv b) :
    RNet w' ro' nb (m.put1 q b) (L.fly v m.sent bv) := by
  have hfl : (m.put1 q b).flights = m.flights ++ [{ «to» := q, due := m.now + m.lag.toNat, num := m.sent, bytes := b }] := by unfold NetM.put1; simp only [if_pos hlag]
  exact { n2 := h.n2, n4 := h.n4, lt := hlt, net := hnet, lags := hK.own h.lags (by simp) (by simp), peers := hK.own h.peers (by simp) (by simp), peer := fun p hp => hK.blk (h.peer p hp) (by simp) (by simp), known := fun p hp => hK.own (h.known p hp) (by simp) (by simp), acked := fun p hp => hK.blk (h.acked p hp) (by simp) (by simp), list := fun p q hp hq => hK.own (h.list p q hp hq) (by simp) (by simp)
          fls := by
            rw [hfl, List.length_append]
            have e : (m.flights ++ [({ «to» := q, due := m.now + m.lag.toNat, num := m.sent, bytes := b } : FlyM)]).flatMap (rflC (L.fly v m.sent bv)) = rfls L m.flights ++ [.int .i64 (q : Int), .int .i64 ((m.now + m.lag.toNat : Nat) : Int), .int .i64 (m.sent : Int), bv] := by
              rw [List.flatMap_append]
              have := rfls_fly L v bv m.sent m.flights h.nums
              unfold rfls at this
              rw [this]
              simp [rfls, rflC, RLoc.fly]
            rw [e]; exact hfls
          bytes := fun f hf => by
            rw [hfl] at hf
            rcases List.mem_append.1 hf with hf | hf
            · have e : (L.fly v m.sent bv).fb f.num = L.fb f.num := by have := h.nums f hf; simp [RLoc.fly, Nat.ne_of_lt this]
              rw [e]; exact hK.byt hz (h.bytes f hf) (by simp)
            · simp only [List.mem_singleton] at hf
              subst hf
              simpa [RLoc.fly] using hb
          nums := fun f hf => by
            rw [hfl] at hf
            show f.num < m.sent + 1
            rcases List.mem_append.1 hf with hf | hf
            · have := h.nums f hf; omega
            · simp only [List.mem_singleton] at hf
              subst hf; simp }
theorem RNet.lost {w w' : World} {ro : Nat → RR} {nb q : Nat} {m : NetM} {L : RLoc} {b : List Int} (h : RNet w ro nb m L) (hlag : ¬ 0 ≤ m.lag) (hK : Keep ro ro (fun r => r = .net) w w') (hz : w.heap.size ≤ w'.heap.size)
    (hnet : BlkR w' ro .net nb (rnC L (m.put1 q b)) 73) : RNet w' ro nb (m.put1 q b) L := by
  have hfl : (m.put1 q b).flights = m.flights := by unfold NetM.put1; simp only [if_neg hlag]
  exact { n2 := h.n2, n4 := h.n4, lt := fun k hk => Nat.lt_of_lt_of_le (h.lt k hk) hz, net := hnet, lags := hK.own h.lags (by simp) (by simp), peers := hK.own h.peers (by simp) (by simp), peer := fun p hp => hK.blk (h.peer p hp) (by simp) (by simp), known := fun p hp => hK.own (h.known p hp) (by simp) (by simp), acked := fun p hp => hK.blk (h.acked p hp) (by simp) (by simp), list := fun p q hp hq => hK.own (h.list p q hp hq) (by simp) (by simp)
          fls := by rw [hfl]; exact hK.own h.fls (by simp) (by simp)
          bytes := fun f hf => hK.byt hz (h.bytes f (by rw [hfl] at hf; exact hf)) (by simp)
          nums := fun f hf => by
            rw [hfl] at hf
            have := h.nums f hf
            show f.num < m.sent + 1
            omega }
end Go.Proofs.YtandblanpafjoaaGreatDoor

