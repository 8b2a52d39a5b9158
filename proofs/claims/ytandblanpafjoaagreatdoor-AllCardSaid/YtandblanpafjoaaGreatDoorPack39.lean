import Derived.Test.YtandblanpafjoaaGreatDoorPack38
namespace Go.Proofs.YtandblanpafjoaaGreatDoor
open Go.RowKit Go.Extern.Stop Go.Stop Go.Extern
theorem learn_learn (x : PeerM) (q : Nat) (a b : List Int) : (x.learn q a).learn q b = x.learn q b := by
  unfold PeerM.learn
  congr 1
  funext i
  by_cases e : i = q <;> simp [e]
set_option maxRecDepth 10000 in
set_option maxHeartbeats 8000000 in
theorem rtake_yes (nb p b o n' c : Nat) (l : List Int) (ro : Nat → RR) (m : NetM) (w : World) (h : RNetAt w ro nb m) (hp : p < m.players) (hok : POk (m.peers p) p m.players m.window m.delay) (hl : l.length = n') (hn : n' ≤ 70000) (hcap : n' ≤ c) (hr : ∀ j : Nat, 0 ≤ l.getD j 0 ∧ l.getD j 0 ≤ 255) (hc : ∀ j, j < n' → w.cell? ⟨b, o + j, none⟩ = some (.int .u8 (l.getD j 0))) (hbl : b < w.heap.size) (hyes : m.takes p l) :
    Calls Tryz.prog 37 #[.pointer (some ⟨nb, 0, none⟩), .int .i64 (p : Int), .slice (some ⟨b, o, none⟩) n' c] w fun e w' => e = .returned (.bool (m.take p l).1) ∧ ∃ ro', RNetAt w' ro' nb (m.take p l).2 ∧ RTo w ro w' ro' := by
  have htk : m.take p l = (true, m.put p (taken (m.peers p) (fromL l).toNat (startL l).toNat (ackL l).toNat (inputsL l))) := by unfold NetM.take; rw [if_pos hyes]
  rw [htk]
  clear htk
  obtain ⟨L, h⟩ := h
  obtain ⟨i8, hi8, hz0, hz1, hz2'⟩ := info_parts Tryz.infoI64
  have hn4 := h.n4
  have c5 : w.cell? ⟨nb, 5, none⟩ = some (.slice (some ⟨L.prb, 0, none⟩) m.players L.prc) := h.cell 5
  have cp := h.ptr p hp
  have p0 : (0 : Int) ≤ (p : Int) := by omega
  have p1 : (p : Int) < (m.players : Int) := by omega
  have hcall := runp_any b o n' c l w hl hn hcap hr hc hbl
  obtain ⟨hOk, y1, y2, y3, y4, y5⟩ := hyes
  have hg := hOk.2
  obtain ⟨F, hF⟩ : ∃ F : Nat, fromL l = (F : Int) := ⟨(fromL l).toNat, by have := hg.1.1; omega⟩
  obtain ⟨S, hS⟩ : ∃ S : Nat, startL l = (S : Int) := ⟨(startL l).toNat, by have := hg.2.1.1; omega⟩
  obtain ⟨A, hA⟩ : ∃ A : Nat, ackL l = (A : Int) := ⟨(ackL l).toNat, by have := hg.2.2.1.1; omega⟩
  have hil := inputsL_len8 hOk
  obtain ⟨K, hK⟩ : ∃ K, l.length - 8 = K := ⟨_, rfl⟩
  have hK64 : K ≤ 64 := by rw [← hK]; exact hg.2.2.2
  rw [hF] at y1 y2 y3
  rw [hS] at y3 y4
  rw [hA] at y5
  rw [hil, hK] at y4
  rw [Int.toNat_natCast] at y3
  rw [hF, hS, hA]
  simp only [Int.toNat_natCast]
  have hin : ∀ j : Nat, 0 ≤ (inputsL l).getD j 0 ∧ (inputsL l).getD j 0 ≤ 255 := fun j => by
    by_cases hj : j < (inputsL l).length
    · have e : (inputsL l).getD j 0 = l.getD (7 + j) 0 := by
        unfold inputsL at hj ⊢
        rw [List.length_take, List.length_drop] at hj
        rw [List.getD_eq_getElem?_getD, List.getElem?_take, if_pos (by omega), List.getElem?_drop, ← List.getD_eq_getElem?_getD]
      rw [e]; exact hr _
    · rw [getD_out _ _ (by omega)]; omega
  obtain ⟨ins, hins⟩ : ∃ ins, inputsL l = ins := ⟨_, rfl⟩
  rw [hins] at hil hin hcall ⊢
  rw [hK] at hil
  rw [hF, hS, hA, hK] at hcall
  have HN := hide h
  have HP := hide hok
  have HI := hide hin
  have hz := Tryz.zeroPk
  clear h hok hr hc hin hins hg hF hS hA hK
  go_enter Tryz.func37, Tryz.ntmps37
  go_wp2_with fail
  refine hcall.mono ?_
  clear hcall
  rintro e w2 ⟨hb2, ⟨hb, _⟩ | ⟨_, ao, c2, rfl, hc0, hsrc, hso⟩⟩
  · exact absurd hOk hb
  clear hOk
  have hsz : (Tryz.prog.info? 130).map (·.size) = some (#[.int .i64 (F : Int), .int .i64 (S : Int), .int .i64 (A : Int), .slice ao K c2] : Array Value).size := Tryz.sizePk
  have xA : Blk (w2.alloc (.cells Z4 130)) w2.heap.size Z4 130 := Blk.new _ _ _
  have bA : Below w2.heap.size w2 ((w2.alloc (.cells Z4 130)).setRow w2.heap.size #[.int .i64 (F : Int), .int .i64 (S : Int), .int .i64 (A : Int), .slice ao K c2]) := below_setRow ((Below.refl _ w2).alloc (Nat.le_refl _) _) (Nat.le_refl _) _
  have xB : Blk ((w2.alloc (.cells Z4 130)).setRow w2.heap.size #[.int .i64 (F : Int), .int .i64 (S : Int), .int .i64 (A : Int), .slice ao K c2]) w2.heap.size #[.int .i64 (F : Int), .int .i64 (S : Int), .int .i64 (A : Int), .slice ao K c2] 130 := xA.setRow _
  have H2 := hide (And.intro hb2 (And.intro bA (And.intro xB (And.intro hsrc hso))))
  clear c5 cp hb2 bA xB hsrc hso
  unfold Z4 at xA
  go_upto_region 3 with (refine wpList_store_blk rfl 130 _ _ rfl w2.heap.size 130 _ #[.int .i64 (F : Int), .int .i64 (S : Int), .int .i64 (A : Int), .slice ao K c2] rfl rfl xA hsz rfl (by simp [Value.oneCell']) ?_)
  obtain ⟨W, hW⟩ : ∃ x, x = (w2.alloc (.cells Z4 130)).setRow w2.heap.size #[.int .i64 (F : Int), .int .i64 (S : Int), .int .i64 (A : Int), .slice ao K c2] := ⟨_, rfl⟩
  unfold Z4 at hW
  rw [← hW]
  unfold Z4 at H2
  rw [← hW] at H2
  obtain ⟨hb2, bA, xB, hsrc, hso⟩ := unhide H2
  have hBW : Below w.heap.size w W := hb2.trans (bA.mono hb2.size)
  have hNW := (unhide HN).below hBW
  have HBW := hide (And.intro hBW hNW)
  have HPK := hide (And.intro xB (And.intro (hsrc.below (Nat.le_refl _) bA) (And.intro hso (And.intro hb2.size xB.lt))))
  clear hW xA hsz hz H2 bA hb2 hsrc hso
  go_cut [82] from 18 (fun s82 wx => s82 = .bool false ∧ Below W.heap.size W wx)
  case first =>
      have x0 : W.cell? ⟨w2.heap.size, 0, none⟩ = some (.int .i64 (F : Int)) := xB.cell 0
      have x1 : W.cell? ⟨w2.heap.size, 1, none⟩ = some (.int .i64 (S : Int)) := xB.cell 1
      have x2 : W.cell? ⟨w2.heap.size, 2, none⟩ = some (.int .i64 (A : Int)) := xB.cell 2
      have x3 : W.cell? ⟨w2.heap.size, 3, none⟩ = some (.slice ao K c2) := xB.cell 3
      have hdl := (unhide HP).delay
      have n0 : W.cell? ⟨nb, 0, none⟩ = some (.int .i64 (m.players : Int)) := hNW.cell 0
      have n2 : W.cell? ⟨nb, 2, none⟩ = some (.int .i64 (m.delay : Int)) := hNW.cell 2
      have ck : W.cell? ⟨L.pb p, 0, none⟩ = some (.slice (some ⟨L.kb p, 0, none⟩) m.players (L.kc p)) := hNW.pcell p hp 0
      have ckp := hNW.kcell p p hp hp
      have ckF := hNW.kcell p F hp (by omega)
      have hSl := (unhide HP).len F (by omega)
      have w1a : IntKind.i64.wrap ((S : Int) + (K : Int)) = (S : Int) + (K : Int) := i64_id _ (by omega) (by omega)
      have w1b : IntKind.i64.wrap (200 + (m.delay : Int)) = 200 + (m.delay : Int) := i64_id _ (by omega) (by omega)
      have t1 : ¬ F = p := by omega
      have t2 : ¬ m.players ≤ F := by omega
      have t3 : ¬ ((m.peers p).known F).length < S := by omega
      have t4 : ¬ 200 + m.delay < S + K := by omega
      have t5 : ¬ ((m.peers p).known p).length < A := by omega
      clear xB hNW hBW
      have d1 : ((F : Int) == (p : Int)) = false := by simp; omega
      have d1' : ((F : Int) = (p : Int)) = False := by simp; omega
      have d2 : decide ((m.players : Int) ≤ (F : Int)) = false := by simp; omega
      have F0 : (0 : Int) ≤ (F : Int) := by omega
      have F1 : (F : Int) < (m.players : Int) := by omega
      have d3 : decide ((((m.peers p).known F).length : Int) < (S : Int)) = false := by simp; omega
      have d4 : decide (200 + (m.delay : Int) < (S : Int) + (K : Int)) = false := by simp; omega
      have d5 : decide ((((m.peers p).known p).length : Int) < (A : Int)) = false := by simp; omega
      clear y1 y2 y3 y4 y5
      go_quiet (fail)
      go_wp2_with fail
      go_meet
      case rel => exact ⟨rfl, ⟨rfl, rfl, rfl, Nat.le_refl _, fun _ _ => rfl⟩⟩
  case rest =>
    obtain ⟨rfl, hbx⟩ := hcut
    obtain ⟨W2, hW2⟩ : ∃ x, x = wc := ⟨_, rfl⟩
    subst hW2
    have hNx := (unhide HBW).2.below hbx
    have hBx : Below w.heap.size w W2 := (unhide HBW).1.trans (hbx.mono (unhide HBW).1.size)
    obtain ⟨xB', hsrcW, hso, hz2, hpkl⟩ := unhide HPK
    have xP : Blk W2 w2.heap.size #[.int .i64 (F : Int), .int .i64 (S : Int), .int .i64 (A : Int), .slice ao K c2] 130 := (hbx.block _ hpkl).trans xB'
    have hsrcX : SrcAt W2 ao ins := hsrcW.below (Nat.le_refl _) hbx
    have HSX := hide hsrcX
    have hzX := hbx.size
    have HX := hide (And.intro hNx (And.intro hBx (And.intro xP hso)))
    have hpk2 : w2.heap.size < W2.heap.size := by omega
    have hFn : F < m.players := by omega
    have hFp : F ≠ p := by omega
    have hSl : S ≤ ((m.peers p).known F).length := by omega
    have hlF := (unhide HP).len F hFn
    have x3W : W2.cell? ⟨w2.heap.size, 3, none⟩ = some (.slice ao K c2) := xP.cell 3
    clear hNx hBx xP hso hsrcX hsrcW xB' hpkl hbx HPK HBW hBW hNW xB
    go_wp2_with fail
    clear x3W
    go_loopw [10] (fun s wr => ∃ (i : Nat) (ro2 : Nat → RR) (L2 : RLoc), i ≤ K ∧ s = .int .i64 (i : Int) ∧ RNet wr ro2 nb (m.put p ((m.peers p).learn F (learntTo ((m.peers p).known F) S ins i))) L2 ∧ L2.pb p = L.pb p ∧ RTo w ro wr ro2 ∧ (∀ k, w.heap.size ≤ k → k < W2.heap.size → wr.heap[k]? = W2.heap[k]? ∧ ro2 k = .none) ∧ W2.heap.size ≤ wr.heap.size) (fun s _ => K - (intOf s).toNat)
    case atStart =>
      obtain ⟨hNx, hBx, _⟩ := unhide HX
      refine ⟨0, ro, L, by omega, rfl, ?_, rfl, RTo.ofBelow hBx, fun k hk _ => ⟨rfl, ?_⟩, Nat.le_refl _⟩
      · have e : m.put p ((m.peers p).learn F (learntTo ((m.peers p).known F) S ins 0)) = m := by
          rw [learntTo_zero]
          have e1 : (m.peers p).learn F ((m.peers p).known F) = m.peers p := by
            unfold PeerM.learn
            have : (fun i => if i = F then (m.peers p).known F else (m.peers p).known i) = (m.peers p).known := by funext i; split <;> simp_all
            rw [this]
          rw [e1]
          unfold NetM.put
          have : (fun i => if i = p then m.peers p else m.peers i) = m.peers := by funext i; split <;> simp_all
          rw [this]
        rw [e]; exact hNx
      · by_cases e : ro k = .none
        · exact e
        · have := (unhide HN).lt k e; omega
    case round =>
      obtain ⟨i, ro2, L2, hi, rfl, hQ, hpb, hR, hkeep, hzr⟩ := hrel
      obtain ⟨hNx, hBx, xP, hso⟩ := unhide HX
      have xPr : Blk wr w2.heap.size #[.int .i64 (F : Int), .int .i64 (S : Int), .int .i64 (A : Int), .slice ao K c2] 130 := (hkeep _ hz2 hpk2).1.trans xP
      have x0 : wr.cell? ⟨w2.heap.size, 0, none⟩ = some (.int .i64 (F : Int)) := xPr.cell 0
      have x1 : wr.cell? ⟨w2.heap.size, 1, none⟩ = some (.int .i64 (S : Int)) := xPr.cell 1
      have x2 : wr.cell? ⟨w2.heap.size, 2, none⟩ = some (.int .i64 (A : Int)) := xPr.cell 2
      have x3 : wr.cell? ⟨w2.heap.size, 3, none⟩ = some (.slice ao K c2) := xPr.cell 3
      have hlen := learntTo_len ((m.peers p).known F) S ins i hSl (by omega)
      have ck : wr.cell? ⟨L.pb p, 0, none⟩ = some (.slice (some ⟨L2.kb p, 0, none⟩) m.players (L2.kc p)) := by rw [← hpb]; exact hQ.pcell p hp 0
      have ckF : wr.cell? ⟨L2.kb p, F, none⟩ = some (.slice (some ⟨L2.lb p F, 0, none⟩) (learntTo ((m.peers p).known F) S ins i).length (L2.lc p F)) := by
        have := hQ.kcell p F hp hFn
        simpa [mput_at, PeerM.learn] using this
      have F0 : (0 : Int) ≤ (F : Int) := by omega
      have F1 : (F : Int) < (m.players : Int) := by omega
      have hwS : IntKind.i64.wrap ((S : Int) + (i : Int)) = (S : Int) + (i : Int) := i64_id _ (by omega) (by omega)
      have hadd : IntKind.i64.wrap ((i : Int) + 1) = (i : Int) + 1 := i64_id _ (by omega) (by omega)
      have HQ := hide (And.intro hQ (And.intro hpb (And.intro hR (And.intro hkeep hzr))))
      clear hQ hR hkeep hNx hBx xP hso xPr hpb
      by_cases hlt : i < K
      · have hd : decide ((i : Int) < (K : Int)) = true := by simp; omega
        by_cases hgo : S + i = (learntTo ((m.peers p).known F) S ins i).length
        · have hq : (((S : Int) + (i : Int)) == ((learntTo ((m.peers p).known F) S ins i).length : Int)) = true := by rw [beq_iff_eq]; omega
          have hq2 : (S : Int) + (i : Int) = ((learntTo ((m.peers p).known F) S ins i).length : Int) := by omega
          have hmore := learntTo_more ((m.peers p).known F) S ins i hSl (by omega) hgo
          obtain ⟨bb, bo, hao, hbb, hbc⟩ : ∃ bb bo, ao = some ⟨bb, bo, none⟩ ∧ (w.heap.size ≤ bb ∧ bb < W2.heap.size) ∧ wr.cell? ⟨bb, bo + i, none⟩ = some (.int .u8 (ins.getD i 0)) := by
            rcases unhide HSX with ⟨_, e⟩ | ⟨bb, bo, e, hb1, hb2⟩
            · rw [e] at hil; simp at hil; omega
            · have hge := (unhide HX).2.2.2 bb (by rw [e]; rfl)
              exact ⟨bb, bo, e, ⟨hge, hb1⟩, (World.cell?_of_block (a := ⟨bb, bo + i, none⟩) ((unhide HQ).2.2.2.1 bb hge hb1).1).trans (hb2 i (by omega))⟩
          obtain ⟨x, hx⟩ : ∃ x, ins.getD i 0 = x := ⟨_, rfl⟩
          have hx2 := (unhide HI) i
          rw [hx] at hx2 hbc hmore
          obtain ⟨l0, hl0⟩ : ∃ l0, learntTo ((m.peers p).known F) S ins i = l0 := ⟨_, rfl⟩
          rw [hl0] at HQ ckF hgo hmore hlen hq hq2
          have HM := hide hmore
          subst hao
          have i0 : (0 : Int) ≤ (i : Int) := by omega
          have i1 : (i : Int) < (K : Int) := by omega
          have hcv : IntKind.i64.wrap x = x := i64_id _ (by omega) (by omega)
          have hl0b : l0.length ≤ 1000 := by omega
          clear hmore hl0 hx hgo hlen
          go_upto_region 9 with fail
          go_quiet (fail)
          go_upto_region 10 with fail
          obtain ⟨V, hV⟩ : ∃ V, V = wr.drewN nq := ⟨_, rfl⟩
          rw [← hV]
          have hBV : Below wr.heap.size wr V := by rw [hV]; exact ⟨rfl, rfl, rfl, Nat.le_refl _, fun _ _ => rfl⟩
          have hVz : V.heap.size = wr.heap.size := by rw [hV]; rfl
          replace ck : V.cell? ⟨L.pb p, 0, none⟩ = some (.slice (some ⟨L2.kb p, 0, none⟩) m.players (L2.kc p)) := by rw [hV]; exact ck
          replace ckF : V.cell? ⟨L2.kb p, F, none⟩ = some (.slice (some ⟨L2.lb p F, 0, none⟩) l0.length (L2.lc p F)) := by rw [hV]; exact ckF
          replace x0 : V.cell? ⟨w2.heap.size, 0, none⟩ = some (.int .i64 (F : Int)) := by rw [hV]; exact x0
          replace x3 : V.cell? ⟨w2.heap.size, 3, none⟩ = some (.slice (some ⟨bb, bo, none⟩) K c2) := by rw [hV]; exact x3
          replace hbc : V.cell? ⟨bb, bo + i, none⟩ = some (.int .u8 x) := by rw [hV]; exact hbc
          obtain ⟨hQ, hpb, hR, hkeep, hzr⟩ := unhide HQ
          have hNV := hQ.below hBV
          have hRV : RTo w ro V ro2 := hR.trans (RTo.ofBelow hBV)
          have hkV : ∀ k, w.heap.size ≤ k → k < W2.heap.size → V.heap[k]? = W2.heap[k]? ∧ ro2 k = .none := fun k h1 h2 => ⟨(hBV.block k (by omega)).trans (hkeep k h1 h2).1, (hkeep k h1 h2).2⟩
          have hzV : W2.heap.size ≤ V.heap.size := by omega
          clear hV hQ hR hkeep HQ x1 x2 hq hq2 hBV
          have hown := (hNV.list p F hp hFn).1
          simp only [rlV, mput_at, PeerM.learn, if_pos] at hown
          have hkl := ((hNV.known p hp).1.lt (L2.kb p) rfl).2
          have hbl := (hNV.peer p hp).1.lt
          rw [hpb] at hbl
          have hrl := (hNV.list p F hp hFn).2 (L2.lb p F) rfl
          have hrk := (hNV.known p hp).2 (L2.kb p) rfl
          have hrp := (hNV.peer p hp).2
          rw [hpb] at hrp
          have hne1 : L.pb p ≠ L2.lb p F := fun e => by rw [← e, hrp] at hrl; cases hrl
          have hne2 : L2.kb p ≠ L2.lb p F := fun e => by rw [← e, hrk] at hrl; cases hrl
          have hne3 : w2.heap.size ≠ L2.lb p F := fun e => by have := (hkV _ hz2 hpk2).2; rw [e, hrl] at this; cases this
          have hne4 : bb ≠ L2.lb p F := fun e => by have := (hkV _ hbb.1 hbb.2).2; rw [e, hrl] at this; cases this
          have fk := (hNV.known p hp).1.frozenAt F
          have HNV := hide (And.intro hNV (And.intro hRV (And.intro hkV (And.intro hzV hVz))))
          have HOW := hide hown
          have HR3 := hide (And.intro hrl (And.intro hrk hrp))
          have HPB := hide hpb
          clear hNV hRV hown hkV hrl hrk hrp hpb hVz
          refine wp_region_noPanic ?_
          refine wp_held_tail 20 22 (fun W' => W'.cell? ⟨L.pb p, 0, none⟩ = some (.slice (some ⟨L2.kb p, 0, none⟩) m.players (L2.kc p)) ∧ W'.cell? ⟨L2.kb p, F, none⟩ = some (.slice (some ⟨L2.lb p F, 0, none⟩) l0.length (L2.lc p F)) ∧ W'.cell? ⟨w2.heap.size, 0, none⟩ = some (.int .i64 (F : Int)) ∧ W'.cell? ⟨w2.heap.size, 3, none⟩ = some (.slice (some ⟨bb, bo, none⟩) K c2) ∧ W'.cell? ⟨bb, bo + i, none⟩ = some (.int .u8 x)) (by kernel_rfl) (by decide) (by kernel_rfl) (by kernel_rfl) (by kernel_rfl) (fun _ _ _ _ _ h => h) ⟨ck, ckF, x0, x3, hbc⟩ ?_
          simp only [List.take_succ_cons, List.take_zero, List.drop_succ_cons, List.drop_zero]
          refine wpHeld_op ?y0 rfl ?z0 ?_
          case z0 => intro w' hS; obtain ⟨hS1, hS2, hS3, hS4, hS5⟩ := hS; go_simp; rfl
          refine wpHeld_op ?y1 rfl ?z1 ?_
          case z1 => intro w' hS; obtain ⟨hS1, hS2, hS3, hS4, hS5⟩ := hS; go_simp; rfl
          refine wpHeld_op ?y2 rfl ?z2 ?_
          case z2 => intro w' hS; obtain ⟨hS1, hS2, hS3, hS4, hS5⟩ := hS; go_simp; rfl
          refine wpHeld_op ?y3 rfl ?z3 ?_
          case z3 => intro w' hS; obtain ⟨hS1, hS2, hS3, hS4, hS5⟩ := hS; go_simp; rfl
          refine wpHeld_op ?y4 rfl ?z4 ?_
          case z4 => intro w' hS; obtain ⟨hS1, hS2, hS3, hS4, hS5⟩ := hS; go_simp; rfl
          refine wpHeld_op ?y5 rfl ?z5 ?_
          case z5 => intro w' hS; obtain ⟨hS1, hS2, hS3, hS4, hS5⟩ := hS; go_simp; rfl
          refine wpHeld_op ?y6 rfl ?z6 ?_
          case z6 => intro w' hS; obtain ⟨hS1, hS2, hS3, hS4, hS5⟩ := hS; go_simp; rfl
          refine wpHeld_op ?y7 rfl ?z7 ?_
          case z7 => intro w' hS; obtain ⟨hS1, hS2, hS3, hS4, hS5⟩ := hS; go_simp; rfl
          refine wpHeld_op ?y8 rfl ?z8 ?_
          case z8 => intro w' hS; obtain ⟨hS1, hS2, hS3, hS4, hS5⟩ := hS; go_simp; rfl
          refine wpHeld_op ?y9 rfl ?z9 ?_
          case z9 => intro w' hS; obtain ⟨hS1, hS2, hS3, hS4, hS5⟩ := hS; go_simp; rfl
          refine wpHeld_op ?y10 rfl ?z10 ?_
          case z10 => intro w' hS; obtain ⟨hS1, hS2, hS3, hS4, hS5⟩ := hS; go_simp; rfl
          refine wpHeld_op ?y11 rfl ?z11 ?_
          case z11 => intro w' hS; obtain ⟨hS1, hS2, hS3, hS4, hS5⟩ := hS; go_simp; rfl
          refine wpHeld_op ?y12 rfl ?z12 ?_
          case z12 => intro w' hS; obtain ⟨hS1, hS2, hS3, hS4, hS5⟩ := hS; go_simp; rfl
          refine wpHeld_op ?y13 rfl ?z13 ?_
          case z13 => intro w' hS; obtain ⟨hS1, hS2, hS3, hS4, hS5⟩ := hS; go_simp; rfl
          refine wpHeld_op ?y14 rfl ?z14 ?_
          case z14 => intro w' hS; obtain ⟨hS1, hS2, hS3, hS4, hS5⟩ := hS; go_simp; rfl
          refine wpHeld_op ?y15 rfl ?z15 ?_
          case z15 => intro w' hS; obtain ⟨hS1, hS2, hS3, hS4, hS5⟩ := hS; go_simp; rfl
          refine wpHeld_op ?y16 rfl ?z16 ?_
          case z16 => intro w' hS; obtain ⟨hS1, hS2, hS3, hS4, hS5⟩ := hS; go_simp; rfl
          refine wpHeld_op ?y17 rfl ?z17 ?_
          case z17 => intro w' hS; obtain ⟨hS1, hS2, hS3, hS4, hS5⟩ := hS; go_simp; rfl
          refine wpHeld_op ?y18 rfl ?z18 ?_
          case z18 => intro w' hS; obtain ⟨hS1, hS2, hS3, hS4, hS5⟩ := hS; go_simp; rfl
          refine wpHeld_op ?y19 rfl ?z19 ?_
          case z19 => intro w' hS; obtain ⟨hS1, hS2, hS3, hS4, hS5⟩ := hS; go_simp; rfl
          unfold wpHeld
          refine wpAnyH_all (rs := [20]) (by kernel_rfl) (by simp) ?_
          intro jj hjj
          obtain rfl : jj = 20 := by simpa using hjj
          refine wpOp_of_list _ rfl rfl ?_
          have hBa : Below V.heap.size V (V.drew.alloc (.cells #[.int .i64 x] 3)) := (Below.refl _ V).drew.alloc (Nat.le_refl _) _
          have hpkV : w2.heap.size < V.heap.size := by have := (unhide HNV).2.2.2.1; omega
          have hbbV : bb < V.heap.size := by have := (unhide HNV).2.2.2.1; omega
          go_wp2_with fail
          refine ⟨⟨(hBa.cell (p := ⟨L.pb p, 0, none⟩) hbl).trans ck, (hBa.cell (p := ⟨L2.kb p, F, none⟩) hkl).trans ckF, (hBa.cell (p := ⟨w2.heap.size, 0, none⟩) hpkV).trans x0, (hBa.cell (p := ⟨w2.heap.size, 3, none⟩) hpkV).trans x3, (hBa.cell (p := ⟨bb, bo + i, none⟩) hbbV).trans hbc⟩, ?_⟩
          refine wpAnyH_all (rs := [21]) (by kernel_rfl) (by simp) ?_
          intro jj hjj
          obtain rfl : jj = 21 := by simpa using hjj
          refine wpOp_of_list _ rfl rfl ?_
          go_simp
          have hownA : (V.drew.alloc (.cells #[.int .i64 x] 3)).ownsRow 0 3 1 (.slice (some ⟨L2.lb p F, 0, none⟩) l0.length (L2.lc p F)) l0.length (l0.map (Value.int .i64)) := owns_same (unhide HOW) (fun k hk => hBa.block k (by have := (unhide HOW).lt k hk; omega))
          refine wpList_append_own_at (V.drew.alloc (.cells #[.int .i64 x] 3)) rfl (.tmp 124) (.tmp 131) 24 rfl 0 3 i8 _ 1 8 Tryz.underlying24 hi8 hz0 hz1 hz2' rfl (by decide) (.slice (some ⟨L2.lb p F, 0, none⟩) l0.length (L2.lc p F)) _ _ rfl hownA ⟨V.heap.size, 0, none⟩ 1 1 [.int .i64 x] rfl rfl (cell_one_new _ _ _) (by simp [Value.oneCell']) (by unfold maxLen; omega) (by omega) (Nat.zero_le _) ?_
          intro v' w3 hown3 hg3 hnil3 hloc3
          obtain ⟨g, c3, rfl, _, hg3l, _⟩ := own_some hown3 (by omega)
          have hold : ∀ k, k < V.heap.size → k ≠ L2.lb p F → w3.heap[k]? = V.heap[k]? := fun k hk hne => (hg3.block k (by have := hBa.size; omega) (fun e => hne (by simpa [Value.ownBlock] using e))).trans (hBa.block k hk)
          have hz3 : V.heap.size ≤ w3.heap.size := Nat.le_trans hBa.size hg3.size
          have hloc : g = L2.lb p F ∨ g = V.heap.size + 1 := hloc3.imp (fun e => by simpa [Value.ownBlock] using e) (fun e => by simpa [Value.ownBlock] using e)
          have k0 : w3.cell? ⟨L.pb p, 0, none⟩ = some (.slice (some ⟨L2.kb p, 0, none⟩) m.players (L2.kc p)) := (World.cell?_of_block (a := ⟨L.pb p, 0, none⟩) (hold _ hbl hne1)).trans ck
          have k1 : w3.cell? ⟨L2.kb p, F, none⟩ = some (.slice (some ⟨L2.lb p F, 0, none⟩) l0.length (L2.lc p F)) := (World.cell?_of_block (a := ⟨L2.kb p, F, none⟩) (hold _ hkl hne2)).trans ckF
          have kf : w3.frozen? ⟨L2.kb p, F, none⟩ = false := (World.frozen?_of_block (a := ⟨L2.kb p, F, none⟩) (hold _ hkl hne2)).trans fk
          refine ⟨⟨k0, k1, (World.cell?_of_block (a := ⟨w2.heap.size, 0, none⟩) (hold _ hpkV hne3)).trans x0, (World.cell?_of_block (a := ⟨w2.heap.size, 3, none⟩) (hold _ hpkV hne3)).trans x3, (World.cell?_of_block (a := ⟨bb, bo + i, none⟩) (hold _ hbbV hne4)).trans hbc⟩, ⟨by kernel_rfl, ?_⟩⟩
          have hN4 := (unhide HNV).1.push (p := p) (q := F) (l := l0 ++ [x]) (g := g) (c := c3) (M := V.heap.size + 1) hp hFn (by simpa using hown3) hold hz3 (by omega) hloc
          rw [put_put, mput_at] at hN4
          have hC4 : Chg (fun k => ro2 k ≠ .none) V (w3.setCell ⟨L2.kb p, F, none⟩ (.slice (some ⟨g, 0, none⟩) (l0.length + 1) c3)) :=
            ⟨hg3.os.trans hBa.os, hg3.tape.trans hBa.tape, hg3.output.trans hBa.output, by simpa using hz3, fun k hk hF => by
              rw [heap_setCell_other _ _ _ _ (fun e => hF (by rw [e, (unhide HR3).2.1]; simp))]
              exact hold k hk (fun e => hF (by rw [e, (unhide HR3).1]; simp))⟩
          have hR4 : RTo w ro (w3.setCell ⟨L2.kb p, F, none⟩ (.slice (some ⟨g, 0, none⟩) (l0.length + 1) c3)) (fun k => if k = g then .list p F else ro2 k) := by
            refine (unhide HNV).2.1.trans ⟨hC4, fun k hk hk2 => ?_⟩
            by_cases e : k = g
            · rcases hloc with e2 | e2
              · rw [e, e2, (unhide HR3).1]; simp
              · omega
            · rw [if_neg e] at hk2; exact hk2
          have hK4 : ∀ k, w.heap.size ≤ k → k < W2.heap.size → (w3.setCell ⟨L2.kb p, F, none⟩ (.slice (some ⟨g, 0, none⟩) (l0.length + 1) c3)).heap[k]? = W2.heap[k]? ∧ (if k = g then RR.list p F else ro2 k) = .none := fun k h1 h2 => by
            obtain ⟨e1, e2⟩ := (unhide HNV).2.2.1 k h1 h2
            have hkV : k < V.heap.size := by have := (unhide HNV).2.2.2.1; omega
            have n1 : k ≠ L2.lb p F := fun e => by rw [e, (unhide HR3).1] at e2; cases e2
            have n2 : k ≠ L2.kb p := fun e => by rw [e, (unhide HR3).2.1] at e2; cases e2
            refine ⟨by rw [heap_setCell_other _ _ _ _ n2, hold k hkV n1]; exact e1, ?_⟩
            rw [if_neg (fun e => by rcases hloc with e3 | e3; exact n1 (e.trans e3); omega)]; exact e2
          rw [List.length_append, List.length_cons, List.length_nil] at hN4
          have hz4 : W2.heap.size ≤ (w3.setCell ⟨L2.kb p, F, none⟩ (.slice (some ⟨g, 0, none⟩) (l0.length + 1) c3)).heap.size := by rw [World.size_setCell]; have := (unhide HNV).2.2.2.1; omega
          have H4 := hide (And.intro hN4 (And.intro hR4 (And.intro hK4 hz4)))
          clear hown3 hg3 hnil3 hloc3 hN4 hC4 hR4 hK4 hownA hBa hold hloc k0 hz4
          change wpList _ _ _ _ _ _
          go_wp2_with fail
          refine NoPanic.normal ?_
          go_wp2_with fail
          go_roundw
          case rel =>
            obtain ⟨hN4, hR4, hK4, hz4⟩ := unhide H4
            refine ⟨i + 1, _, L2.lay p F g c3, by omega, by go_num, ?_, unhide HPB, hR4, hK4, hz4⟩
            rw [unhide HM]
            rw [learn_learn] at hN4
            exact hN4
          case measure => simp [intOf]; omega
        · have hq : (((S : Int) + (i : Int)) == ((learntTo ((m.peers p).known F) S ins i).length : Int)) = false := by rw [beq_eq_false_iff_ne]; omega
          have hsame := learntTo_same ((m.peers p).known F) S ins i hSl (by omega) hgo
          have HS := hide hsame
          clear hsame
          go_upto_region 9 with fail
          go_quiet (fail)
          go_wp2_with fail
          go_roundw
          case rel =>
            obtain ⟨hQ, hpb, hR, hkeep, hzr⟩ := unhide HQ
            refine ⟨i + 1, ro2, L2, by omega, by go_num, ?_, hpb, hR.trans (RTo.ofBelow ⟨rfl, rfl, rfl, Nat.le_refl _, fun _ _ => rfl⟩), hkeep, hzr⟩
            rw [unhide HS]
            exact hQ.below ⟨rfl, rfl, rfl, Nat.le_refl _, fun _ _ => rfl⟩
          case measure => simp [intOf]; omega
      · have hd : decide ((i : Int) < (K : Int)) = false := by simp; omega
        have hiK : i = ins.length := by omega
        have hQ := (unhide HQ).1
        have hpb := (unhide HQ).2.1
        have ca : wr.cell? ⟨L.pb p, 2, none⟩ = some (.slice (some ⟨L2.ab p, 0, none⟩) m.players m.players) := by rw [← hpb]; exact hQ.pcell p hp 2
        have cb : wr.cell? ⟨L2.ab p, F, none⟩ = some (.int .i64 ((m.peers p).acked F : Int)) := by
          have := hQ.acell p F hp hFn
          simpa [mput_at, PeerM.learn] using this
        have cbf : wr.frozen? ⟨L2.ab p, F, none⟩ = false := (hQ.acked p hp).1.frozen F
        clear hQ hpb
        by_cases hga : (m.peers p).acked F < A
        · have dA : decide (((m.peers p).acked F : Int) < (A : Int)) = true := by simp; omega
          go_upto_region 11 with fail
          go_quiet (fail)
          go_upto_region 12 with fail
          go_region
          go_wp2_with fail
          go_ret
          obtain ⟨hQ, hpb, hR, hkeep, hzr⟩ := unhide HQ
          refine ⟨rfl, ro2, ⟨L2, ?_⟩, hR.trans ((RTo.mk (Chg.setCell wr (L2.ab p) F (.int .i64 (A : Int)) (by rw [(hQ.acked p hp).2]; simp)) (fun _ _ h => h)).trans (RTo.ofBelow ⟨rfl, rfl, rfl, Nat.le_refl _, fun _ _ => rfl⟩))⟩
          have hN := hQ.ackP (q := F) hp A
          rw [put_put, mput_at] at hN
          have e : taken (m.peers p) F S A ins = { (m.peers p).learn F (learntTo ((m.peers p).known F) S ins i) with acked := fun j => if j = F then A else ((m.peers p).learn F (learntTo ((m.peers p).known F) S ins i)).acked j } := by
            rw [hiK, learntTo_all]
            unfold taken
            have e2 : (fun j => if j = F then max ((m.peers p).acked F) A else (m.peers p).acked j) = fun j => if j = F then A else (m.peers p).acked j := by
              funext j
              split
              · omega
              · rfl
            rw [e2]; rfl
          rw [e]
          exact hN.below ⟨rfl, rfl, rfl, Nat.le_refl _, fun _ _ => rfl⟩
        · have dA : decide (((m.peers p).acked F : Int) < (A : Int)) = false := by simp; omega
          go_upto_region 11 with fail
          go_quiet (fail)
          go_wp2_with fail
          go_ret
          obtain ⟨hQ, hpb, hR, hkeep, hzr⟩ := unhide HQ
          refine ⟨rfl, ro2, ⟨L2, ?_⟩, hR.trans (RTo.ofBelow ⟨rfl, rfl, rfl, Nat.le_refl _, fun _ _ => rfl⟩)⟩
          have e : taken (m.peers p) F S A ins = (m.peers p).learn F (learntTo ((m.peers p).known F) S ins i) := by
            rw [hiK, learntTo_all]
            unfold taken
            have e2 : (fun j => if j = F then max ((m.peers p).acked F) A else (m.peers p).acked j) = (m.peers p).acked := by
              funext j
              split
              · next e => subst e; omega
              · rfl
            rw [e2]; rfl
          rw [e]
          exact hQ.below ⟨rfl, rfl, rfl, Nat.le_refl _, fun _ _ => rfl⟩
end Go.Proofs.YtandblanpafjoaaGreatDoor

