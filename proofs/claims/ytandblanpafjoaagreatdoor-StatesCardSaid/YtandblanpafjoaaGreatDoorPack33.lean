import Derived.Test.YtandblanpafjoaaGreatDoorPack32
namespace Go.Proofs.YtandblanpafjoaaGreatDoor
open Go.RowKit Go.Extern.Stop Go.Stop Go.Extern
set_option maxRecDepth 10000 in
theorem made_ints (n : Nat) (hn : n ≤ 1000) (w : World) : (Instr.makeSlice 24 (.int .i64 (n : Int)) (.int .i64 (n : Int))).run Tryz.prog w = .ok (.slice (some ⟨w.heap.size, 0, none⟩) n n) (w.alloc (.cells (nums .i64 (List.replicate n 0)) 3)) := by
  obtain ⟨i8, hi8, hz8, hs8, hy8⟩ := info_parts Tryz.infoI64
  rw [run_make w 24 3 i8 (.int .i64 0) Tryz.underlying24 hi8 hz8 .i64 .i64 _ _ (by omega) (Int.le_refl _) (by rw [hy8]; omega) (by omega)]
  rw [show ((n : Int)).toNat = n by omega, hs8, Nat.mul_one]
  congr 3
  apply Array.ext
  · simp [madeCells, nums]
  · intro i h1 h2
    simp [madeCells, nums, Value.cells, Nat.mod_one]
def upTo (l : List Int) (n k : Nat) : List Int := l.take k ++ List.replicate (n - k) 0
theorem upTo_zero (l : List Int) (n : Nat) : upTo l n 0 = List.replicate n 0 := by simp [upTo]
theorem upTo_all (l : List Int) (n : Nat) (h : l.length = n) : upTo l n n = l := by subst h; simp [upTo]
theorem upTo_len (l : List Int) (n k : Nat) (h : l.length = n) (hk : k ≤ n) : (upTo l n k).length = n := by simp [upTo]; omega
theorem upTo_succ (l : List Int) (n k : Nat) (h : l.length = n) (hk : k < n) : (upTo l n k).set k (l.getD k 0) = upTo l n (k + 1) := by
  apply List.ext_getElem (by simp [upTo]; omega)
  intro i h1 h2
  rw [List.getElem_set]
  simp only [upTo, List.getElem_append, List.length_take, List.getElem_take, List.getElem_replicate]
  by_cases e : k = i
  · subst e
    rw [if_pos rfl, dif_pos (by omega), List.getD_eq_getElem?_getD, List.getElem?_eq_getElem (by omega)]; rfl
  · rw [if_neg e]
    by_cases h3 : i < k
    · rw [dif_pos (by omega), dif_pos (by omega)]
    · rw [dif_neg (by omega), dif_neg (by omega)]
set_option maxRecDepth 10000 in
set_option maxHeartbeats 4000000 in
theorem rstate_any (nb p f : Nat) (ro : Nat → RR) (m : NetM) (w : World) (h : RNetAt w ro nb m) (hp : p < m.players) (hk : POk (m.peers p) p m.players m.window m.delay) (hf : f ≤ 1000) :
    Calls Tryz.prog 46 #[.pointer (some ⟨nb, 0, none⟩), .int .i64 (p : Int), .int .i64 (f : Int)] w fun e w' => ∃ g, e = .returned (.slice (some ⟨g, 0, none⟩) 288 288) ∧ w.heap.size ≤ g ∧ Blk w' g (nums .u8 (stF m.players (insM (m.peers p) m.players) f)) 5 ∧ Below w.heap.size w w' := by
  obtain ⟨L, h⟩ := h
  have hn4 := h.n4
  have hn2 := h.n2
  have c5 : w.cell? ⟨nb, 5, none⟩ = some (.slice (some ⟨L.prb, 0, none⟩) m.players L.prc) := h.cell 5
  have c0 : w.cell? ⟨nb, 0, none⟩ = some (.int .i64 (m.players : Int)) := h.cell 0
  have cp := h.ptr p hp
  have p0 : (0 : Int) ≤ (p : Int) := by omega
  have p1 : (p : Int) < (m.players : Int) := by omega
  have hnl := h.net.1.lt
  have HN := hide h
  have HK := hide hk
  have hmk := made_ints m.players (by omega)
  obtain ⟨n, hn⟩ : ∃ n, m.players = n := ⟨_, rfl⟩
  rw [hn] at c5 c0 p1 hmk hp hn4 hn2 ⊢
  have HNN := hide hn
  clear h hk hn
  go_enter Tryz.func46, Tryz.ntmps46
  go_wp2_with fail
  refine (begin_any n w hn4).mono ?_
  rintro e w1 ⟨rfl, hB1, hb1⟩
  have H1 := hide (And.intro hB1 hb1)
  clear hB1 hb1 c5 cp p0 p1
  go_wp2_with fail
  go_loopw [9] (fun s wr => ∃ k : Nat, k ≤ f ∧ s = .int .i64 (k : Int) ∧ Below w.heap.size w wr ∧ Blk wr w.heap.size (nums .i64 (stF n (insM (m.peers p) n) k)) 3) (fun s _ => f - (intOf s).toNat)
  case atStart => exact ⟨0, by omega, rfl, (unhide H1).2, (unhide H1).1⟩
  case round =>
    obtain ⟨k, hk, rfl, hbr, hBr⟩ := hrel
    obtain ⟨wo, hwo⟩ : ∃ wo, wo = wr := ⟨_, rfl⟩
    subst hwo
    by_cases hlt : k < f
    · have hd : decide ((k : Int) < (f : Int)) = true := by simp; omega
      have c0r : wo.cell? ⟨nb, 0, none⟩ = some (.int .i64 (n : Int)) := (hbr.cell (p := ⟨nb, 0, none⟩) hnl).trans c0
      have HR := hide (And.intro hbr hBr)
      have HC0 := hide c0
      clear hbr hBr c0
      go_wp2_with fail
      obtain ⟨W2, hW2⟩ : ∃ W2, W2 = wo.alloc (.cells (nums .i64 (List.replicate n 0)) 3) := ⟨_, rfl⟩
      have hi2 : Blk W2 wo.heap.size (nums .i64 (List.replicate n 0)) 3 := by rw [hW2]; exact Blk.new _ _ _
      have hb2 : Below wo.heap.size wo W2 := by rw [hW2]; exact (Below.refl _ wo).alloc (Nat.le_refl _) _
      try rw [← hW2]
      have H2 := hide (And.intro hi2 hb2)
      clear hW2 hi2 hb2 c0r
      go_loopw [11] (fun s wx => ∃ q : Nat, q ≤ n ∧ s = .int .i64 (q : Int) ∧ Below wo.heap.size wo wx ∧ Blk wx wo.heap.size (nums .i64 (upTo (insM (m.peers p) n k) n q)) 3) (fun s _ => n - (intOf s).toNat)
      case atStart => exact ⟨0, by omega, rfl, (unhide H2).2, by rw [upTo_zero]; exact (unhide H2).1⟩
      case round =>
        obtain ⟨q, hq, rfl, hbx, hBx⟩ := hrel
        have hbr := (unhide HR).1
        have hzr := hbr.size
        have c0x : wr.cell? ⟨nb, 0, none⟩ = some (.int .i64 (n : Int)) := (hbx.cell (p := ⟨nb, 0, none⟩) (by show nb < wo.heap.size; omega)).trans ((hbr.cell (p := ⟨nb, 0, none⟩) hnl).trans (unhide HC0))
        by_cases hql : q < n
        · have hdq : decide ((q : Int) < (n : Int)) = true := by simp; omega
          have HX := hide (And.intro hbx hBx)
          have q0 : (0 : Int) ≤ (q : Int) := by omega
          have q1 : (q : Int) < (n : Int) := by omega
          clear hbx hBx hbr
          go_wp2_with fail
          have hin := rinput_any nb p q k ro m L wr (((unhide HN).below (unhide HR).1).below ((unhide HX).1)) (by rw [unhide HNN]; exact hp) (by rw [unhide HNN]; exact hql) ((unhide HK).len q (by rw [unhide HNN]; exact hql))
          refine hin.mono ?_
          clear hin
          rintro e w3 ⟨rfl, rfl⟩
          have hlen := upTo_len (insM (m.peers p) n k) n q (insM_len _ _ _) hq
          have hsucc := upTo_succ (insM (m.peers p) n k) n q (insM_len _ _ _) hql
          rw [insM_get _ _ _ _ hql] at hsucc
          have HS := hide hsucc
          have hBx := (unhide HX).2
          clear hsucc
          generalize inputM (m.peers p) q k = val at *
          go_wp2_with (refine wpList_store_num rfl 3 _ _ rfl _ _ .i64 _ _ _ rfl rfl (by assumption) (by omega) sizeInt ?_; intro w' hb1 hg1 hz1 hcl1)
          go_roundw
          case rel => exact ⟨q + 1, by omega, by go_num, (unhide HX).1.trans (below_grown hg1 (unhide HX).1.size (Nat.le_refl _)), by rw [← unhide HS]; exact hb1⟩
          case measure => simp [intOf]; omega
        · have hqn : q = n := by omega
          have hdq : decide ((q : Int) < (n : Int)) = false := by simp; omega
          rw [hqn, upTo_all _ _ (insM_len _ _ _)] at hBx
          have HX := hide (And.intro hbx hBx)
          clear hbx hBx hbr
          go_wp2_with fail
          have hmb : w.heap.size < wo.heap.size := (unhide HR).2.lt
          refine (rframe_any w.heap.size wo.heap.size n (stF n (insM (m.peers p) n) k) (insM (m.peers p) n k) wr hn4 (stF_good hn4 _ _) (insM_len _ _ _) (fun j => by have := insM_rng (unhide HK) k j; rw [unhide HNN] at this; exact this) (by omega) (((unhide HX).1.block _ hmb).trans (unhide HR).2) (unhide HX).2).mono ?_
          rintro e w4 ⟨rfl, hB4, hg4⟩
          have H4 := hide (And.intro hB4 hg4)
          clear hB4 hg4
          go_wp2_with fail
          go_roundw
          case rel =>
            refine ⟨k + 1, by omega, by go_num, ?_, (unhide H4).1⟩
            exact ((unhide HR).1.trans ((unhide HX).1.mono (by omega))).trans (below_grown (unhide H4).2 (by have := (unhide HX).1.size; omega) (Nat.le_refl _))
          case measure => simp [intOf]; omega
    · have hkf : k = f := by omega
      have hd : decide ((k : Int) < (f : Int)) = false := by simp; omega
      subst hkf
      have HR := hide (And.intro hbr hBr)
      clear hbr hBr
      go_wp2_with fail
      have hg := stF_good hn4 (insM (m.peers p) n) k
      refine (rbytes_any w.heap.size _ wo hg.len hg.rng (unhide HR).2).mono ?_
      clear hg
      rintro e w5 ⟨rfl, hB5, hb5⟩
      go_wp2_with fail
      go_ret
      have hz := (unhide HR).1.size
      exact ⟨wo.heap.size, rfl, hz, hB5, (unhide HR).1.trans (hb5.mono hz)⟩
end Go.Proofs.YtandblanpafjoaaGreatDoor

namespace Go.Proofs.YtandblanpafjoaaGreatDoor
open Go.RowKit Go.Extern.Stop Go.Stop Go.Extern
def rfls (L : RLoc) (l : List FlyM) : List Value := l.flatMap (rflC L)
theorem rflC_len (L : RLoc) (f : FlyM) : (rflC L f).length = 4 := rfl
theorem rfls_get (L : RLoc) : ∀ (l : List FlyM) (i j : Nat), i < l.length → j < 4 → (rfls L l)[i * 4 + j]? = (rflC L (fl l i))[j]?
  | a :: l, 0, j, _, hj => by
    simp only [rfls, List.flatMap_cons]
    rw [List.getElem?_append_left (by rw [rflC_len]; omega)]
    simp [fl]
  | a :: l, i + 1, j, h, hj => by
    have := rfls_get L l i j (by simpa using h) hj
    simp only [rfls, List.flatMap_cons] at this ⊢
    rw [List.getElem?_append_right (by rw [rflC_len]; omega), rflC_len, show (i + 1) * 4 + j - 4 = i * 4 + j by omega, this]
    simp [fl]
theorem rfls_append (L : RLoc) (a b : List FlyM) : rfls L (a ++ b) = rfls L a ++ rfls L b := by simp [rfls]
theorem rfls_cell {w : World} {base g cap : Nat} {L : RLoc} {l : List FlyM} (h : w.ownsRow base 76 4 (.slice (some ⟨g, 0, none⟩) l.length cap) l.length (rfls L l)) (i j : Nat) (hi : i < l.length) (hj : j < 4) : w.cell? ⟨g, i * 4 + j, none⟩ = (rflC L (fl l i))[j]? := by
  rw [h.cellAt (i * 4 + j) (by omega), rfls_get L l i j hi hj]
theorem own4_some {w : World} {base n : Nat} {e : TypeId} {s : Nat} {v : Value} {xs : List Value} (h : w.ownsRow base e s v n xs) (hn : 0 < n) : ∃ g cap, v = .slice (some ⟨g, 0, none⟩) n cap ∧ base ≤ g ∧ g < w.heap.size ∧ n ≤ cap := by
  rcases h.2 with ⟨_, h0⟩ | ⟨g, cap, cur, h', hbg, hg, hnc, _⟩
  · omega
  · exact ⟨g, cap, h', hbg, (Array.getElem?_eq_some_iff.1 hg).1, hnc⟩
set_option maxRecDepth 10000 in
set_option maxHeartbeats 4000000 in
theorem first_any (rv : Value) (base g cap : Nat) (L : RLoc) (l : List FlyM) (w : World) (h : w.ownsRow base 76 4 (.slice (some ⟨g, 0, none⟩) l.length cap) l.length (rfls L l)) (hl : 0 < l.length) (hb : l.length ≤ 10000000) :
    Calls Tryz.prog 35 #[rv, .slice (some ⟨g, 0, none⟩) l.length cap] w fun e w' => e = .returned (.int .i64 (firstM l : Int)) ∧ Below w.heap.size w w' := by
  have hgl : g < w.heap.size := (h.lt g rfl).2
  have HC := hide (fun i (hi : i < l.length) => And.intro (rfls_cell h i 1 hi (by omega)) (rfls_cell h i 2 hi (by omega)))
  unfold firstM
  clear h
  obtain ⟨n, hn⟩ : ∃ n, l.length = n := ⟨_, rfl⟩
  rw [hn] at HC hl hb ⊢
  clear hn
  go_enter Tryz.func35, Tryz.ntmps35
  go_wp2_with fail
  go_loopw [5, 6] (fun s5 s6 wr => ∃ i : Nat, 1 ≤ i ∧ i ≤ n ∧ s6 = .int .i64 (i : Int) ∧ s5 = .int .i64 (firstTo l fly0 i : Int) ∧ Below w.heap.size w wr) (fun _ s6 _ => n - (intOf s6).toNat)
  case atStart => exact ⟨1, by omega, by omega, rfl, by simp [firstTo], Below.refl _ _⟩
  case round =>
    obtain ⟨i, hi1, hin, rfl, rfl, hbr⟩ := hrel
    by_cases hlt : i < n
    · have hkl := firstTo_lt l fly0 i (by omega)
      have hd : decide ((i : Int) < (n : Int)) = true := by simp; omega
      have hi0 : (0 : Int) ≤ (i : Int) := by omega
      have hin' : (i : Int) < (n : Int) := by omega
      have hsuc : (before (fl l i) (fl l (firstTo l fly0 i)) → firstTo l fly0 (i + 1) = i) ∧ (¬ before (fl l i) (fl l (firstTo l fly0 i)) → firstTo l fly0 (i + 1) = firstTo l fly0 i) := ⟨fun h => if_pos h, fun h => if_neg h⟩
      obtain ⟨k, hk⟩ : ∃ k, firstTo l fly0 i = k := ⟨_, rfl⟩
      rw [hk] at hsuc hkl ⊢
      have hk0 : (0 : Int) ≤ (k : Int) := by omega
      have hkn' : (k : Int) < (n : Int) := by omega
      have a1 : wr.cell? ⟨g, i * 4 + 1, none⟩ = some (.int .i64 ((fl l i).due : Int)) := (hbr.cell (p := ⟨g, i * 4 + 1, none⟩) hgl).trans (unhide HC i hlt).1
      have a2 : wr.cell? ⟨g, i * 4 + 2, none⟩ = some (.int .i64 ((fl l i).num : Int)) := (hbr.cell (p := ⟨g, i * 4 + 2, none⟩) hgl).trans (unhide HC i hlt).2
      have b1 : wr.cell? ⟨g, k * 4 + 1, none⟩ = some (.int .i64 ((fl l k).due : Int)) := (hbr.cell (p := ⟨g, k * 4 + 1, none⟩) hgl).trans (unhide HC k (by omega)).1
      have b2 : wr.cell? ⟨g, k * 4 + 2, none⟩ = some (.int .i64 ((fl l k).num : Int)) := (hbr.cell (p := ⟨g, k * 4 + 2, none⟩) hgl).trans (unhide HC k (by omega)).2
      unfold before at hsuc
      have HS := hide hsuc
      have HB := hide hbr
      clear hsuc hk hbr
      generalize (fl l i).due = di at *
      generalize (fl l i).num = ni at *
      generalize (fl l k).due = dk at *
      generalize (fl l k).num = nk at *
      by_cases t1 : di < dk
      · have d1 : decide ((di : Int) < (dk : Int)) = true := by simp; omega
        have e : firstTo l fly0 (i + 1) = i := by exact (unhide HS).1 (.inl t1)
        have HE := hide e
        clear e
        go_upto_region 5 with fail
        go_quiet (fail)
        go_wp2_with fail
        go_roundw
        case rel => exact ⟨i + 1, by omega, by omega, by go_num, by rw [unhide HE], (unhide HB).trans ⟨rfl, rfl, rfl, Nat.le_refl _, fun _ _ => rfl⟩⟩
        case measure => simp [intOf]; omega
      · have d1 : decide ((di : Int) < (dk : Int)) = false := by simp; omega
        by_cases t2 : di = dk
        · have d2 : decide ((di : Int) = (dk : Int)) = true := by simp; omega
          by_cases t3 : ni < nk
          · have d3 : decide ((ni : Int) < (nk : Int)) = true := by simp; omega
            have e : firstTo l fly0 (i + 1) = i := by exact (unhide HS).1 (.inr ⟨t2, t3⟩)
            have HE := hide e
            clear e
            subst t2
            go_upto_region 5 with fail
            go_quiet (fail)
            go_wp2_with fail
            go_roundw
            case rel => exact ⟨i + 1, by omega, by omega, by go_num, by rw [unhide HE], (unhide HB).trans ⟨rfl, rfl, rfl, Nat.le_refl _, fun _ _ => rfl⟩⟩
            case measure => simp [intOf]; omega
          · have d3 : decide ((ni : Int) < (nk : Int)) = false := by simp; omega
            have e : firstTo l fly0 (i + 1) = k := by exact (unhide HS).2 (by omega)
            have HE := hide e
            clear e
            subst t2
            go_upto_region 5 with fail
            go_quiet (fail)
            go_wp2_with fail
            go_roundw
            case rel => exact ⟨i + 1, by omega, by omega, by go_num, by rw [unhide HE], (unhide HB).trans ⟨rfl, rfl, rfl, Nat.le_refl _, fun _ _ => rfl⟩⟩
            case measure => simp [intOf]; omega
        · have d2 : decide ((di : Int) = (dk : Int)) = false := by simp; omega
          have d2'' : ((di : Int) == (dk : Int)) = false := by simp; omega
          have e : firstTo l fly0 (i + 1) = k := by exact (unhide HS).2 (by omega)
          have HE := hide e
          clear e
          go_upto_region 5 with fail
          go_quiet (fail)
          go_wp2_with fail
          go_roundw
          case rel => exact ⟨i + 1, by omega, by omega, by go_num, by rw [unhide HE], (unhide HB).trans ⟨rfl, rfl, rfl, Nat.le_refl _, fun _ _ => rfl⟩⟩
          case measure => simp [intOf]; omega
    · have hin2 : i = n := by omega
      subst hin2
      have hd : decide ((i : Int) < (i : Int)) = false := by simp
      go_wp2
      go_ret
      exact ⟨rfl, hbr⟩
theorem Tryz.infoRFl : (Tryz.prog.info? 76).map (fun i => (i.zero, i.size, i.bytes)) = some (some (.agg #[.int .i64 0, .int .i64 0, .int .i64 0, .slice none 0 0]), 4, 48) := by kernel_rfl
theorem Tryz.sizeRFl : (Tryz.prog.info? 76).map (·.size) = some 4 := by kernel_rfl
theorem erase_take (l : List FlyM) (k i : Nat) (hi : i < l.length) : (l.take (i + 1)).eraseIdx k = if i = k then (l.take i).eraseIdx k else (l.take i).eraseIdx k ++ [fl l i] := by
  have e1 : l.take (i + 1) = l.take i ++ [fl l i] := by
    rw [List.take_add_one, List.getElem?_eq_getElem hi]
    simp [fl, hi]
  have hl : (l.take i).length = i := by rw [List.length_take]; omega
  rw [e1]
  rcases Nat.lt_trichotomy i k with h | h | h
  · rw [if_neg (by omega), List.eraseIdx_of_length_le (by simp; omega), List.eraseIdx_of_length_le (by omega)]
  · rw [if_pos h, List.eraseIdx_append_of_length_le (by omega), hl, h, Nat.sub_self, List.eraseIdx_of_length_le (l := List.take k l) (by rw [h] at hl; omega)]
    simp
  · rw [if_neg (by omega), List.eraseIdx_append_of_lt_length (by omega)]
set_option maxRecDepth 10000 in
set_option maxHeartbeats 4000000 in
theorem without_any (k : Nat) (base g cap : Nat) (L : RLoc) (l : List FlyM) (w : World) (h : w.ownsRow base 76 4 (.slice (some ⟨g, 0, none⟩) l.length cap) l.length (rfls L l)) (hone : ∀ f ∈ l, (L.fb f.num).oneCell' = true) (hb : l.length ≤ 10000000) :
    Calls Tryz.prog 36 #[.slice (some ⟨g, 0, none⟩) l.length cap, .int .i64 (k : Int)] w fun e w' => ∃ v, e = .returned v ∧ w'.ownsRow w.heap.size 76 4 v (l.eraseIdx k).length (rfls L (l.eraseIdx k)) ∧ Below w.heap.size w w' := by
  obtain ⟨i8, hi8, hz0, hz1, hz2⟩ := info_parts Tryz.infoRFl
  have hgl : g < w.heap.size := (h.lt g rfl).2
  have HC := hide (fun i j (hi : i < l.length) (hj : j < 4) => rfls_cell h i j hi hj)
  have HO := hide hone
  clear h hone
  obtain ⟨n, hn⟩ : ∃ n, l.length = n := ⟨_, rfl⟩
  rw [hn] at HC hb ⊢
  have HN := hide hn
  clear hn
  go_enter Tryz.func36, Tryz.ntmps36
  go_wp2_with fail
  go_loopw [5, 6] (fun s5 s6 wr => ∃ i : Nat, i ≤ n ∧ s6 = .int .i64 (i : Int) ∧ wr.ownsRow w.heap.size 76 4 s5 ((l.take i).eraseIdx k).length (rfls L ((l.take i).eraseIdx k)) ∧ Below w.heap.size w wr) (fun _ s6 _ => n - (intOf s6).toNat)
  case atStart => exact ⟨0, by omega, rfl, by simpa [rfls] using World.ownsRow_nil _ _ _ _, Below.refl _ _⟩
  case round =>
    obtain ⟨v, hv⟩ : ∃ v, v = u5 := ⟨_, rfl⟩
    subst hv
    obtain ⟨i, hin, rfl, hown, hbr⟩ := hrel
    by_cases hlt : i < n
    · have hd : decide ((i : Int) < (n : Int)) = true := by simp; omega
      have hi0 : (0 : Int) ≤ (i : Int) := by omega
      have hin' : (i : Int) < (n : Int) := by omega
      have hnext := erase_take l k i (by rw [unhide HN]; exact hlt)
      by_cases hik : i = k
      · rw [if_pos hik] at hnext
        have HNX := hide hnext
        have HR := hide (And.intro hown hbr)
        clear hnext hown hbr
        subst hik
        go_wp2_with fail
        go_roundw
        case rel => exact ⟨i + 1, by omega, by go_num, by rw [unhide HNX]; exact (unhide HR).1, (unhide HR).2⟩
        case measure => simp [intOf]; omega
      · have hne : decide ((i : Int) = (k : Int)) = false := by simp; omega
        have hne2 : ((i : Int) = (k : Int)) = False := by simp; omega
        rw [if_neg hik] at hnext
        have hlen : ((l.take i).eraseIdx k).length ≤ 10000000 := by
          have := List.length_eraseIdx_le (l.take i) k
          rw [List.length_take] at this; omega
        have hrg : wr.rangeAt g (i * 4) (rflC L (fl l i)) := fun j u hu => by
          have hj : j < 4 := by have := (List.getElem?_eq_some_iff.1 hu).1; rwa [rflC_len] at this
          rw [hbr.cell (p := ⟨g, i * 4 + j, none⟩) hgl]
          exact (unhide HC i j hlt hj).trans hu
        have hownA : (wr.alloc (.cells (rflC L (fl l i)).toArray 76)).ownsRow w.heap.size 76 4 v ((l.take i).eraseIdx k).length (rfls L ((l.take i).eraseIdx k)) := hown.alloc _
        have hnews : ∀ j u, (rflC L (fl l i))[j]? = some u → (wr.alloc (.cells (rflC L (fl l i)).toArray 76)).cell? ((⟨wr.heap.size, 0, none⟩ : Addr).add j) = some u := fun j u hj => by
          have hb := Blk.new wr (rflC L (fl l i)).toArray 76
          rw [Addr.add_mid, Nat.zero_add, hb.cell]
          simpa using hj
        have h1 : ∀ u ∈ rflC L (fl l i), u.oneCell' = true := by
          have hmem : fl l i ∈ l := getD_mem l i (by rw [unhide HN]; exact hlt)
          have := unhide HO _ hmem
          intro u hu
          simp only [rflC, List.mem_cons, List.not_mem_nil, or_false] at hu
          rcases hu with rfl | rfl | rfl | rfl <;> first | rfl | exact this
        have hzw := hbr.size
        have HR := hide (And.intro hown (And.intro hbr (And.intro hownA (And.intro hnews h1))))
        have HNX := hide hnext
        have hsize := Tryz.sizeRFl
        clear hown hbr hownA hnews h1 hnext
        unfold rflC at *
        go_wp2_with (first | (refine wpList_load_mid rfl 76 _ rfl g (i * 4) rfl _ _ hrg Tryz.underlying76 rfl hsize ?_) | (at_builtin; refine wpList_append_own_at (wr.alloc (.cells (rflC L (fl l i)).toArray 76)) rfl (.tmp 16) (.tmp 21) 71 rfl w.heap.size 76 i8 _ 4 48 Tryz.underlying71 hi8 hz0 hz1 hz2 rfl (by decide) v _ _ rfl (unhide HR).2.2.1 ⟨wr.heap.size, 0, none⟩ 1 1 (rflC L (fl l i)) rfl rfl (unhide HR).2.2.2.1 (unhide HR).2.2.2.2 (by unfold maxLen; omega) (by omega) (by simp; omega) ?_; intro v' w3 hown3 hg3 hnil3 hloc3))
        go_roundw
        case rel =>
          refine ⟨i + 1, by omega, by go_num, ?_, ?_⟩
          · rw [unhide HNX, List.length_append, rfls_append]
            simpa [rfls] using hown3
          · refine (unhide HR).2.1.trans ?_
            refine ⟨hg3.os, hg3.tape, hg3.output, ?_, fun q hq => ?_⟩
            · have := hg3.size; simp at this; omega
            · rw [hg3.block q (by simp; omega) (fun e => ?_)]
              · exact ((Below.refl wr.heap.size wr).alloc (Nat.le_refl _) _).block q (by omega)
              · have := ((unhide HR).1.lt q e.symm).1; omega
        case measure => simp [intOf]; omega
    · have hin2 : i = n := by omega
      have hd : decide ((i : Int) < (n : Int)) = false := by simp; omega
      have HR := hide (And.intro hown hbr)
      clear hown hbr
      go_wp2
      go_ret
      have ht : l.take i = l := List.take_of_length_le (by rw [unhide HN]; omega)
      have := (unhide HR).1
      rw [ht] at this
      exact ⟨_, rfl, this, (unhide HR).2⟩
end Go.Proofs.YtandblanpafjoaaGreatDoor

