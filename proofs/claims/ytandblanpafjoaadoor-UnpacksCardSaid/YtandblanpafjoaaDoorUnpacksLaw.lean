import Derived.Test.YtandblanpafjoaaDoorUPkP
import Derived.Test.YtandblanpafjoaaDoorRUPk
import Derived.Test.YtandblanpafjoaaDoorPacksLaw
namespace Go.Proofs.YtandblanpafjoaaDoor
open Go.RowKit Go.Extern.Stop Go.Stop Go.Extern

theorem runpack_no (b o n c : Nat) (l : List Int) (w : World) (hl : l.length = n) (hn : n ≤ 70000) (hcap : n ≤ c) (hr : ∀ j : Nat, 0 ≤ l.getD j 0 ∧ l.getD j 0 ≤ 255)
    (hc : ∀ j, j < n → w.cell? ⟨b, o + j, none⟩ = some (.int .u8 (l.getD j 0))) (hbl : b < w.heap.size) (hok : ¬ OkP l) :
    Calls Tryd.prog 26 #[.slice (some ⟨b, o, none⟩) n c] w fun e w' => e = .returned (.tuple #[.agg Z4, .bool false]) ∧ Below w.heap.size w w' := by
  by_cases h8 : n < 8
  · exact runpack_few b o n c w h8
  · obtain ⟨k, rfl⟩ : ∃ k, n = k + 8 := ⟨n - 8, by omega⟩
    exact (runpack_any b o k c l w hl (by omega) hcap hr hc hbl).mono fun e w' ⟨hb, h⟩ => ⟨(h.resolve_right fun h => hok h.1).2, hb⟩
theorem runpack_yes (b o n c : Nat) (l : List Int) (w : World) (hl : l.length = n) (hn : n ≤ 70000) (hcap : n ≤ c) (hr : ∀ j : Nat, 0 ≤ l.getD j 0 ∧ l.getD j 0 ≤ 255)
    (hc : ∀ j, j < n → w.cell? ⟨b, o + j, none⟩ = some (.int .u8 (l.getD j 0))) (hbl : b < w.heap.size) (hok : OkP l) :
    Calls Tryd.prog 26 #[.slice (some ⟨b, o, none⟩) n c] w fun e w' => ∃ ao c2, e = .returned (.tuple #[.agg #[.int .i64 (fromL l), .int .i64 (startL l), .int .i64 (ackL l), .slice ao (n - 8) c2], .bool true]) ∧ (ao = none → c2 = 0) ∧ SrcAt w' ao (inputsL l) ∧ (∀ q, ao.map (·.block) = some q → w.heap.size ≤ q) ∧ Below w.heap.size w w' := by
  have h8 := hok.1.1
  obtain ⟨k, rfl⟩ : ∃ k, n = k + 8 := ⟨n - 8, by omega⟩
  refine (runpack_any b o k c l w hl (by omega) hcap hr hc hbl).mono fun e w' ⟨hb, h⟩ => ?_
  obtain ⟨_, ao, c2, h1, h2, h3, h4⟩ := h.resolve_left fun h => h.1 hok
  rw [show k + 8 - 8 = k by omega]
  refine ⟨ao, c2, h1, h2, ?_, h4, hb⟩
  unfold inputsL
  rw [show l.length - 8 = k by omega]
  exact h3
theorem room_cell (w : World) (s : ByteArray) (j : Nat) (hj : j < s.size) : (w.alloc (.cells (nums .u8 (bytesOf s ++ [77, 88])) 5)).cell? ⟨w.heap.size, 0 + j, none⟩ = some (.int .u8 ((bytesOf s).getD j 0)) := by
  rw [Nat.zero_add, (Blk.new w _ _).num j (by simp [bytesOf_len]; omega)]
  rw [List.getD_eq_getElem?_getD, List.getElem?_append_left (by rw [bytesOf_len]; exact hj)]; rfl

set_option maxRecDepth 100000 in
set_option maxHeartbeats 1000000 in
theorem unpacks_no (s : ByteArray) (w : World) (hle : s.size ≤ 65536) (hgL : Laid w) (hok : ¬ OkP (bytesOf s)) :
    Calls Tryd.prog 7 #[.string s] w fun ev w' => ev = .returned (.bool true) ∧ Below w.heap.size w w' := by
  have hle' : ¬ ((65536 : Int) < (s.size : Int)) := by omega
  have hnn := nil_is_nil
  have hcv : ∀ W, (convert 9 27 (.string s)).run Tryd.prog W = .ok (.slice (some ⟨W.heap.size, 0, none⟩) s.size (grownCap W s.size 0 5)) (Lib.bytesWorld W 5 s) := fun W => Lib.run_convert_string_bytes W 9 27 5 s Tryd.underlying9 Tryd.underlying27 Tryd.underlying5
  have HOK := hide hok
  clear hok
  go_enter Tryd.func7, Tryd.ntmps7
  go_wp2_with fail
  refine (roomy_any s w hle).mono ?_
  rintro e w1 ⟨rfl, rfl⟩
  go_wp2_with fail
  refine (punpack_no w.heap.size 0 s.size (s.size + 2) (bytesOf s) _ (hgL.alloc _) (bytesOf_len s) (by omega) (by omega) (bytesOf_range s) (room_cell w s) (by simp) (unhide HOK)).mono ?_
  rintro e w2 ⟨rfl, hb2⟩
  unfold Z4
  have hz2 := hb2.size
  simp only [World.size_alloc] at hz2
  have HB : Hid (Blk (w2.alloc (.cells #[.int .i64 0, .int .i64 0, .int .i64 0, .slice none 0 0] 46)) w.heap.size (nums .u8 (bytesOf s ++ [77, 88])) 5) := hide (((Blk.new w (nums .u8 (bytesOf s ++ [77, 88])) 5).below (by simp) hb2).alloc _)
  have HB2 : Hid (Below w.heap.size w (w2.alloc (.cells #[.int .i64 0, .int .i64 0, .int .i64 0, .slice none 0 0] 46))) := hide ((((Below.refl _ _).alloc (Nat.le_refl _) _).trans (hb2.mono (by simp))).alloc (by omega) _)
  have HBX := hide (BoxAt.new w2 0 0 0 (.slice none 0 0) 46)
  have hzz : w2.heap.size < (w2.alloc (.cells #[.int .i64 0, .int .i64 0, .int .i64 0, .slice none 0 0] 46)).heap.size := by simp
  have hzw := (unhide HB2).size
  clear hb2
  go_wp2_with fail
  generalize (w2.alloc (.cells #[.int .i64 0, .int .i64 0, .int .i64 0, .slice none 0 0] 46)) = W2 at *
  refine (still_any s w.heap.size W2 hle (unhide HB)).mono ?_
  rintro e W2 ⟨rfl, rfl⟩
  go_wp2_with fail
  refine (runpack_no W2.heap.size 0 s.size _ (bytesOf s) _ (bytesOf_len s) (by omega) (grownCap_ge _ _ _ _) (bytesOf_range s) (fun j hj => by rw [Nat.zero_add]; exact bytesWorld_get W2 5 s j hj) (by rw [Lib.bytesWorld_size]; omega) (unhide HOK)).mono ?_
  rintro e w3 ⟨rfl, hb3⟩
  unfold Z4
  have hbW : Below W2.heap.size W2 w3 := (bytesWorld_below W2 5 s).trans (hb3.mono (by rw [Lib.bytesWorld_size]; omega))
  have hz3 := hbW.size
  obtain ⟨b0, b1, b2, b3⟩ := (unhide HBX).same (hbW.block w2.heap.size hzz)
  have hne : w2.heap.size ≠ w3.heap.size := by omega
  have hlt : w2.heap.size < w3.heap.size := by omega
  have HBW := hide hbW
  clear hbW hb3
  go_wp2
  go_ret
  exact ⟨rfl, ((unhide HB2).trans ((unhide HBW).mono hzw)).alloc (by omega) _⟩

set_option maxRecDepth 100000 in
set_option maxHeartbeats 2000000 in
theorem unpacks_yes (s : ByteArray) (w : World) (hle : s.size ≤ 65536) (hgL : Laid w) (hok : OkP (bytesOf s)) :
    Calls Tryd.prog 7 #[.string s] w fun ev w' => ev = .returned (.bool true) ∧ Below w.heap.size w w' := by
  have hle' : ¬ ((65536 : Int) < (s.size : Int)) := by omega
  have hcv : ∀ W, (convert 9 27 (.string s)).run Tryd.prog W = .ok (.slice (some ⟨W.heap.size, 0, none⟩) s.size (grownCap W s.size 0 5)) (Lib.bytesWorld W 5 s) := fun W => Lib.run_convert_string_bytes W 9 27 5 s Tryd.underlying9 Tryd.underlying27 Tryd.underlying5
  have HOK := hide hok
  obtain ⟨k, hk⟩ : ∃ k, s.size - 8 = k := ⟨_, rfl⟩
  have h8 : 8 ≤ s.size := by have := hok.1.1; rw [bytesOf_len] at this; exact this
  obtain ⟨L, hL⟩ : ∃ L, inputsL (bytesOf s) = L := ⟨_, rfl⟩
  have hLl : L.length = k := by rw [← hL, inputsL_len _ (by rw [bytesOf_len]; exact h8), bytesOf_len, hk]
  obtain ⟨sm, hsm⟩ : ∃ sm, strOfNums L = sm := ⟨_, rfl⟩
  obtain ⟨f, hf⟩ : ∃ f, fromL (bytesOf s) = f := ⟨_, rfl⟩
  obtain ⟨st, hst⟩ : ∃ st, startL (bytesOf s) = st := ⟨_, rfl⟩
  obtain ⟨ak, hak⟩ : ∃ ak, ackL (bytesOf s) = ak := ⟨_, rfl⟩
  have HE := hide (And.intro hk (And.intro hL (And.intro hf (And.intro hst hak))))
  have HSM := hide hsm
  clear hok hk hL hsm hf hst hak
  go_enter Tryd.func7, Tryd.ntmps7
  go_wp2_with fail
  refine (roomy_any s w hle).mono ?_
  rintro e w1 ⟨rfl, rfl⟩
  go_wp2_with fail
  refine (punpack_yes w.heap.size 0 s.size (s.size + 2) (bytesOf s) _ (hgL.alloc _) (bytesOf_len s) (by omega) (by omega) (bytesOf_range s) (room_cell w s) (by simp) (unhide HOK)).mono ?_
  obtain ⟨hk, hL, hf, hst, hak⟩ := unhide HE
  rw [hk, hL, hf, hst, hak]
  clear hk hL hf hst hak
  rintro e w2 ⟨g, cap, rfl, hown, hgg, hb2⟩
  have hz2 := hb2.size
  simp only [World.size_alloc] at hz2 hgg
  have hgl := (hown.lt g rfl).2
  have HB : Hid (Blk (w2.alloc (.cells #[.int .i64 f, .int .i64 st, .int .i64 ak, .slice (some ⟨g, 0, none⟩) k cap] 46)) w.heap.size (nums .u8 (bytesOf s ++ [77, 88])) 5) := hide (((Blk.new w (nums .u8 (bytesOf s ++ [77, 88])) 5).below (by simp) hb2).alloc _)
  have HO : Hid ((w2.alloc (.cells #[.int .i64 f, .int .i64 st, .int .i64 ak, .slice (some ⟨g, 0, none⟩) k cap] 46)).ownsRow (w.heap.size + 1) 5 1 (.slice (some ⟨g, 0, none⟩) k cap) k (L.map (Value.int .u8))) := hide ((owns_mono hown (by simp)).alloc _)
  have HB2 : Hid (Below w.heap.size w (w2.alloc (.cells #[.int .i64 f, .int .i64 st, .int .i64 ak, .slice (some ⟨g, 0, none⟩) k cap] 46))) := hide ((((Below.refl _ _).alloc (Nat.le_refl _) _).trans (hb2.mono (by simp))).alloc (by omega) _)
  have HBX := hide (BoxAt.new w2 f st ak (.slice (some ⟨g, 0, none⟩) k cap) 46)
  have hzz : w2.heap.size < (w2.alloc (.cells #[.int .i64 f, .int .i64 st, .int .i64 ak, .slice (some ⟨g, 0, none⟩) k cap] 46)).heap.size := by simp
  have hzw := (unhide HB2).size
  clear hb2 hown
  go_wp2_with fail
  generalize (w2.alloc (.cells #[.int .i64 f, .int .i64 st, .int .i64 ak, .slice (some ⟨g, 0, none⟩) k cap] 46)) = W2 at *
  refine (still_any s w.heap.size W2 hle (unhide HB)).mono ?_
  rintro e W2 ⟨rfl, rfl⟩
  go_wp2_with fail
  refine (runpack_yes W2.heap.size 0 s.size _ (bytesOf s) _ (bytesOf_len s) (by omega) (grownCap_ge _ _ _ _) (bytesOf_range s) (fun j hj => by rw [Nat.zero_add]; exact bytesWorld_get W2 5 s j hj) (by rw [Lib.bytesWorld_size]; omega) (unhide HOK)).mono ?_
  obtain ⟨hk, hL, hf, hst, hak⟩ := unhide HE
  rw [hk, hL, hf, hst, hak]
  clear hk hL hf hst hak
  rintro e w3 ⟨ao, c2, rfl, hc2, hs3, hq3, hb3⟩
  have hbW : Below W2.heap.size W2 w3 := (bytesWorld_below W2 5 s).trans (hb3.mono (by rw [Lib.bytesWorld_size]; omega))
  have hz3 := hbW.size
  have HQ : Hid (∀ q, ao.map (·.block) = some q → W2.heap.size ≤ q) := hide fun q hq => by have := hq3 q hq; rw [Lib.bytesWorld_size] at this; omega
  have HC2 := hide hc2
  have HP3 := hide (((unhide HBX).same (hbW.block w2.heap.size hzz)).alloc (.cells #[.int .i64 f, .int .i64 st, .int .i64 ak, .slice ao k c2] 46))
  have HW3 := hide (BoxAt.new w3 f st ak (.slice ao k c2) 46)
  have HS3 := hide (hs3.alloc (.cells #[.int .i64 f, .int .i64 st, .int .i64 ak, .slice ao k c2] 46))
  have HO3 := hide (((unhide HO).kept (grown_below hbW none) (.inr (by simp [Value.ownBlock]))).alloc (.cells #[.int .i64 f, .int .i64 st, .int .i64 ak, .slice ao k c2] 46))
  have HR3 := hide (((unhide HB).below (unhide HB).lt hbW).alloc (.cells #[.int .i64 f, .int .i64 st, .int .i64 ak, .slice ao k c2] 46))
  have HB3 := hide (((unhide HB2).trans (hbW.mono hzw)).alloc (by omega) (.cells #[.int .i64 f, .int .i64 st, .int .i64 ak, .slice ao k c2] 46))
  have hzw3 := (unhide HB3).size
  have hg2 : g < W2.heap.size := ((unhide HO).lt g rfl).2
  have hz4 : w3.heap.size < (w3.alloc (.cells #[.int .i64 f, .int .i64 st, .int .i64 ak, .slice ao k c2] 46)).heap.size := by simp
  clear hbW hb3 hs3 hq3 hc2 HB HB2 HO HBX
  obtain ⟨b0, b1, b2, b3⟩ := unhide HP3
  obtain ⟨d0, d1, d2, d3⟩ := unhide HW3
  have hcp : (convert 27 9 (.slice (some ⟨g, 0, none⟩) k cap)).run Tryd.prog (w3.alloc (.cells #[.int .i64 f, .int .i64 st, .int .i64 ak, .slice ao k c2] 46)) = .ok (.string sm) (w3.alloc (.cells #[.int .i64 f, .int .i64 st, .int .i64 ak, .slice ao k c2] 46)) := by
    rw [← unhide HSM]; exact conv_str g 0 k cap L _ hLl (fun j hj => own_num (unhide HO3) hLl j hj)
  have hcw : (convert 27 9 (.slice ao k c2)).run Tryd.prog (w3.alloc (.cells #[.int .i64 f, .int .i64 st, .int .i64 ak, .slice ao k c2] 46)) = .ok (.string sm) (w3.alloc (.cells #[.int .i64 f, .int .i64 st, .int .i64 ak, .slice ao k c2] 46)) := by
    rw [← unhide HSM]; exact conv_src ao k c2 L _ hLl (unhide HC2) (unhide HS3)
  go_wp2_with fail
  generalize (w3.alloc (.cells #[.int .i64 f, .int .i64 st, .int .i64 ak, .slice ao k c2] 46)) = W4 at *
  clear b0 b1 b2 b3 d0 d1 d2 d3 hcp hcw
  refine (spoilt_row w.heap.size s.size (s.size + 2) _ 5 W4 (by rw [nums_size, List.length_append, bytesOf_len]; rfl) (by unfold maxLen; omega) (by omega) (unhide HR3)).mono ?_
  rintro e w5 ⟨rfl, hk5, hgr5⟩
  have HP5 := hide ((unhide HP3).grown hgr5 (by omega))
  have HW5 := hide ((unhide HW3).grown hgr5 (by omega))
  have HS5 := hide ((unhide HS3).grown hgr5 (fun q hq => by have := unhide HQ q hq; omega))
  have HO5 := hide ((unhide HO3).kept hgr5 (.inr (by simp [Value.ownBlock]; omega)))
  have HB5 := hide ((unhide HB3).trans (below_grown hgr5 hzw3 (Nat.le_refl _)))
  have HK5 := hide hk5
  have hz5 := hgr5.size
  clear hgr5 hk5
  obtain ⟨b0, b1, b2, b3⟩ := unhide HP5
  obtain ⟨d0, d1, d2, d3⟩ := unhide HW5
  have hcp : (convert 27 9 (.slice (some ⟨g, 0, none⟩) k cap)).run Tryd.prog w5 = .ok (.string sm) w5 := by
    rw [← unhide HSM]; exact conv_str g 0 k cap L _ hLl (fun j hj => own_num (unhide HO5) hLl j hj)
  have hcw : (convert 27 9 (.slice ao k c2)).run Tryd.prog w5 = .ok (.string sm) w5 := by
    rw [← unhide HSM]; exact conv_src ao k c2 L _ hLl (unhide HC2) (unhide HS5)
  go_wp2_with fail
  obtain ⟨cur, hcs, hcm, hnc, hbc⟩ := own_row (unhide HO5)
  refine (spoilt_row g k cap cur 5 w5 hcs hcm hnc hbc).mono ?_
  rintro e w6 ⟨rfl, _, hgr6⟩
  have HK6 := hide ((unhide HK5).grown hgr6 (by omega))
  have HB6 := hide ((unhide HB5).trans (below_grown hgr6 (unhide HB5).size (by omega)))
  clear hgr6 hbc
  go_wp2_with fail
  refine (stays_row w.heap.size s.size (s.size + 2) 5 w6 (by unfold maxLen; omega) (by omega) (unhide HK6)).mono ?_
  rintro e w6 ⟨rfl, rfl⟩
  go_wp2
  go_ret
  exact ⟨rfl, unhide HB6⟩

set_option maxHeartbeats 1000000 in
theorem unpacks_any (s : ByteArray) (w : World) (hmax : s.size ≤ maxLen) (hgL : Laid w) :
    Calls Tryd.prog 7 #[.string s] w fun ev w' => ev = .returned (.bool true) ∧ Below w.heap.size w w' := by
  by_cases hgt : 65536 < s.size
  · unfold maxLen at hmax
    have hgt' : (65536 : Int) < (s.size : Int) := by omega
    go_enter Tryd.func7, Tryd.ntmps7
    go_wp2_with fail
    go_ret
    exact ⟨rfl, Below.refl _ _⟩
  · by_cases hg : OkP (bytesOf s)
    · exact unpacks_yes s w (by omega) hgL hg
    · exact unpacks_no s w (by omega) hgL hg
end Go.Proofs.YtandblanpafjoaaDoor
