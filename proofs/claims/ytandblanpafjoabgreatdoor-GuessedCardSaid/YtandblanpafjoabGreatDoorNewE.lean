import Derived.Test.YtandblanpafjoabGreatDoorNewD
namespace Go.Proofs.YtandblanpafjoabGreatDoor
open Go.RowKit Go.Extern.Stop Go.Stop Go.Extern Go.Maps

/-! Making a store. -/
theorem st_made (n win pb rb W : Nat) (fs : Nat → List Int) : paCells n (startTo n) pb win ++ [Value.slice (some ⟨rb, 0, none⟩) W W] = stCells n 0 (stF n fs 0) pb win rb W := by
  simp [paCells, stCells, stF]
theorem full_made {w : World} {sb pb rb n win : Nat} (hn : n ≤ 4) (h1 : Blk w sb (paCells n (startTo n) pb win ++ [Value.slice (some ⟨rb, 0, none⟩) win win]).toArray 257) (h2 : ∃ C, Blk w pb C 187 ∧ C.size = win * 4) (h3 : ∃ D, Blk w rb D 106 ∧ D.size = win * 288) (e1 : sb ≠ pb) (e2 : sb ≠ rb) (e3 : pb ≠ rb) (fs : Nat → List Int) :
    FullAt w sb (fun k => k = sb ∨ k = pb ∨ k = rb) n win 0 0 fs pb rb :=
  ⟨⟨stF_len hn fs 0, by rw [st_made n win pb rb win fs] at h1; exact h1⟩, ⟨h2, fun f _ h => by omega⟩, ⟨h3, fun f _ h => by omega⟩, e1, e2, e3, .inl rfl, .inr (.inl rfl), .inr (.inr rfl)⟩
theorem delta_made {w : World} {sb pb rb n win : Nat} {mb : Nat → Nat} (hn : n ≤ 4) (h1 : Blk w sb (paCells n (startTo n) pb win ++ [Value.slice (some ⟨rb, 0, none⟩) (win + 1) (win + 1)]).toArray 250) (h2 : ∃ C, Blk w pb C 187 ∧ C.size = win * 4) (h3 : MadeTo w rb win (win + 1) (sb + 1) mb) (e1 : pb < rb) (e2 : rb < sb) (fs : Nat → List Int) :
    DeltaAt w sb (fun k => k = sb ∨ k = pb ∨ k = rb ∨ ∃ i, i < win + 1 ∧ k = mb i) n win 0 0 fs pb rb mb :=
  ⟨⟨stF_len hn fs 0, by rw [st_made n win pb rb (win + 1) fs] at h1; exact h1⟩, ⟨h2, fun f _ h => by omega⟩, ⟨_, h3.all⟩, fun i hi => ⟨_, (h3.maps i hi).1.mono (by omega)⟩, fun f _ h => by omega, (h3.maps _ (Nat.mod_lt _ (by omega))).1, h3.inj,
   fun i hi => by have := (h3.maps i hi).2; exact ⟨by omega, by omega, by omega, .inr (.inr (.inr ⟨i, hi, rfl⟩))⟩, by omega, by omega, by omega, .inl rfl, .inr (.inl rfl), .inr (.inr (.inl rfl))⟩

theorem paCells_one (n : Nat) (now : List Int) (pb win : Nat) : (paCells n now pb win).toArray.all (·.oneCell') = true := by
  simp [paCells, Value.oneCell']
set_option maxRecDepth 10000 in
set_option maxHeartbeats 1600000 in
theorem stNew_any (kind n win : Nat) (w : World) (hn : n ≤ 4) (hw : win ≤ 100) :
    Calls Tryz.prog 94 #[.int .i64 (kind : Int), .int .i64 (n : Int), .int .i64 (win : Int)] w fun e w' => ∃ st F, e = .returned st ∧ (∀ fs, StoreAt w' st F n win 0 0 fs) ∧ (∀ k, F k → w.heap.size ≤ k ∧ k < w'.heap.size) ∧ Below w.heap.size w w' := by
  have hz : ∀ W : World, (zeroValue 228).run Tryz.prog W = .ok (.agg zPast.toArray) W := fun W => (zero_of_info Tryz.infoPast).1 W
  go_enter Tryz.func94, Tryz.ntmps94
  go_wp2_with fail
  refine (start_any n w hn).mono ?_
  rintro e w1 ⟨rfl, hb1⟩
  go_wp2_with fail
  refine (ringIn_any win w1 (by omega)).mono ?_
  rintro e w2 ⟨pb, rfl, hpb, hring, hb2⟩
  have hlen := startTo_len n
  have hbd := build_past n (startTo n) pb win hlen
  have hcl := paCells_len n (startTo n) pb win hlen
  obtain ⟨C, hC⟩ : ∃ C, paCells n (startTo n) pb win = C := ⟨_, rfl⟩
  rw [hC] at hbd hcl
  have HC := hide hC
  clear hC
  have H2 := hide (And.intro hb1 (And.intro hpb (And.intro hring hb2)))
  clear hb1 hpb hring hb2
  have hone : C.toArray.all (·.oneCell') = true := by rw [← unhide HC]; exact paCells_one _ _ _ _
  have hszC : (Tryz.prog.info? 228).map (·.size) = some C.toArray.size := by rw [List.size_toArray, hcl]; exact (zero_of_info Tryz.infoPast).2
  have hsz2 : C.toArray.size = zPast.toArray.size := by rw [List.size_toArray, List.size_toArray, hcl, zPast_len]
  have hx0 : Blk (w2.alloc (.cells zPast.toArray 228)) w2.heap.size zPast.toArray 228 := Blk.new _ _ _
  by_cases hk1 : kind = 1
  · have hd : ((kind : Int) == 1) = true := by rw [beq_iff_eq]; omega
    clear hk1
    go_wp2_with (first
      | (refine wpList_build rfl 228 _ rfl #[(0, .int .i64 (n : Int)), (2, .agg (nums .u8 (startTo n))), (3, .agg #[.slice (some ⟨pb, 0, none⟩) win win])] (by simp [Act.eval]) C.toArray (hbd _) ?_)
      | (refine wpList_store_blk rfl 228 _ _ rfl w2.heap.size 228 zPast.toArray C.toArray rfl rfl hx0 hszC hsz2.symm hone ?_)
      | (refine wpList_load_blk rfl 228 _ rfl w2.heap.size rfl 228 C.toArray _ (hx0.setRow _) Tryz.underlying228 rfl hszC ?_))
    refine (newDelta_any C win _ hcl hw).mono ?_
    rintro e w5 ⟨sb, rb, mb, rfl, hrb, hsb, hB5, hD5, hb5⟩
    have H5 := hide (And.intro hrb (And.intro hB5 (And.intro hD5 hb5)))
    clear hrb hB5 hD5 hb5 hbd
    go_wp2
    go_ret
    obtain ⟨hb1, hpb, hring, hb2⟩ := unhide H2
    obtain ⟨hrb, hB5, hD5, hb5⟩ := unhide H5
    have z1 := hb1.size
    have z2 := hb2.size
    have hbR : Below w2.heap.size w2 ((w2.alloc (.cells zPast.toArray 228)).setRow w2.heap.size C.toArray) := below_setRow ((Below.refl _ w2).alloc (Nat.le_refl _) _) (Nat.le_refl _) _
    have z3 := hbR.size
    have z4 := hb5.size
    have hb25 : Below w2.heap.size w2 w5 := hbR.trans (hb5.mono z3)
    have hring5 : ∃ C, Blk w5 pb C 187 ∧ C.size = win * 4 := by
      obtain ⟨R, hR, hRs⟩ := hring
      exact ⟨R, (hb25.block pb hR.lt).trans hR, hRs⟩
    have hpl : pb < w2.heap.size := by obtain ⟨R, hR, _⟩ := hring; exact hR.lt
    rw [← unhide HC] at hB5
    have hsl := hB5.lt
    refine ⟨_, fun k => k = sb ∨ k = pb ∨ k = rb ∨ ∃ i, i < win + 1 ∧ k = mb i, rfl, fun fs => .inr ⟨sb, pb, rb, mb, rfl, delta_made hn hB5 hring5 hD5 (by omega) hsb fs⟩, fun k hk => ?_, (hb1.trans (hb2.mono z1)).trans (hb25.mono (by omega))⟩
    rcases hk with rfl | rfl | rfl | ⟨i, hi, rfl⟩
    · omega
    · omega
    · omega
    · have h1 := (hD5.maps i hi).2
      have h2 := (hD5.maps i hi).1.lt
      omega
  · have hd : ((kind : Int) == 1) = false := by rw [beq_eq_false_iff_ne]; omega
    clear hk1
    go_wp2_with (first
      | (refine wpList_build rfl 228 _ rfl #[(0, .int .i64 (n : Int)), (2, .agg (nums .u8 (startTo n))), (3, .agg #[.slice (some ⟨pb, 0, none⟩) win win])] (by simp [Act.eval]) C.toArray (hbd _) ?_)
      | (refine wpList_store_blk rfl 228 _ _ rfl w2.heap.size 228 zPast.toArray C.toArray rfl rfl hx0 hszC hsz2.symm hone ?_)
      | (refine wpList_load_blk rfl 228 _ rfl w2.heap.size rfl 228 C.toArray _ (hx0.setRow _) Tryz.underlying228 rfl hszC ?_))
    refine (newFull_any C win _ hcl hw).mono ?_
    rintro e w5 ⟨sb, rb, rfl, hrb, hsb, hB5, hD5, hb5⟩
    have H5 := hide (And.intro hrb (And.intro hB5 (And.intro hD5 hb5)))
    clear hrb hB5 hD5 hb5 hbd
    go_wp2
    go_ret
    obtain ⟨hb1, hpb, hring, hb2⟩ := unhide H2
    obtain ⟨hrb, hB5, hD5, hb5⟩ := unhide H5
    have z1 := hb1.size
    have z2 := hb2.size
    have hbR : Below w2.heap.size w2 ((w2.alloc (.cells zPast.toArray 228)).setRow w2.heap.size C.toArray) := below_setRow ((Below.refl _ w2).alloc (Nat.le_refl _) _) (Nat.le_refl _) _
    have z3 := hbR.size
    have z4 := hb5.size
    have hb25 : Below w2.heap.size w2 w5 := hbR.trans (hb5.mono z3)
    have hring5 : ∃ C, Blk w5 pb C 187 ∧ C.size = win * 4 := by
      obtain ⟨R, hR, hRs⟩ := hring
      exact ⟨R, (hb25.block pb hR.lt).trans hR, hRs⟩
    have hpl : pb < w2.heap.size := by obtain ⟨R, hR, _⟩ := hring; exact hR.lt
    rw [← unhide HC] at hB5
    have hsl := hB5.lt
    obtain ⟨D5, hD5a, hD5b⟩ := hD5
    refine ⟨_, fun k => k = sb ∨ k = pb ∨ k = rb, rfl, fun fs => .inl ⟨sb, pb, rb, rfl, full_made hn hB5 hring5 ⟨D5, hD5a, hD5b⟩ (by omega) (by omega) (by omega) fs⟩, fun k hk => ?_, (hb1.trans (hb2.mono z1)).trans (hb25.mono (by omega))⟩
    rcases hk with rfl | rfl | rfl <;> omega
end Go.Proofs.YtandblanpafjoabGreatDoor
