import Derived.Test.YtandblanpafjoabGreatDoorUPk2
namespace Go.Proofs.YtandblanpafjoabGreatDoor
open Go.RowKit Go.Extern.Stop Go.Stop Go.Extern

/-! rollback.Unpack, and plain's. -/
theorem pkread_any (b o n c : Nat) (l : List Int) (w : World) (hl : l.length = n) (hn : n ≤ 70000) (hcap : n ≤ c) (hr : ∀ j : Nat, 0 ≤ l.getD j 0 ∧ l.getD j 0 ≤ 255)
    (hc : ∀ j, j < n → w.cell? ⟨b, o + j, none⟩ = some (.int .u8 (l.getD j 0))) (hbl : b < w.heap.size) :
    Calls Tryz.prog 79 #[.slice (some ⟨b, o, none⟩) n c] w fun e w' => Below w.heap.size w w' ∧
      ((¬ OkP l ∧ ∃ s, e = .returned (.tuple #[.agg Z4, .iface 219 (.agg #[.string s])])) ∨
       (OkP l ∧ ∃ g cap, e = .returned (.tuple #[.agg #[.int .i64 (fromL l), .int .i64 (startL l), .int .i64 (ackL l), .slice (some ⟨g, 0, none⟩) (n - 8) cap], .nilIface]) ∧ w'.ownsRow w.heap.size 5 1 (.slice (some ⟨g, 0, none⟩) (n - 8) cap) (n - 8) ((inputsL l).map (Value.int .u8)))) := by
  by_cases hf : Framed l
  · obtain ⟨k, rfl⟩ : ∃ k, n = k + 8 := ⟨n - 8, by have := hf.1; omega⟩
    refine (pkread_framed b o k c l w hl (by omega) hcap hr hc hbl hf).mono fun e w' ⟨hb, h⟩ => ⟨hb, ?_⟩
    have e8 : l.length - 8 = k := by omega
    rcases h with ⟨h1, h2⟩ | ⟨h1, h2⟩
    · exact .inl ⟨fun h => h1 (by have := h.2; rwa [e8] at this), h2⟩
    · refine .inr ⟨⟨hf, by rw [e8]; exact h1⟩, ?_⟩
      unfold inputsL
      rw [e8, show k + 8 - 8 = k by omega]
      exact h2
  · refine (pkread_frame b o n c l w hl hn hcap hr hc hbl hf).mono fun e w' ⟨h, hb⟩ => ⟨hb, .inl ⟨fun h' => hf h'.1, h⟩⟩

end Go.Proofs.YtandblanpafjoabGreatDoor
