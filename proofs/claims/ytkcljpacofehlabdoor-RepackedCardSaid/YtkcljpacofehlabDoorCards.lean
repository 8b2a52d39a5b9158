/-
  DERIVED. GIVEN WITH THE SEED: THE CARDS: each row of YtkcljpacofehlabDoorRows.lean that lists a variable, with what it lists TIED to the program's text (the seventh form; the later family's looks); each row that meets fmt, with fmt's text TOLD by the authors' own Lean function (tested against real Go, not proved from fmt's source: count such statements apart). THE CARD IS WHAT COUNTS. Prove the row's statement (the work); the ties are given (YtkcljpacofehlabDoorTie.lean); close each card by the builder's one call (the guide's Derived/Test/ToyasCard.lean, 'card_holds'). Laid BY PROGRAM, IN A SANDBOX (cutbox-door.mjs). By AI agents, Wed Nov 11 2026. No macro, syntax, notation, axiom, sorry.
-/
import Derived.Test.YtkcljpacofehlabDoorRows
import GoSem.ClaimSeven
namespace Go.Proofs.YtkcljpacofehlabDoor
namespace Rows

/-- THE TIED CARD OF 'rollbackkeep.Repacked'. -/
def repackedCard : Claim7 := { stood := { row := repackedRow, standIns := [], harness := (true, "6fef05e826d8a13d275f62f0b76b5088803e7a94dec9717a1b27631500d01f1e"), looks := true }, kinds := [], alts := [], laidByText := true, laidKinds := [.handle], laidTests := true, laidLooks := .later }
def RepackedCardSaid : Prop := Claim7.holds Tryd.pinned (.plain (OpenSpec.ofChange repackedSpec)) repackedCard

/-- THE TIED CARD OF 'rollbackkeep.Refused'. -/
def refusedCard : Claim7 := { stood := { row := refusedRow, standIns := [], harness := (true, "6fef05e826d8a13d275f62f0b76b5088803e7a94dec9717a1b27631500d01f1e"), looks := true }, kinds := [], alts := [], laidByText := true, laidKinds := [.handle], laidTests := true, laidLooks := .later }
def RefusedCardSaid : Prop := Claim7.holds Tryd.pinned (.plain (OpenSpec.ofChange refusedSpec)) refusedCard

/-- THE SECOND FORM's CARD OF 'rollbackkeep.Repacked'. -/
def repackedUptoCard : Claim7 := { stood := { row := repackedUptoRow, standIns := [], harness := (true, "6fef05e826d8a13d275f62f0b76b5088803e7a94dec9717a1b27631500d01f1e"), looks := true }, kinds := [], alts := [], laidByText := true, laidKinds := [.handle], laidTests := true, laidLooks := .later }
def RepackedUptoCardSaid : Prop := Claim7.holds Tryd.pinned (.plain (OpenSpec.upto repackedSpec)) repackedUptoCard

/-- THE SECOND FORM's CARD OF 'rollbackkeep.Refused'. -/
def refusedUptoCard : Claim7 := { stood := { row := refusedUptoRow, standIns := [], harness := (true, "6fef05e826d8a13d275f62f0b76b5088803e7a94dec9717a1b27631500d01f1e"), looks := true }, kinds := [], alts := [], laidByText := true, laidKinds := [.handle], laidTests := true, laidLooks := .later }
def RefusedUptoCardSaid : Prop := Claim7.holds Tryd.pinned (.plain (OpenSpec.upto refusedSpec)) refusedUptoCard
end Rows
end Go.Proofs.YtkcljpacofehlabDoor
