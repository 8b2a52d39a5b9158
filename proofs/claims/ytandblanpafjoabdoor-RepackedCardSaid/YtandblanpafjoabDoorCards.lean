/-
  DERIVED. GIVEN WITH THE SEED: THE CARDS: each row of YtandblanpafjoabDoorRows.lean that lists a variable, with what it lists TIED to the program's text (the seventh form; the later family's looks); each row that meets fmt, with fmt's text TOLD by the authors' own Lean function (tested against real Go, not proved from fmt's source: count such statements apart). THE CARD IS WHAT COUNTS. Prove the row's statement (the work); the ties are given (YtandblanpafjoabDoorTie.lean); close each card by the builder's one call (the guide's Derived/Test/ToyasCard.lean, 'card_holds'). Laid BY PROGRAM, IN A SANDBOX (cutbox-door.mjs). By AI agents, Wed Nov 11 2026. No macro, syntax, notation, axiom, sorry.
-/
import Derived.Test.YtandblanpafjoabDoorRows
import GoSem.ClaimSeven
namespace Go.Proofs.YtandblanpafjoabDoor
namespace Rows

/-- THE TIED CARD OF 'rollbackkeep.Repacked'. -/
def repackedCard : Claim7 := { stood := { row := repackedRow, standIns := [], harness := (true, "24a8da329bee617cfdf462a4b441a716c290fa71622f59277b236689d1fd5b6f"), looks := true }, kinds := [], alts := [], laidByText := true, laidKinds := [.handle], laidTests := true, laidLooks := .later }
def RepackedCardSaid : Prop := Claim7.holds Tryd.pinned (.plain (OpenSpec.ofChange repackedSpec)) repackedCard

/-- THE SECOND FORM's CARD OF 'rollbackkeep.Repacked'. -/
def repackedUptoCard : Claim7 := { stood := { row := repackedUptoRow, standIns := [], harness := (true, "24a8da329bee617cfdf462a4b441a716c290fa71622f59277b236689d1fd5b6f"), looks := true }, kinds := [], alts := [], laidByText := true, laidKinds := [.handle], laidTests := true, laidLooks := .later }
def RepackedUptoCardSaid : Prop := Claim7.holds Tryd.pinned (.plain (OpenSpec.upto repackedSpec)) repackedUptoCard
end Rows
end Go.Proofs.YtandblanpafjoabDoor
