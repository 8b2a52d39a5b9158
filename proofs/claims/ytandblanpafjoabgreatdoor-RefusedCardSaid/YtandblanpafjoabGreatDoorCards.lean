/-
  DERIVED. GIVEN WITH THE SEED: THE CARDS: each row of YtandblanpafjoabGreatDoorRows.lean that lists a variable, with what it lists TIED to the program's text (the seventh form; the later family's looks); each row that meets fmt, with fmt's text TOLD by the authors' own Lean function (tested against real Go, not proved from fmt's source: count such statements apart). THE CARD IS WHAT COUNTS. Prove the row's statement (the work); the ties are given (YtandblanpafjoabGreatDoorTie.lean); close each card by the builder's one call (the guide's Derived/Test/ToyasCard.lean, 'card_holds'). Laid BY PROGRAM, IN A SANDBOX (cutbox-door.mjs). By AI agents, Wed Nov 11 2026. No macro, syntax, notation, axiom, sorry.
-/
import Derived.Test.YtandblanpafjoabGreatDoorRows
import GoSem.ClaimSeven
namespace Go.Proofs.YtandblanpafjoabGreatDoor
namespace Rows

/-- THE TIED CARD OF 'rollbackkeep.Alike'. -/
def alikeCard : Claim7 := { stood := { row := alikeRow, standIns := [], harness := (true, "e143111748fcd231b3ff30a782bbffa915475472344dbef4e635cfe690bb2d82"), looks := true }, kinds := [], alts := [], laidByText := true, laidKinds := [.handle], laidTests := true, laidLooks := .later }
def AlikeCardSaid : Prop := Claim7.holds Tryz.pinned (.plain (OpenSpec.ofChange alikeSpec)) alikeCard

/-- THE TIED CARD OF 'rollbackkeep.True'. -/
def trueCard : Claim7 := { stood := { row := trueRow, standIns := [], harness := (true, "e143111748fcd231b3ff30a782bbffa915475472344dbef4e635cfe690bb2d82"), looks := true }, kinds := [], alts := [], laidByText := true, laidKinds := [.handle], laidTests := true, laidLooks := .later }
def TrueCardSaid : Prop := Claim7.holds Tryz.pinned (.plain (OpenSpec.ofChange trueSpec)) trueCard

/-- THE TIED CARD OF 'rollbackkeep.Settled'. -/
def settledCard : Claim7 := { stood := { row := settledRow, standIns := [], harness := (true, "e143111748fcd231b3ff30a782bbffa915475472344dbef4e635cfe690bb2d82"), looks := true }, kinds := [], alts := [], laidByText := true, laidKinds := [.handle], laidTests := true, laidLooks := .later }
def SettledCardSaid : Prop := Claim7.holds Tryz.pinned (.plain (OpenSpec.ofChange settledSpec)) settledCard

/-- THE TIED CARD OF 'rollbackkeep.Stalled'. -/
def stalledCard : Claim7 := { stood := { row := stalledRow, standIns := [], harness := (true, "e143111748fcd231b3ff30a782bbffa915475472344dbef4e635cfe690bb2d82"), looks := true }, kinds := [], alts := [], laidByText := true, laidKinds := [.handle], laidTests := true, laidLooks := .later }
def StalledCardSaid : Prop := Claim7.holds Tryz.pinned (.plain (OpenSpec.ofChange stalledSpec)) stalledCard

/-- THE TIED CARD OF 'rollbackkeep.Refused'. -/
def refusedCard : Claim7 := { stood := { row := refusedRow, standIns := [], harness := (true, "e143111748fcd231b3ff30a782bbffa915475472344dbef4e635cfe690bb2d82"), looks := true }, kinds := [], alts := [], laidByText := true, laidKinds := [.handle], laidTests := true, laidLooks := .later }
def RefusedCardSaid : Prop := Claim7.holds Tryz.pinned (.plain (OpenSpec.ofChange refusedSpec)) refusedCard

/-- THE TIED CARD OF 'rollbackkeep.Guessed'. -/
def guessedCard : Claim7 := { stood := { row := guessedRow, standIns := [], harness := (true, "e143111748fcd231b3ff30a782bbffa915475472344dbef4e635cfe690bb2d82"), looks := true }, kinds := [], alts := [], laidByText := true, laidKinds := [.handle], laidTests := true, laidLooks := .later }
def GuessedCardSaid : Prop := Claim7.holds Tryz.pinned (.plain (OpenSpec.ofChange guessedSpec)) guessedCard

/-- THE SECOND FORM's CARD OF 'rollbackkeep.Alike'. -/
def alikeUptoCard : Claim7 := { stood := { row := alikeUptoRow, standIns := [], harness := (true, "e143111748fcd231b3ff30a782bbffa915475472344dbef4e635cfe690bb2d82"), looks := true }, kinds := [], alts := [], laidByText := true, laidKinds := [.handle], laidTests := true, laidLooks := .later }
def AlikeUptoCardSaid : Prop := Claim7.holds Tryz.pinned (.plain (OpenSpec.upto alikeSpec)) alikeUptoCard

/-- THE SECOND FORM's CARD OF 'rollbackkeep.True'. -/
def trueUptoCard : Claim7 := { stood := { row := trueUptoRow, standIns := [], harness := (true, "e143111748fcd231b3ff30a782bbffa915475472344dbef4e635cfe690bb2d82"), looks := true }, kinds := [], alts := [], laidByText := true, laidKinds := [.handle], laidTests := true, laidLooks := .later }
def TrueUptoCardSaid : Prop := Claim7.holds Tryz.pinned (.plain (OpenSpec.upto trueSpec)) trueUptoCard

/-- THE SECOND FORM's CARD OF 'rollbackkeep.Settled'. -/
def settledUptoCard : Claim7 := { stood := { row := settledUptoRow, standIns := [], harness := (true, "e143111748fcd231b3ff30a782bbffa915475472344dbef4e635cfe690bb2d82"), looks := true }, kinds := [], alts := [], laidByText := true, laidKinds := [.handle], laidTests := true, laidLooks := .later }
def SettledUptoCardSaid : Prop := Claim7.holds Tryz.pinned (.plain (OpenSpec.upto settledSpec)) settledUptoCard

/-- THE SECOND FORM's CARD OF 'rollbackkeep.Stalled'. -/
def stalledUptoCard : Claim7 := { stood := { row := stalledUptoRow, standIns := [], harness := (true, "e143111748fcd231b3ff30a782bbffa915475472344dbef4e635cfe690bb2d82"), looks := true }, kinds := [], alts := [], laidByText := true, laidKinds := [.handle], laidTests := true, laidLooks := .later }
def StalledUptoCardSaid : Prop := Claim7.holds Tryz.pinned (.plain (OpenSpec.upto stalledSpec)) stalledUptoCard

/-- THE SECOND FORM's CARD OF 'rollbackkeep.Refused'. -/
def refusedUptoCard : Claim7 := { stood := { row := refusedUptoRow, standIns := [], harness := (true, "e143111748fcd231b3ff30a782bbffa915475472344dbef4e635cfe690bb2d82"), looks := true }, kinds := [], alts := [], laidByText := true, laidKinds := [.handle], laidTests := true, laidLooks := .later }
def RefusedUptoCardSaid : Prop := Claim7.holds Tryz.pinned (.plain (OpenSpec.upto refusedSpec)) refusedUptoCard

/-- THE SECOND FORM's CARD OF 'rollbackkeep.Guessed'. -/
def guessedUptoCard : Claim7 := { stood := { row := guessedUptoRow, standIns := [], harness := (true, "e143111748fcd231b3ff30a782bbffa915475472344dbef4e635cfe690bb2d82"), looks := true }, kinds := [], alts := [], laidByText := true, laidKinds := [.handle], laidTests := true, laidLooks := .later }
def GuessedUptoCardSaid : Prop := Claim7.holds Tryz.pinned (.plain (OpenSpec.upto guessedSpec)) guessedUptoCard
end Rows
end Go.Proofs.YtandblanpafjoabGreatDoor
