/-
  DERIVED. GIVEN WITH THE SEED: THE CARDS: each row of YtandblanpafjoaaGreatDoorRows.lean that lists a variable, with what it lists TIED to the program's text (the seventh form; the later family's looks); each row that meets fmt, with fmt's text TOLD by the authors' own Lean function (tested against real Go, not proved from fmt's source: count such statements apart). THE CARD IS WHAT COUNTS. Prove the row's statement (the work); the ties are given (YtandblanpafjoaaGreatDoorTie.lean); close each card by the builder's one call (the guide's Derived/Test/ToyasCard.lean, 'card_holds'). Laid BY PROGRAM, IN A SANDBOX (cutbox-door.mjs). By AI agents, Wed Nov 11 2026. No macro, syntax, notation, axiom, sorry.
-/
import Derived.Test.YtandblanpafjoaaGreatDoorRows
import GoSem.ClaimSeven
namespace Go.Proofs.YtandblanpafjoaaGreatDoor
namespace Rows

/-- THE TIED CARD OF 'rollbacklaw.Peers'. -/
def peersCard : Claim7 := { stood := { row := peersRow, standIns := [], harness := (true, "5e3c60c49bb875775742a61b729eda31daa186fba41cf54464f243a414bdedf7"), looks := true }, kinds := [], alts := [], laidByText := true, laidKinds := [.handle], laidTests := true, laidLooks := .later }
def PeersCardSaid : Prop := Claim7.holds Tryz.pinned (.plain (OpenSpec.ofChange peersSpec)) peersCard

/-- THE TIED CARD OF 'rollbacklaw.Flying'. -/
def flyingCard : Claim7 := { stood := { row := flyingRow, standIns := [], harness := (true, "5e3c60c49bb875775742a61b729eda31daa186fba41cf54464f243a414bdedf7"), looks := true }, kinds := [], alts := [], laidByText := true, laidKinds := [.handle], laidTests := true, laidLooks := .later }
def FlyingCardSaid : Prop := Claim7.holds Tryz.pinned (.plain (OpenSpec.ofChange flyingSpec)) flyingCard

/-- THE TIED CARD OF 'rollbacklaw.States'. -/
def statesCard : Claim7 := { stood := { row := statesRow, standIns := [], harness := (true, "5e3c60c49bb875775742a61b729eda31daa186fba41cf54464f243a414bdedf7"), looks := true }, kinds := [], alts := [], laidByText := true, laidKinds := [.handle], laidTests := true, laidLooks := .later }
def StatesCardSaid : Prop := Claim7.holds Tryz.pinned (.plain (OpenSpec.ofChange statesSpec)) statesCard

/-- THE TIED CARD OF 'rollbacklaw.Handed'. -/
def handedCard : Claim7 := { stood := { row := handedRow, standIns := [], harness := (true, "5e3c60c49bb875775742a61b729eda31daa186fba41cf54464f243a414bdedf7"), looks := true }, kinds := [], alts := [], laidByText := true, laidKinds := [.handle], laidTests := true, laidLooks := .later }
def HandedCardSaid : Prop := Claim7.holds Tryz.pinned (.plain (OpenSpec.ofChange handedSpec)) handedCard

/-- THE TIED CARD OF 'rollbacklaw.All'. -/
def allCard : Claim7 := { stood := { row := allRow, standIns := [], harness := (true, "5e3c60c49bb875775742a61b729eda31daa186fba41cf54464f243a414bdedf7"), looks := true }, kinds := [], alts := [], laidByText := true, laidKinds := [.handle], laidTests := true, laidLooks := .later }
def AllCardSaid : Prop := Claim7.holds Tryz.pinned (.plain (OpenSpec.ofChange allSpec)) allCard

/-- THE SECOND FORM's CARD OF 'rollbacklaw.Peers'. -/
def peersUptoCard : Claim7 := { stood := { row := peersUptoRow, standIns := [], harness := (true, "5e3c60c49bb875775742a61b729eda31daa186fba41cf54464f243a414bdedf7"), looks := true }, kinds := [], alts := [], laidByText := true, laidKinds := [.handle], laidTests := true, laidLooks := .later }
def PeersUptoCardSaid : Prop := Claim7.holds Tryz.pinned (.plain (OpenSpec.upto peersSpec)) peersUptoCard

/-- THE SECOND FORM's CARD OF 'rollbacklaw.Flying'. -/
def flyingUptoCard : Claim7 := { stood := { row := flyingUptoRow, standIns := [], harness := (true, "5e3c60c49bb875775742a61b729eda31daa186fba41cf54464f243a414bdedf7"), looks := true }, kinds := [], alts := [], laidByText := true, laidKinds := [.handle], laidTests := true, laidLooks := .later }
def FlyingUptoCardSaid : Prop := Claim7.holds Tryz.pinned (.plain (OpenSpec.upto flyingSpec)) flyingUptoCard

/-- THE SECOND FORM's CARD OF 'rollbacklaw.States'. -/
def statesUptoCard : Claim7 := { stood := { row := statesUptoRow, standIns := [], harness := (true, "5e3c60c49bb875775742a61b729eda31daa186fba41cf54464f243a414bdedf7"), looks := true }, kinds := [], alts := [], laidByText := true, laidKinds := [.handle], laidTests := true, laidLooks := .later }
def StatesUptoCardSaid : Prop := Claim7.holds Tryz.pinned (.plain (OpenSpec.upto statesSpec)) statesUptoCard

/-- THE SECOND FORM's CARD OF 'rollbacklaw.Handed'. -/
def handedUptoCard : Claim7 := { stood := { row := handedUptoRow, standIns := [], harness := (true, "5e3c60c49bb875775742a61b729eda31daa186fba41cf54464f243a414bdedf7"), looks := true }, kinds := [], alts := [], laidByText := true, laidKinds := [.handle], laidTests := true, laidLooks := .later }
def HandedUptoCardSaid : Prop := Claim7.holds Tryz.pinned (.plain (OpenSpec.upto handedSpec)) handedUptoCard

/-- THE SECOND FORM's CARD OF 'rollbacklaw.All'. -/
def allUptoCard : Claim7 := { stood := { row := allUptoRow, standIns := [], harness := (true, "5e3c60c49bb875775742a61b729eda31daa186fba41cf54464f243a414bdedf7"), looks := true }, kinds := [], alts := [], laidByText := true, laidKinds := [.handle], laidTests := true, laidLooks := .later }
def AllUptoCardSaid : Prop := Claim7.holds Tryz.pinned (.plain (OpenSpec.upto allSpec)) allUptoCard
end Rows
end Go.Proofs.YtandblanpafjoaaGreatDoor
