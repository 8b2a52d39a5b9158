/-
  DERIVED. GIVEN WITH THE SEED: THE CARDS: each row of YtandblanpafjoaaDoorRows.lean that lists a variable, with what it lists TIED to the program's text (the seventh form; the later family's looks); each row that meets fmt, with fmt's text TOLD by the authors' own Lean function (tested against real Go, not proved from fmt's source: count such statements apart). THE CARD IS WHAT COUNTS. Prove the row's statement (the work); the ties are given (YtandblanpafjoaaDoorTie.lean); close each card by the builder's one call (the guide's Derived/Test/ToyasCard.lean, 'card_holds'). Laid BY PROGRAM, IN A SANDBOX (cutbox-door.mjs). By AI agents, Wed Nov 11 2026. No macro, syntax, notation, axiom, sorry.
-/
import Derived.Test.YtandblanpafjoaaDoorRows
import GoSem.ClaimSeven
namespace Go.Proofs.YtandblanpafjoaaDoor
namespace Rows

/-- THE TIED CARD OF 'rollbacklaw.Names'. -/
def namesCard : Claim7 := { stood := { row := namesRow, standIns := [], harness := (true, "d2b802f2ee56212844d5cd325fc973d4ca364f28a235843f3c9556e30766c880"), looks := true }, kinds := [], alts := [], laidByText := true, laidKinds := [.handle], laidTests := true, laidLooks := .later }
def NamesCardSaid : Prop := Claim7.holds Tryd.pinned (.plain (OpenSpec.ofChange namesSpec)) namesCard

/-- THE TIED CARD OF 'rollbacklaw.Plays'. -/
def playsCard : Claim7 := { stood := { row := playsRow, standIns := [], harness := (true, "d2b802f2ee56212844d5cd325fc973d4ca364f28a235843f3c9556e30766c880"), looks := true }, kinds := [], alts := [], laidByText := true, laidKinds := [.handle], laidTests := true, laidLooks := .later }
def PlaysCardSaid : Prop := Claim7.holds Tryd.pinned (.plain (OpenSpec.ofChange playsSpec)) playsCard

/-- THE TIED CARD OF 'rollbacklaw.Digests'. -/
def digestsCard : Claim7 := { stood := { row := digestsRow, standIns := [], harness := (true, "d2b802f2ee56212844d5cd325fc973d4ca364f28a235843f3c9556e30766c880"), looks := true }, kinds := [], alts := [], laidByText := true, laidKinds := [.handle], laidTests := true, laidLooks := .later }
def DigestsCardSaid : Prop := Claim7.holds Tryd.pinned (.plain (OpenSpec.ofChange digestsSpec)) digestsCard

/-- THE TIED CARD OF 'rollbacklaw.Packs'. -/
def packsCard : Claim7 := { stood := { row := packsRow, standIns := [], harness := (true, "d2b802f2ee56212844d5cd325fc973d4ca364f28a235843f3c9556e30766c880"), looks := true }, kinds := [], alts := [], laidByText := true, laidKinds := [.handle], laidTests := true, laidLooks := .later }
def PacksCardSaid : Prop := Claim7.holds Tryd.pinned (.plain (OpenSpec.ofChange packsSpec)) packsCard

/-- THE TIED CARD OF 'rollbacklaw.Unpacks'. -/
def unpacksCard : Claim7 := { stood := { row := unpacksRow, standIns := [], harness := (true, "d2b802f2ee56212844d5cd325fc973d4ca364f28a235843f3c9556e30766c880"), looks := true }, kinds := [], alts := [], laidByText := true, laidKinds := [.handle], laidTests := true, laidLooks := .later }
def UnpacksCardSaid : Prop := Claim7.holds Tryd.pinned (.plain (OpenSpec.ofChange unpacksSpec)) unpacksCard

/-- THE TIED CARD OF 'rollbackkeep.Rounded'. -/
def roundedCard : Claim7 := { stood := { row := roundedRow, standIns := [], harness := (true, "d2b802f2ee56212844d5cd325fc973d4ca364f28a235843f3c9556e30766c880"), looks := true }, kinds := [], alts := [], laidByText := true, laidKinds := [.handle], laidTests := true, laidLooks := .later }
def RoundedCardSaid : Prop := Claim7.holds Tryd.pinned (.plain (OpenSpec.ofChange roundedSpec)) roundedCard

/-- THE TIED CARD OF 'rollbackkeep.Painted'. -/
def paintedCard : Claim7 := { stood := { row := paintedRow, standIns := [], harness := (true, "d2b802f2ee56212844d5cd325fc973d4ca364f28a235843f3c9556e30766c880"), looks := true }, kinds := [], alts := [], laidByText := true, laidKinds := [.handle], laidTests := true, laidLooks := .later }
def PaintedCardSaid : Prop := Claim7.holds Tryd.pinned (.plain (OpenSpec.ofChange paintedSpec)) paintedCard

/-- THE SECOND FORM's CARD OF 'rollbacklaw.Names'. -/
def namesUptoCard : Claim7 := { stood := { row := namesUptoRow, standIns := [], harness := (true, "d2b802f2ee56212844d5cd325fc973d4ca364f28a235843f3c9556e30766c880"), looks := true }, kinds := [], alts := [], laidByText := true, laidKinds := [.handle], laidTests := true, laidLooks := .later }
def NamesUptoCardSaid : Prop := Claim7.holds Tryd.pinned (.plain (OpenSpec.upto namesSpec)) namesUptoCard

/-- THE SECOND FORM's CARD OF 'rollbacklaw.Plays'. -/
def playsUptoCard : Claim7 := { stood := { row := playsUptoRow, standIns := [], harness := (true, "d2b802f2ee56212844d5cd325fc973d4ca364f28a235843f3c9556e30766c880"), looks := true }, kinds := [], alts := [], laidByText := true, laidKinds := [.handle], laidTests := true, laidLooks := .later }
def PlaysUptoCardSaid : Prop := Claim7.holds Tryd.pinned (.plain (OpenSpec.upto playsSpec)) playsUptoCard

/-- THE SECOND FORM's CARD OF 'rollbacklaw.Digests'. -/
def digestsUptoCard : Claim7 := { stood := { row := digestsUptoRow, standIns := [], harness := (true, "d2b802f2ee56212844d5cd325fc973d4ca364f28a235843f3c9556e30766c880"), looks := true }, kinds := [], alts := [], laidByText := true, laidKinds := [.handle], laidTests := true, laidLooks := .later }
def DigestsUptoCardSaid : Prop := Claim7.holds Tryd.pinned (.plain (OpenSpec.upto digestsSpec)) digestsUptoCard

/-- THE SECOND FORM's CARD OF 'rollbacklaw.Packs'. -/
def packsUptoCard : Claim7 := { stood := { row := packsUptoRow, standIns := [], harness := (true, "d2b802f2ee56212844d5cd325fc973d4ca364f28a235843f3c9556e30766c880"), looks := true }, kinds := [], alts := [], laidByText := true, laidKinds := [.handle], laidTests := true, laidLooks := .later }
def PacksUptoCardSaid : Prop := Claim7.holds Tryd.pinned (.plain (OpenSpec.upto packsSpec)) packsUptoCard

/-- THE SECOND FORM's CARD OF 'rollbacklaw.Unpacks'. -/
def unpacksUptoCard : Claim7 := { stood := { row := unpacksUptoRow, standIns := [], harness := (true, "d2b802f2ee56212844d5cd325fc973d4ca364f28a235843f3c9556e30766c880"), looks := true }, kinds := [], alts := [], laidByText := true, laidKinds := [.handle], laidTests := true, laidLooks := .later }
def UnpacksUptoCardSaid : Prop := Claim7.holds Tryd.pinned (.plain (OpenSpec.upto unpacksSpec)) unpacksUptoCard

/-- THE SECOND FORM's CARD OF 'rollbackkeep.Rounded'. -/
def roundedUptoCard : Claim7 := { stood := { row := roundedUptoRow, standIns := [], harness := (true, "d2b802f2ee56212844d5cd325fc973d4ca364f28a235843f3c9556e30766c880"), looks := true }, kinds := [], alts := [], laidByText := true, laidKinds := [.handle], laidTests := true, laidLooks := .later }
def RoundedUptoCardSaid : Prop := Claim7.holds Tryd.pinned (.plain (OpenSpec.upto roundedSpec)) roundedUptoCard

/-- THE SECOND FORM's CARD OF 'rollbackkeep.Painted'. -/
def paintedUptoCard : Claim7 := { stood := { row := paintedUptoRow, standIns := [], harness := (true, "d2b802f2ee56212844d5cd325fc973d4ca364f28a235843f3c9556e30766c880"), looks := true }, kinds := [], alts := [], laidByText := true, laidKinds := [.handle], laidTests := true, laidLooks := .later }
def PaintedUptoCardSaid : Prop := Claim7.holds Tryd.pinned (.plain (OpenSpec.upto paintedSpec)) paintedUptoCard
end Rows
end Go.Proofs.YtandblanpafjoaaDoor
