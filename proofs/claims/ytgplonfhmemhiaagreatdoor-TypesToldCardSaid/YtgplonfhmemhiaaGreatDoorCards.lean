/-
  DERIVED. GIVEN WITH THE SEED: THE CARDS: each row of YtgplonfhmemhiaaGreatDoorRows.lean that lists a variable, with what it lists TIED to the program's text (the seventh form; the later family's looks); each row that meets fmt, with fmt's text TOLD by the authors' own Lean function (tested against real Go, not proved from fmt's source: count such statements apart). THE CARD IS WHAT COUNTS. Prove the row's statement (the work); the ties are given (YtgplonfhmemhiaaGreatDoorTie.lean); close each card by the builder's one call (the guide's Derived/Test/ToyasCard.lean, 'card_holds'). Laid BY PROGRAM, IN A SANDBOX (cutbox-door.mjs). By AI agents, Wed Nov 11 2026. No macro, syntax, notation, axiom, sorry.
-/
import Derived.Test.YtgplonfhmemhiaaGreatDoorRows
import GoSem.ClaimSeven
namespace Go.Proofs.YtgplonfhmemhiaaGreatDoor
namespace Rows

/-- THE TIED CARD OF 'catapultlaw08.TypesSizes'. -/
def typesSizesCard : Claim7 := { stood := { row := typesSizesRow, standIns := [], harness := (true, "58e510dadf1fc1e5f3c05ef1f945e4b4c3386d2835c7f442d713eec8ad43ee69"), looks := true }, kinds := [], alts := [], laidByText := true, laidKinds := [.data, .data, .data, .sentinel, .sentinel], laidTests := true, laidLooks := .later }
def TypesSizesCardSaid : Prop := Claim7.holds Tryz.pinned (.plain (OpenSpec.ofChange typesSizesSpec)) typesSizesCard

/-- THE TIED CARD OF 'catapultlaw08.TypesTwice'. -/
def typesTwiceCard : Claim7 := { stood := { row := typesTwiceRow, standIns := [], harness := (true, "58e510dadf1fc1e5f3c05ef1f945e4b4c3386d2835c7f442d713eec8ad43ee69"), looks := true }, kinds := [], alts := [], laidByText := true, laidKinds := [.data, .data, .data, .sentinel, .sentinel], laidTests := true, laidLooks := .later }
def TypesTwiceCardSaid : Prop := Claim7.holds Tryz.pinned (.plain (OpenSpec.ofChange typesTwiceSpec)) typesTwiceCard

/-- THE TIED CARD OF 'catapultlaw08.TypesApart'. -/
def typesApartCard : Claim7 := { stood := { row := typesApartRow, standIns := [], harness := (true, "58e510dadf1fc1e5f3c05ef1f945e4b4c3386d2835c7f442d713eec8ad43ee69"), looks := true }, kinds := [], alts := [], laidByText := true, laidKinds := [.data, .data, .data, .sentinel, .sentinel], laidTests := true, laidLooks := .later }
def TypesApartCardSaid : Prop := Claim7.holds Tryz.pinned (.plain (OpenSpec.ofChange typesApartSpec)) typesApartCard

/-- THE TIED CARD OF 'catapultlaw08.TypesTold'. -/
def typesToldCard : Claim7 := { stood := { row := typesToldRow, standIns := [], harness := (true, "58e510dadf1fc1e5f3c05ef1f945e4b4c3386d2835c7f442d713eec8ad43ee69"), looks := true }, kinds := [], alts := [], laidByText := true, laidKinds := [.data, .data, .data, .sentinel, .sentinel], laidTests := true, laidLooks := .later }
def TypesToldCardSaid : Prop := Claim7.holds Tryz.pinned (.plain (OpenSpec.ofChange typesToldSpec)) typesToldCard

/-- THE SECOND FORM's CARD OF 'catapultlaw08.TypesSizes'. -/
def typesSizesUptoCard : Claim7 := { stood := { row := typesSizesUptoRow, standIns := [], harness := (true, "58e510dadf1fc1e5f3c05ef1f945e4b4c3386d2835c7f442d713eec8ad43ee69"), looks := true }, kinds := [], alts := [], laidByText := true, laidKinds := [.data, .data, .data, .sentinel, .sentinel], laidTests := true, laidLooks := .later }
def TypesSizesUptoCardSaid : Prop := Claim7.holds Tryz.pinned (.plain (OpenSpec.upto typesSizesSpec)) typesSizesUptoCard

/-- THE SECOND FORM's CARD OF 'catapultlaw08.TypesTwice'. -/
def typesTwiceUptoCard : Claim7 := { stood := { row := typesTwiceUptoRow, standIns := [], harness := (true, "58e510dadf1fc1e5f3c05ef1f945e4b4c3386d2835c7f442d713eec8ad43ee69"), looks := true }, kinds := [], alts := [], laidByText := true, laidKinds := [.data, .data, .data, .sentinel, .sentinel], laidTests := true, laidLooks := .later }
def TypesTwiceUptoCardSaid : Prop := Claim7.holds Tryz.pinned (.plain (OpenSpec.upto typesTwiceSpec)) typesTwiceUptoCard

/-- THE SECOND FORM's CARD OF 'catapultlaw08.TypesApart'. -/
def typesApartUptoCard : Claim7 := { stood := { row := typesApartUptoRow, standIns := [], harness := (true, "58e510dadf1fc1e5f3c05ef1f945e4b4c3386d2835c7f442d713eec8ad43ee69"), looks := true }, kinds := [], alts := [], laidByText := true, laidKinds := [.data, .data, .data, .sentinel, .sentinel], laidTests := true, laidLooks := .later }
def TypesApartUptoCardSaid : Prop := Claim7.holds Tryz.pinned (.plain (OpenSpec.upto typesApartSpec)) typesApartUptoCard

/-- THE SECOND FORM's CARD OF 'catapultlaw08.TypesTold'. -/
def typesToldUptoCard : Claim7 := { stood := { row := typesToldUptoRow, standIns := [], harness := (true, "58e510dadf1fc1e5f3c05ef1f945e4b4c3386d2835c7f442d713eec8ad43ee69"), looks := true }, kinds := [], alts := [], laidByText := true, laidKinds := [.data, .data, .data, .sentinel, .sentinel], laidTests := true, laidLooks := .later }
def TypesToldUptoCardSaid : Prop := Claim7.holds Tryz.pinned (.plain (OpenSpec.upto typesToldSpec)) typesToldUptoCard
end Rows
end Go.Proofs.YtgplonfhmemhiaaGreatDoor
