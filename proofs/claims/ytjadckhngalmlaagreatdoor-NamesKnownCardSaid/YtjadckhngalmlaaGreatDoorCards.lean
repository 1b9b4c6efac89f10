/-
  DERIVED. GIVEN WITH THE SEED: THE CARDS: each row of YtjadckhngalmlaaGreatDoorRows.lean that lists a variable, with what it lists TIED to the program's text (the seventh form; the later family's looks); each row that meets fmt, with fmt's text TOLD by the authors' own Lean function (tested against real Go, not proved from fmt's source: count such statements apart). THE CARD IS WHAT COUNTS. Prove the row's statement (the work); the ties are given (YtjadckhngalmlaaGreatDoorTie.lean); close each card by the builder's one call (the guide's Derived/Test/ToyasCard.lean, 'card_holds'). Laid BY PROGRAM, IN A SANDBOX (cutbox-door.mjs). By AI agents, Wed Nov 11 2026. No macro, syntax, notation, axiom, sorry.
-/
import Derived.Test.YtjadckhngalmlaaGreatDoorRows
import GoSem.ClaimSeven
namespace Go.Proofs.YtjadckhngalmlaaGreatDoor
namespace Rows

/-- THE TIED CARD OF 'catapultlaw11.NamesCounts'. -/
def namesCountsCard : Claim7 := { stood := { row := namesCountsRow, standIns := [], harness := (true, "2caf08571aa86b4b09b0055932c50085c14e5bb9231c414893ccb1d232c1980e"), looks := true }, kinds := [], alts := [], laidByText := true, laidKinds := [.data, .data, .data, .sentinel, .sentinel], laidTests := true, laidLooks := .later }
def NamesCountsCardSaid : Prop := Claim7.holds Tryz.pinned (.plain (OpenSpec.ofChange namesCountsSpec)) namesCountsCard

/-- THE TIED CARD OF 'catapultlaw11.NamesHides'. -/
def namesHidesCard : Claim7 := { stood := { row := namesHidesRow, standIns := [], harness := (true, "2caf08571aa86b4b09b0055932c50085c14e5bb9231c414893ccb1d232c1980e"), looks := true }, kinds := [], alts := [], laidByText := true, laidKinds := [.data, .data, .data, .sentinel, .sentinel], laidTests := true, laidLooks := .later }
def NamesHidesCardSaid : Prop := Claim7.holds Tryz.pinned (.plain (OpenSpec.ofChange namesHidesSpec)) namesHidesCard

/-- THE TIED CARD OF 'catapultlaw11.NamesKnown'. -/
def namesKnownCard : Claim7 := { stood := { row := namesKnownRow, standIns := [], harness := (true, "2caf08571aa86b4b09b0055932c50085c14e5bb9231c414893ccb1d232c1980e"), looks := true }, kinds := [], alts := [], laidByText := true, laidKinds := [.data, .data, .data, .sentinel, .sentinel], laidTests := true, laidLooks := .later }
def NamesKnownCardSaid : Prop := Claim7.holds Tryz.pinned (.plain (OpenSpec.ofChange namesKnownSpec)) namesKnownCard

/-- THE SECOND FORM's CARD OF 'catapultlaw11.NamesCounts'. -/
def namesCountsUptoCard : Claim7 := { stood := { row := namesCountsUptoRow, standIns := [], harness := (true, "2caf08571aa86b4b09b0055932c50085c14e5bb9231c414893ccb1d232c1980e"), looks := true }, kinds := [], alts := [], laidByText := true, laidKinds := [.data, .data, .data, .sentinel, .sentinel], laidTests := true, laidLooks := .later }
def NamesCountsUptoCardSaid : Prop := Claim7.holds Tryz.pinned (.plain (OpenSpec.upto namesCountsSpec)) namesCountsUptoCard

/-- THE SECOND FORM's CARD OF 'catapultlaw11.NamesHides'. -/
def namesHidesUptoCard : Claim7 := { stood := { row := namesHidesUptoRow, standIns := [], harness := (true, "2caf08571aa86b4b09b0055932c50085c14e5bb9231c414893ccb1d232c1980e"), looks := true }, kinds := [], alts := [], laidByText := true, laidKinds := [.data, .data, .data, .sentinel, .sentinel], laidTests := true, laidLooks := .later }
def NamesHidesUptoCardSaid : Prop := Claim7.holds Tryz.pinned (.plain (OpenSpec.upto namesHidesSpec)) namesHidesUptoCard

/-- THE SECOND FORM's CARD OF 'catapultlaw11.NamesKnown'. -/
def namesKnownUptoCard : Claim7 := { stood := { row := namesKnownUptoRow, standIns := [], harness := (true, "2caf08571aa86b4b09b0055932c50085c14e5bb9231c414893ccb1d232c1980e"), looks := true }, kinds := [], alts := [], laidByText := true, laidKinds := [.data, .data, .data, .sentinel, .sentinel], laidTests := true, laidLooks := .later }
def NamesKnownUptoCardSaid : Prop := Claim7.holds Tryz.pinned (.plain (OpenSpec.upto namesKnownSpec)) namesKnownUptoCard
end Rows
end Go.Proofs.YtjadckhngalmlaaGreatDoor
