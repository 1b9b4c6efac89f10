/-
  DERIVED. GIVEN WITH THE SEED: THE CARDS: each row of YtnenhehnoolhlaaDoorRows.lean that lists a variable, with what it lists TIED to the program's text (the seventh form; the later family's looks); each row that meets fmt, with fmt's text TOLD by the authors' own Lean function (tested against real Go, not proved from fmt's source: count such statements apart). THE CARD IS WHAT COUNTS. Prove the row's statement (the work); the ties are given (YtnenhehnoolhlaaDoorTie.lean); close each card by the builder's one call (the guide's Derived/Test/ToyasCard.lean, 'card_holds'). Laid BY PROGRAM, IN A SANDBOX (cutbox-door.mjs). By AI agents, Wed Nov 11 2026. No macro, syntax, notation, axiom, sorry.
-/
import Derived.Test.YtnenhehnoolhlaaDoorRows
import GoSem.ClaimSeven
namespace Go.Proofs.YtnenhehnoolhlaaDoor
namespace Rows

/-- THE TIED CARD OF 'catapultlaw07.LexLays'. -/
def lexLaysCard : Claim7 := { stood := { row := lexLaysRow, standIns := [], harness := (true, "a0437c70c17d43d5d8d1da664f8e87eebc48da783cd2606b28165d4da368cd57"), looks := false }, kinds := [], alts := [], laidByText := true, laidKinds := [.data, .data, .data, .data], laidTests := true, laidLooks := .later }
def LexLaysCardSaid : Prop := Claim7.holds Tryd.pinned (.plain (OpenSpec.ofChange lexLaysSpec)) lexLaysCard

/-- THE SECOND FORM's CARD OF 'catapultlaw07.LexLays'. -/
def lexLaysUptoCard : Claim7 := { stood := { row := lexLaysUptoRow, standIns := [], harness := (true, "a0437c70c17d43d5d8d1da664f8e87eebc48da783cd2606b28165d4da368cd57"), looks := false }, kinds := [], alts := [], laidByText := true, laidKinds := [.data, .data, .data, .data], laidTests := true, laidLooks := .later }
def LexLaysUptoCardSaid : Prop := Claim7.holds Tryd.pinned (.plain (OpenSpec.upto lexLaysSpec)) lexLaysUptoCard
end Rows
end Go.Proofs.YtnenhehnoolhlaaDoor
