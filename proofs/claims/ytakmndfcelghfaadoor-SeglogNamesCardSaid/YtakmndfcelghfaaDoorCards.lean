/-
  DERIVED. GIVEN WITH THE SEED: THE CARDS: each row of YtakmndfcelghfaaDoorRows.lean that lists a variable, with what it lists TIED to the program's text (the seventh form; the later family's looks); each row that meets fmt, with fmt's text TOLD by the authors' own Lean function (tested against real Go, not proved from fmt's source: count such statements apart). THE CARD IS WHAT COUNTS. Prove the row's statement (the work); the ties are given (YtakmndfcelghfaaDoorTie.lean); close each card by the builder's one call (the guide's Derived/Test/ToyasCard.lean, 'card_holds'). Laid BY PROGRAM, IN A SANDBOX (cutbox-door.mjs). By AI agents, Wed Nov 11 2026. No macro, syntax, notation, axiom, sorry.
-/
import Derived.Test.YtakmndfcelghfaaDoorRows
import GoSem.ClaimSeven
namespace Go.Proofs.YtakmndfcelghfaaDoor
namespace Rows

/-- THE TIED CARD OF 'trolleylaw07.SeglogNames'. -/
def seglogNamesCard : Claim7 := { stood := { row := seglogNamesRow, standIns := [], harness := (true, "54e4e4acfa319e577665d5062587d71a267bf5a713ea6a3fd5b3affb3045cbef"), looks := false }, kinds := [], alts := [], laidByText := true, laidKinds := [.data, .data, .data], laidTests := true, laidLooks := .later }
def SeglogNamesCardSaid : Prop := Claim7.holds Tryd.pinned (.plain (OpenSpec.ofChange seglogNamesSpec)) seglogNamesCard

/-- THE SECOND FORM's CARD OF 'trolleylaw07.SeglogNames'. -/
def seglogNamesUptoCard : Claim7 := { stood := { row := seglogNamesUptoRow, standIns := [], harness := (true, "54e4e4acfa319e577665d5062587d71a267bf5a713ea6a3fd5b3affb3045cbef"), looks := false }, kinds := [], alts := [], laidByText := true, laidKinds := [.data, .data, .data], laidTests := true, laidLooks := .later }
def SeglogNamesUptoCardSaid : Prop := Claim7.holds Tryd.pinned (.plain (OpenSpec.upto seglogNamesSpec)) seglogNamesUptoCard
end Rows
end Go.Proofs.YtakmndfcelghfaaDoor
