/-
  DERIVED. GIVEN WITH THE SEED: THE CARDS: each row of YtmgobekdlgogmaaDoorRows.lean that lists a variable, with what it lists TIED to the program's text (the seventh form; the later family's looks); each row that meets fmt, with fmt's text TOLD by the authors' own Lean function (tested against real Go, not proved from fmt's source: count such statements apart). THE CARD IS WHAT COUNTS. Prove the row's statement (the work); the ties are given (YtmgobekdlgogmaaDoorTie.lean); close each card by the builder's one call (the guide's Derived/Test/ToyasCard.lean, 'card_holds'). Laid BY PROGRAM, IN A SANDBOX (cutbox-door.mjs). By AI agents, Wed Nov 11 2026. No macro, syntax, notation, axiom, sorry.
-/
import Derived.Test.YtmgobekdlgogmaaDoorRows
import GoSem.ClaimSeven
namespace Go.Proofs.YtmgobekdlgogmaaDoor
namespace Rows

/-- THE TIED CARD OF 'trolleylaw06.RingTells'. -/
def ringTellsCard : Claim7 := { stood := { row := ringTellsRow, standIns := [], harness := (true, "87f66a82d188a832d8c8a64d5ccde51c5a40467dbcdf36368943606b16c2b436"), looks := false }, kinds := [], alts := [], laidByText := true, laidKinds := [.data, .data, .data], laidTests := true, laidLooks := .later }
def RingTellsCardSaid : Prop := Claim7.holds Tryd.pinned (.plain (OpenSpec.ofChange ringTellsSpec)) ringTellsCard

/-- THE TIED CARD OF 'trolleylaw06.RingTurns'. -/
def ringTurnsCard : Claim7 := { stood := { row := ringTurnsRow, standIns := [], harness := (true, "87f66a82d188a832d8c8a64d5ccde51c5a40467dbcdf36368943606b16c2b436"), looks := false }, kinds := [], alts := [], laidByText := true, laidKinds := [.data, .data, .data], laidTests := true, laidLooks := .later }
def RingTurnsCardSaid : Prop := Claim7.holds Tryd.pinned (.plain (OpenSpec.ofChange ringTurnsSpec)) ringTurnsCard

/-- THE TIED CARD OF 'trolleylaw06.RingMerges'. -/
def ringMergesCard : Claim7 := { stood := { row := ringMergesRow, standIns := [], harness := (true, "87f66a82d188a832d8c8a64d5ccde51c5a40467dbcdf36368943606b16c2b436"), looks := false }, kinds := [], alts := [], laidByText := true, laidKinds := [.data, .data, .data], laidTests := true, laidLooks := .later }
def RingMergesCardSaid : Prop := Claim7.holds Tryd.pinned (.plain (OpenSpec.ofChange ringMergesSpec)) ringMergesCard

/-- THE TIED CARD OF 'trolleylaw06.RingLattice'. -/
def ringLatticeCard : Claim7 := { stood := { row := ringLatticeRow, standIns := [], harness := (true, "87f66a82d188a832d8c8a64d5ccde51c5a40467dbcdf36368943606b16c2b436"), looks := false }, kinds := [], alts := [], laidByText := true, laidKinds := [.data, .data, .data], laidTests := true, laidLooks := .later }
def RingLatticeCardSaid : Prop := Claim7.holds Tryd.pinned (.plain (OpenSpec.ofChange ringLatticeSpec)) ringLatticeCard

/-- THE TIED CARD OF 'trolleylaw06.RingGrows'. -/
def ringGrowsCard : Claim7 := { stood := { row := ringGrowsRow, standIns := [], harness := (true, "87f66a82d188a832d8c8a64d5ccde51c5a40467dbcdf36368943606b16c2b436"), looks := false }, kinds := [], alts := [], laidByText := true, laidKinds := [.data, .data, .data], laidTests := true, laidLooks := .later }
def RingGrowsCardSaid : Prop := Claim7.holds Tryd.pinned (.plain (OpenSpec.ofChange ringGrowsSpec)) ringGrowsCard

/-- THE SECOND FORM's CARD OF 'trolleylaw06.RingTells'. -/
def ringTellsUptoCard : Claim7 := { stood := { row := ringTellsUptoRow, standIns := [], harness := (true, "87f66a82d188a832d8c8a64d5ccde51c5a40467dbcdf36368943606b16c2b436"), looks := false }, kinds := [], alts := [], laidByText := true, laidKinds := [.data, .data, .data], laidTests := true, laidLooks := .later }
def RingTellsUptoCardSaid : Prop := Claim7.holds Tryd.pinned (.plain (OpenSpec.upto ringTellsSpec)) ringTellsUptoCard

/-- THE SECOND FORM's CARD OF 'trolleylaw06.RingTurns'. -/
def ringTurnsUptoCard : Claim7 := { stood := { row := ringTurnsUptoRow, standIns := [], harness := (true, "87f66a82d188a832d8c8a64d5ccde51c5a40467dbcdf36368943606b16c2b436"), looks := false }, kinds := [], alts := [], laidByText := true, laidKinds := [.data, .data, .data], laidTests := true, laidLooks := .later }
def RingTurnsUptoCardSaid : Prop := Claim7.holds Tryd.pinned (.plain (OpenSpec.upto ringTurnsSpec)) ringTurnsUptoCard

/-- THE SECOND FORM's CARD OF 'trolleylaw06.RingMerges'. -/
def ringMergesUptoCard : Claim7 := { stood := { row := ringMergesUptoRow, standIns := [], harness := (true, "87f66a82d188a832d8c8a64d5ccde51c5a40467dbcdf36368943606b16c2b436"), looks := false }, kinds := [], alts := [], laidByText := true, laidKinds := [.data, .data, .data], laidTests := true, laidLooks := .later }
def RingMergesUptoCardSaid : Prop := Claim7.holds Tryd.pinned (.plain (OpenSpec.upto ringMergesSpec)) ringMergesUptoCard

/-- THE SECOND FORM's CARD OF 'trolleylaw06.RingLattice'. -/
def ringLatticeUptoCard : Claim7 := { stood := { row := ringLatticeUptoRow, standIns := [], harness := (true, "87f66a82d188a832d8c8a64d5ccde51c5a40467dbcdf36368943606b16c2b436"), looks := false }, kinds := [], alts := [], laidByText := true, laidKinds := [.data, .data, .data], laidTests := true, laidLooks := .later }
def RingLatticeUptoCardSaid : Prop := Claim7.holds Tryd.pinned (.plain (OpenSpec.upto ringLatticeSpec)) ringLatticeUptoCard

/-- THE SECOND FORM's CARD OF 'trolleylaw06.RingGrows'. -/
def ringGrowsUptoCard : Claim7 := { stood := { row := ringGrowsUptoRow, standIns := [], harness := (true, "87f66a82d188a832d8c8a64d5ccde51c5a40467dbcdf36368943606b16c2b436"), looks := false }, kinds := [], alts := [], laidByText := true, laidKinds := [.data, .data, .data], laidTests := true, laidLooks := .later }
def RingGrowsUptoCardSaid : Prop := Claim7.holds Tryd.pinned (.plain (OpenSpec.upto ringGrowsSpec)) ringGrowsUptoCard
end Rows
end Go.Proofs.YtmgobekdlgogmaaDoor
