/-
  No cell of these rows narrows 'for every input' (looked for: loops, veiled, ifaces, maps, wideKeys, modest, calm, conditions, laid).
  DERIVED. THE GIVEN ROWS OF THIS SEAT. 3 by the template 'for every input the law returns true; each argument reads behind the call as it read before'; 0 by the template 'total and deterministic' (their statements: YtefciibkcafbiaaTotals.lean).
  GIVEN WITH THE SEED: the statements are not yours to turn. If you find one false, say at which input.
  Laid BY PROGRAM, IN A SANDBOX (cutbox-rows.mjs): the forced cells as the released guide's own fill.sh prints them over the translation 8f2bbf86a61cf23f… (all of the seat's roots in one cut). By AI agents, Wed Nov 11 2026. No macro, syntax, notation, axiom, sorry.
-/
import Derived.Test.YtefciibkcafbiaaChecked
import GoSem.Claim
import GoSem.ClaimJoined
import GoSem.ClaimMapViews
import Derived.JoinedTies
import Derived.KernelRfl
namespace Go.Proofs.Ytefciibkcafbiaa
/- THE CELL 'sum', in the pinned program and in every row, IS THE sha256 OF THE DUMP (.gsa) THAT YtefciibkcafbiaaProg.lean LOADS. Nothing in Lean hashes anything: it is a label: what it is worth is what the hold of that sum in a sandbox is worth. -/
noncomputable def Try.pinned : Pinned := { name := "ytefciibkcafbiaa", sum := "8f2bbf86a61cf23f92555e6f81bbbab1a7b3128a90dca53103673ed03d06c00e", checked := Try.checked }
namespace Rows
def none {H : Type} : Left H := { results := [], args := [] }

/-- 'trolleylaw13.GossipCounts': WHATEVER THE INPUT: true; the input reads as it did. -/
def gossipCountsSpec : ChangeSpec := { name := "gossipCounts", fn := fun _ => fun
  | [d] => { results := [.lit (.bool true)], args := [d] }
  | _ => none }
def gossipCountsRow : OpenClaim := { program := "ytefciibkcafbiaa", sum := "8f2bbf86a61cf23f92555e6f81bbbab1a7b3128a90dca53103673ed03d06c00e", func := "trolley/trolleylaw13.GossipCounts", spec := "gossipCounts", unfollowed := true, recurses := true, plainKeys := false, apart := false }
def GossipCountsSaid : Prop := gossipCountsRow.holds Try.pinned (OpenSpec.ofChange gossipCountsSpec)

/-- ITS FALSE NEIGHBOUR: 'it returns false'. Refute it at one input. -/
def gossipCountsWrong : ChangeSpec := { name := "gossipCounts", fn := fun _ => fun
  | [d] => { results := [.lit (.bool false)], args := [d] }
  | _ => none }
def GossipCountsWrongFalsely : Prop := gossipCountsRow.holds Try.pinned (OpenSpec.ofChange gossipCountsWrong)

/-- 'trolleylaw13.GossipTurns': WHATEVER THE INPUT: true; the input reads as it did. -/
def gossipTurnsSpec : ChangeSpec := { name := "gossipTurns", fn := fun _ => fun
  | [d1, d2, d3] => { results := [.lit (.bool true)], args := [d1, d2, d3] }
  | _ => none }
def gossipTurnsRow : OpenClaim := { program := "ytefciibkcafbiaa", sum := "8f2bbf86a61cf23f92555e6f81bbbab1a7b3128a90dca53103673ed03d06c00e", func := "trolley/trolleylaw13.GossipTurns", spec := "gossipTurns", unfollowed := true, recurses := true, plainKeys := false, apart := false }
def GossipTurnsSaid : Prop := gossipTurnsRow.holds Try.pinned (OpenSpec.ofChange gossipTurnsSpec)

/-- ITS FALSE NEIGHBOUR: 'it returns false'. Refute it at one input. -/
def gossipTurnsWrong : ChangeSpec := { name := "gossipTurns", fn := fun _ => fun
  | [d1, d2, d3] => { results := [.lit (.bool false)], args := [d1, d2, d3] }
  | _ => none }
def GossipTurnsWrongFalsely : Prop := gossipTurnsRow.holds Try.pinned (OpenSpec.ofChange gossipTurnsWrong)

/-- 'trolleylaw13.GossipNobody': WHATEVER THE INPUT: true; the input reads as it did. -/
def gossipNobodySpec : ChangeSpec := { name := "gossipNobody", fn := fun _ => fun
  | [d1, d2] => { results := [.lit (.bool true)], args := [d1, d2] }
  | _ => none }
def gossipNobodyRow : OpenClaim := { program := "ytefciibkcafbiaa", sum := "8f2bbf86a61cf23f92555e6f81bbbab1a7b3128a90dca53103673ed03d06c00e", func := "trolley/trolleylaw13.GossipNobody", spec := "gossipNobody", unfollowed := true, recurses := true, plainKeys := false, apart := false }
def GossipNobodySaid : Prop := gossipNobodyRow.holds Try.pinned (OpenSpec.ofChange gossipNobodySpec)

/-- ITS FALSE NEIGHBOUR: 'it returns false'. Refute it at one input. -/
def gossipNobodyWrong : ChangeSpec := { name := "gossipNobody", fn := fun _ => fun
  | [d1, d2] => { results := [.lit (.bool false)], args := [d1, d2] }
  | _ => none }
def GossipNobodyWrongFalsely : Prop := gossipNobodyRow.holds Try.pinned (OpenSpec.ofChange gossipNobodyWrong)

/- THE SECOND FORM. 'bulk': how many values and letters a reading holds, each counted each time it is reached (what is shared counts as often as it is met; a slice's spare places count too). A statement '..UptoSaid' is the law's where the arguments, and the package variables that the reading takes, are together of bulk at most 1048576: NARROWER than '..Said'. Prove '..Said' where nothing that the law and all that it calls make is longer than what came in: it says more and counts as full. Else prove '..UptoSaid'. A law counts once. -/
mutual
def uptoBulk {H : Type} : DataW H → Nat
  | .lit (.string bytes) => bytes.length + 1
  | .lit _ => 1
  | .nil => 1
  | .ptr d => uptoBulk d + 1
  | .slice elems spare => uptoBulkAll elems + uptoBulkAll spare + 1
  | .agg parts => uptoBulkAll parts + 1
  | .iface _ d => uptoBulk d + 1
  | .map entries => uptoBulkEntries entries + 1
  | .held _ => 1
def uptoBulkAll {H : Type} : List (DataW H) → Nat
  | [] => 0
  | d :: r => uptoBulk d + uptoBulkAll r
def uptoBulkEntries {H : Type} : List (Lit × DataW H) → Nat
  | [] => 0
  | x :: r => uptoBulkEntry x + uptoBulkEntries r
def uptoBulkEntry {H : Type} : Lit × DataW H → Nat
  | (.string bytes, d) => bytes.length + uptoBulk d + 1
  | (_, d) => uptoBulk d + 1
 end
def uptoSmall : (H : Type) → List (DataW H) → Bool := fun _ ds => decide (uptoBulkAll ds ≤ 1048576)
def OpenSpec.upto (s : _root_.Go.ChangeSpec) : _root_.Go.OpenSpec := { _root_.Go.OpenSpec.ofChange s with cond := some uptoSmall }

/-- 'trolleylaw13.GossipCounts', WHERE WHAT IT READS IS OF BULK AT MOST 1048576: true; the input reads as it did. -/
def gossipCountsUptoRow : OpenClaim := { program := "ytefciibkcafbiaa", sum := "8f2bbf86a61cf23f92555e6f81bbbab1a7b3128a90dca53103673ed03d06c00e", func := "trolley/trolleylaw13.GossipCounts", spec := "gossipCounts", unfollowed := true, recurses := true, plainKeys := false, apart := false, narrowed := true }
def GossipCountsUptoSaid : Prop := gossipCountsUptoRow.holds Try.pinned (OpenSpec.upto gossipCountsSpec)

/-- 'trolleylaw13.GossipTurns', WHERE WHAT IT READS IS OF BULK AT MOST 1048576: true; the input reads as it did. -/
def gossipTurnsUptoRow : OpenClaim := { program := "ytefciibkcafbiaa", sum := "8f2bbf86a61cf23f92555e6f81bbbab1a7b3128a90dca53103673ed03d06c00e", func := "trolley/trolleylaw13.GossipTurns", spec := "gossipTurns", unfollowed := true, recurses := true, plainKeys := false, apart := false, narrowed := true }
def GossipTurnsUptoSaid : Prop := gossipTurnsUptoRow.holds Try.pinned (OpenSpec.upto gossipTurnsSpec)

/-- 'trolleylaw13.GossipNobody', WHERE WHAT IT READS IS OF BULK AT MOST 1048576: true; the input reads as it did. -/
def gossipNobodyUptoRow : OpenClaim := { program := "ytefciibkcafbiaa", sum := "8f2bbf86a61cf23f92555e6f81bbbab1a7b3128a90dca53103673ed03d06c00e", func := "trolley/trolleylaw13.GossipNobody", spec := "gossipNobody", unfollowed := true, recurses := true, plainKeys := false, apart := false, narrowed := true }
def GossipNobodyUptoSaid : Prop := gossipNobodyUptoRow.holds Try.pinned (OpenSpec.upto gossipNobodySpec)

end Rows
end Go.Proofs.Ytefciibkcafbiaa
