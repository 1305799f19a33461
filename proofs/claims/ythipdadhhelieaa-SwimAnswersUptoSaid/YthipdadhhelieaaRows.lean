/-
  No cell of these rows narrows 'for every input' (looked for: loops, veiled, ifaces, maps, wideKeys, modest, calm, conditions, laid).
  DERIVED. THE GIVEN ROWS OF THIS SEAT. 8 by the template 'for every input the law returns true; each argument reads behind the call as it read before'; 0 by the template 'total and deterministic' (their statements: YthipdadhhelieaaTotals.lean).
  GIVEN WITH THE SEED: the statements are not yours to turn. If you find one false, say at which input.
  Laid BY PROGRAM, IN A SANDBOX (cutbox-rows.mjs): the forced cells as the released guide's own fill.sh prints them over the translation 85ad2eaaf02cd7f5… (all of the seat's roots in one cut). By AI agents, Wed Nov 11 2026. No macro, syntax, notation, axiom, sorry.
-/
import Derived.Test.YthipdadhhelieaaChecked
import GoSem.Claim
import GoSem.ClaimJoined
import GoSem.ClaimMapViews
import Derived.JoinedTies
import Derived.KernelRfl
namespace Go.Proofs.Ythipdadhhelieaa
/- THE CELL 'sum', in the pinned program and in every row, IS THE sha256 OF THE DUMP (.gsa) THAT YthipdadhhelieaaProg.lean LOADS. Nothing in Lean hashes anything: it is a label: what it is worth is what the hold of that sum in a sandbox is worth. -/
noncomputable def Try.pinned : Pinned := { name := "ythipdadhhelieaa", sum := "85ad2eaaf02cd7f5caa9e0d04f891994df6afb2731755aea6ec663f4619f4d7b", checked := Try.checked }
namespace Rows
def none {H : Type} : Left H := { results := [], args := [] }

/-- 'trolleylaw12.SwimLives': WHATEVER THE INPUT: true; the input reads as it did. -/
def swimLivesSpec : ChangeSpec := { name := "swimLives", fn := fun _ => fun
  | [d1, d2] => { results := [.lit (.bool true)], args := [d1, d2] }
  | _ => none }
def swimLivesRow : OpenClaim := { program := "ythipdadhhelieaa", sum := "85ad2eaaf02cd7f5caa9e0d04f891994df6afb2731755aea6ec663f4619f4d7b", func := "trolley/trolleylaw12.SwimLives", spec := "swimLives", unfollowed := true, recurses := true, apart := false }
def SwimLivesSaid : Prop := swimLivesRow.holds Try.pinned (OpenSpec.ofChange swimLivesSpec)

/-- ITS FALSE NEIGHBOUR: 'it returns false'. Refute it at one input. -/
def swimLivesWrong : ChangeSpec := { name := "swimLives", fn := fun _ => fun
  | [d1, d2] => { results := [.lit (.bool false)], args := [d1, d2] }
  | _ => none }
def SwimLivesWrongFalsely : Prop := swimLivesRow.holds Try.pinned (OpenSpec.ofChange swimLivesWrong)

/-- 'trolleylaw12.SwimGreater': WHATEVER THE INPUT: true; the input reads as it did. -/
def swimGreaterSpec : ChangeSpec := { name := "swimGreater", fn := fun _ => fun
  | [d1, d2] => { results := [.lit (.bool true)], args := [d1, d2] }
  | _ => none }
def swimGreaterRow : OpenClaim := { program := "ythipdadhhelieaa", sum := "85ad2eaaf02cd7f5caa9e0d04f891994df6afb2731755aea6ec663f4619f4d7b", func := "trolley/trolleylaw12.SwimGreater", spec := "swimGreater", unfollowed := true, recurses := true, apart := false }
def SwimGreaterSaid : Prop := swimGreaterRow.holds Try.pinned (OpenSpec.ofChange swimGreaterSpec)

/-- ITS FALSE NEIGHBOUR: 'it returns false'. Refute it at one input. -/
def swimGreaterWrong : ChangeSpec := { name := "swimGreater", fn := fun _ => fun
  | [d1, d2] => { results := [.lit (.bool false)], args := [d1, d2] }
  | _ => none }
def SwimGreaterWrongFalsely : Prop := swimGreaterRow.holds Try.pinned (OpenSpec.ofChange swimGreaterWrong)

/-- 'trolleylaw12.SwimNone': WHATEVER THE INPUT: true; the input reads as it did. -/
def swimNoneSpec : ChangeSpec := { name := "swimNone", fn := fun _ => fun
  | [d1, d2, d3] => { results := [.lit (.bool true)], args := [d1, d2, d3] }
  | _ => none }
def swimNoneRow : OpenClaim := { program := "ythipdadhhelieaa", sum := "85ad2eaaf02cd7f5caa9e0d04f891994df6afb2731755aea6ec663f4619f4d7b", func := "trolley/trolleylaw12.SwimNone", spec := "swimNone", unfollowed := true, recurses := true, apart := false }
def SwimNoneSaid : Prop := swimNoneRow.holds Try.pinned (OpenSpec.ofChange swimNoneSpec)

/-- ITS FALSE NEIGHBOUR: 'it returns false'. Refute it at one input. -/
def swimNoneWrong : ChangeSpec := { name := "swimNone", fn := fun _ => fun
  | [d1, d2, d3] => { results := [.lit (.bool false)], args := [d1, d2, d3] }
  | _ => none }
def SwimNoneWrongFalsely : Prop := swimNoneRow.holds Try.pinned (OpenSpec.ofChange swimNoneWrong)

/-- 'trolleylaw12.SwimOrder': WHATEVER THE INPUT: true; the input reads as it did. -/
def swimOrderSpec : ChangeSpec := { name := "swimOrder", fn := fun _ => fun
  | [d1, d2, d3] => { results := [.lit (.bool true)], args := [d1, d2, d3] }
  | _ => none }
def swimOrderRow : OpenClaim := { program := "ythipdadhhelieaa", sum := "85ad2eaaf02cd7f5caa9e0d04f891994df6afb2731755aea6ec663f4619f4d7b", func := "trolley/trolleylaw12.SwimOrder", spec := "swimOrder", unfollowed := true, recurses := true, apart := false }
def SwimOrderSaid : Prop := swimOrderRow.holds Try.pinned (OpenSpec.ofChange swimOrderSpec)

/-- ITS FALSE NEIGHBOUR: 'it returns false'. Refute it at one input. -/
def swimOrderWrong : ChangeSpec := { name := "swimOrder", fn := fun _ => fun
  | [d1, d2, d3] => { results := [.lit (.bool false)], args := [d1, d2, d3] }
  | _ => none }
def SwimOrderWrongFalsely : Prop := swimOrderRow.holds Try.pinned (OpenSpec.ofChange swimOrderWrong)

/-- 'trolleylaw12.SwimAlike': WHATEVER THE INPUT: true; the input reads as it did. -/
def swimAlikeSpec : ChangeSpec := { name := "swimAlike", fn := fun _ => fun
  | [d1, d2, d3] => { results := [.lit (.bool true)], args := [d1, d2, d3] }
  | _ => none }
def swimAlikeRow : OpenClaim := { program := "ythipdadhhelieaa", sum := "85ad2eaaf02cd7f5caa9e0d04f891994df6afb2731755aea6ec663f4619f4d7b", func := "trolley/trolleylaw12.SwimAlike", spec := "swimAlike", unfollowed := true, recurses := true, apart := false }
def SwimAlikeSaid : Prop := swimAlikeRow.holds Try.pinned (OpenSpec.ofChange swimAlikeSpec)

/-- ITS FALSE NEIGHBOUR: 'it returns false'. Refute it at one input. -/
def swimAlikeWrong : ChangeSpec := { name := "swimAlike", fn := fun _ => fun
  | [d1, d2, d3] => { results := [.lit (.bool false)], args := [d1, d2, d3] }
  | _ => none }
def SwimAlikeWrongFalsely : Prop := swimAlikeRow.holds Try.pinned (OpenSpec.ofChange swimAlikeWrong)

/-- 'trolleylaw12.SwimNever': WHATEVER THE INPUT: true; the input reads as it did. -/
def swimNeverSpec : ChangeSpec := { name := "swimNever", fn := fun _ => fun
  | [d1, d2] => { results := [.lit (.bool true)], args := [d1, d2] }
  | _ => none }
def swimNeverRow : OpenClaim := { program := "ythipdadhhelieaa", sum := "85ad2eaaf02cd7f5caa9e0d04f891994df6afb2731755aea6ec663f4619f4d7b", func := "trolley/trolleylaw12.SwimNever", spec := "swimNever", unfollowed := true, recurses := true, apart := false }
def SwimNeverSaid : Prop := swimNeverRow.holds Try.pinned (OpenSpec.ofChange swimNeverSpec)

/-- ITS FALSE NEIGHBOUR: 'it returns false'. Refute it at one input. -/
def swimNeverWrong : ChangeSpec := { name := "swimNever", fn := fun _ => fun
  | [d1, d2] => { results := [.lit (.bool false)], args := [d1, d2] }
  | _ => none }
def SwimNeverWrongFalsely : Prop := swimNeverRow.holds Try.pinned (OpenSpec.ofChange swimNeverWrong)

/-- 'trolleylaw12.SwimAnswers': WHATEVER THE INPUT: true; the input reads as it did. -/
def swimAnswersSpec : ChangeSpec := { name := "swimAnswers", fn := fun _ => fun
  | [d1, d2, d3] => { results := [.lit (.bool true)], args := [d1, d2, d3] }
  | _ => none }
def swimAnswersRow : OpenClaim := { program := "ythipdadhhelieaa", sum := "85ad2eaaf02cd7f5caa9e0d04f891994df6afb2731755aea6ec663f4619f4d7b", func := "trolley/trolleylaw12.SwimAnswers", spec := "swimAnswers", unfollowed := true, recurses := true, apart := false }
def SwimAnswersSaid : Prop := swimAnswersRow.holds Try.pinned (OpenSpec.ofChange swimAnswersSpec)

/-- ITS FALSE NEIGHBOUR: 'it returns false'. Refute it at one input. -/
def swimAnswersWrong : ChangeSpec := { name := "swimAnswers", fn := fun _ => fun
  | [d1, d2, d3] => { results := [.lit (.bool false)], args := [d1, d2, d3] }
  | _ => none }
def SwimAnswersWrongFalsely : Prop := swimAnswersRow.holds Try.pinned (OpenSpec.ofChange swimAnswersWrong)

/-- 'trolleylaw12.SwimDead': WHATEVER THE INPUT: true; the input reads as it did. -/
def swimDeadSpec : ChangeSpec := { name := "swimDead", fn := fun _ => fun
  | [d1, d2, d3] => { results := [.lit (.bool true)], args := [d1, d2, d3] }
  | _ => none }
def swimDeadRow : OpenClaim := { program := "ythipdadhhelieaa", sum := "85ad2eaaf02cd7f5caa9e0d04f891994df6afb2731755aea6ec663f4619f4d7b", func := "trolley/trolleylaw12.SwimDead", spec := "swimDead", unfollowed := true, recurses := true, apart := false }
def SwimDeadSaid : Prop := swimDeadRow.holds Try.pinned (OpenSpec.ofChange swimDeadSpec)

/-- ITS FALSE NEIGHBOUR: 'it returns false'. Refute it at one input. -/
def swimDeadWrong : ChangeSpec := { name := "swimDead", fn := fun _ => fun
  | [d1, d2, d3] => { results := [.lit (.bool false)], args := [d1, d2, d3] }
  | _ => none }
def SwimDeadWrongFalsely : Prop := swimDeadRow.holds Try.pinned (OpenSpec.ofChange swimDeadWrong)

/- THE SECOND FORM. 'bulk': how many values and letters a reading holds, each counted each time it is reached (what is shared counts as often as it is met; a slice's spare places count too). A statement '..UptoSaid' is the law's where the arguments, and the package variables that the reading takes, are together of bulk at most 1048576: NARROWER than '..Said'. Prove '..Said' where nothing that the law and all that it calls make is longer than what came in: it says more and counts as full. Else prove '..UptoSaid'. A law counts once. -/
mutual
def uptoBulk {H : Type} : DataW H → Nat
  | .lit (.string bytes) => bytes.length + 1
  | .lit _ => 1
  | .nil => 1
  | .ptr d => uptoBulk d + 1
  | .slice elems spare => uptoBulkAll elems + uptoBulkAll spare + 1
  | .agg parts => uptoBulkAll parts + 1
  | .iface _ d => uptoBulk d + 1
  | .map entries => uptoBulkEntries entries + 1
  | .held _ => 1
def uptoBulkAll {H : Type} : List (DataW H) → Nat
  | [] => 0
  | d :: r => uptoBulk d + uptoBulkAll r
def uptoBulkEntries {H : Type} : List (Lit × DataW H) → Nat
  | [] => 0
  | x :: r => uptoBulkEntry x + uptoBulkEntries r
def uptoBulkEntry {H : Type} : Lit × DataW H → Nat
  | (.string bytes, d) => bytes.length + uptoBulk d + 1
  | (_, d) => uptoBulk d + 1
 end
def uptoSmall : (H : Type) → List (DataW H) → Bool := fun _ ds => decide (uptoBulkAll ds ≤ 1048576)
def OpenSpec.upto (s : _root_.Go.ChangeSpec) : _root_.Go.OpenSpec := { _root_.Go.OpenSpec.ofChange s with cond := some uptoSmall }

/-- 'trolleylaw12.SwimLives', WHERE WHAT IT READS IS OF BULK AT MOST 1048576: true; the input reads as it did. -/
def swimLivesUptoRow : OpenClaim := { program := "ythipdadhhelieaa", sum := "85ad2eaaf02cd7f5caa9e0d04f891994df6afb2731755aea6ec663f4619f4d7b", func := "trolley/trolleylaw12.SwimLives", spec := "swimLives", unfollowed := true, recurses := true, apart := false, narrowed := true }
def SwimLivesUptoSaid : Prop := swimLivesUptoRow.holds Try.pinned (OpenSpec.upto swimLivesSpec)

/-- 'trolleylaw12.SwimGreater', WHERE WHAT IT READS IS OF BULK AT MOST 1048576: true; the input reads as it did. -/
def swimGreaterUptoRow : OpenClaim := { program := "ythipdadhhelieaa", sum := "85ad2eaaf02cd7f5caa9e0d04f891994df6afb2731755aea6ec663f4619f4d7b", func := "trolley/trolleylaw12.SwimGreater", spec := "swimGreater", unfollowed := true, recurses := true, apart := false, narrowed := true }
def SwimGreaterUptoSaid : Prop := swimGreaterUptoRow.holds Try.pinned (OpenSpec.upto swimGreaterSpec)

/-- 'trolleylaw12.SwimNone', WHERE WHAT IT READS IS OF BULK AT MOST 1048576: true; the input reads as it did. -/
def swimNoneUptoRow : OpenClaim := { program := "ythipdadhhelieaa", sum := "85ad2eaaf02cd7f5caa9e0d04f891994df6afb2731755aea6ec663f4619f4d7b", func := "trolley/trolleylaw12.SwimNone", spec := "swimNone", unfollowed := true, recurses := true, apart := false, narrowed := true }
def SwimNoneUptoSaid : Prop := swimNoneUptoRow.holds Try.pinned (OpenSpec.upto swimNoneSpec)

/-- 'trolleylaw12.SwimOrder', WHERE WHAT IT READS IS OF BULK AT MOST 1048576: true; the input reads as it did. -/
def swimOrderUptoRow : OpenClaim := { program := "ythipdadhhelieaa", sum := "85ad2eaaf02cd7f5caa9e0d04f891994df6afb2731755aea6ec663f4619f4d7b", func := "trolley/trolleylaw12.SwimOrder", spec := "swimOrder", unfollowed := true, recurses := true, apart := false, narrowed := true }
def SwimOrderUptoSaid : Prop := swimOrderUptoRow.holds Try.pinned (OpenSpec.upto swimOrderSpec)

/-- 'trolleylaw12.SwimAlike', WHERE WHAT IT READS IS OF BULK AT MOST 1048576: true; the input reads as it did. -/
def swimAlikeUptoRow : OpenClaim := { program := "ythipdadhhelieaa", sum := "85ad2eaaf02cd7f5caa9e0d04f891994df6afb2731755aea6ec663f4619f4d7b", func := "trolley/trolleylaw12.SwimAlike", spec := "swimAlike", unfollowed := true, recurses := true, apart := false, narrowed := true }
def SwimAlikeUptoSaid : Prop := swimAlikeUptoRow.holds Try.pinned (OpenSpec.upto swimAlikeSpec)

/-- 'trolleylaw12.SwimNever', WHERE WHAT IT READS IS OF BULK AT MOST 1048576: true; the input reads as it did. -/
def swimNeverUptoRow : OpenClaim := { program := "ythipdadhhelieaa", sum := "85ad2eaaf02cd7f5caa9e0d04f891994df6afb2731755aea6ec663f4619f4d7b", func := "trolley/trolleylaw12.SwimNever", spec := "swimNever", unfollowed := true, recurses := true, apart := false, narrowed := true }
def SwimNeverUptoSaid : Prop := swimNeverUptoRow.holds Try.pinned (OpenSpec.upto swimNeverSpec)

/-- 'trolleylaw12.SwimAnswers', WHERE WHAT IT READS IS OF BULK AT MOST 1048576: true; the input reads as it did. -/
def swimAnswersUptoRow : OpenClaim := { program := "ythipdadhhelieaa", sum := "85ad2eaaf02cd7f5caa9e0d04f891994df6afb2731755aea6ec663f4619f4d7b", func := "trolley/trolleylaw12.SwimAnswers", spec := "swimAnswers", unfollowed := true, recurses := true, apart := false, narrowed := true }
def SwimAnswersUptoSaid : Prop := swimAnswersUptoRow.holds Try.pinned (OpenSpec.upto swimAnswersSpec)

/-- 'trolleylaw12.SwimDead', WHERE WHAT IT READS IS OF BULK AT MOST 1048576: true; the input reads as it did. -/
def swimDeadUptoRow : OpenClaim := { program := "ythipdadhhelieaa", sum := "85ad2eaaf02cd7f5caa9e0d04f891994df6afb2731755aea6ec663f4619f4d7b", func := "trolley/trolleylaw12.SwimDead", spec := "swimDead", unfollowed := true, recurses := true, apart := false, narrowed := true }
def SwimDeadUptoSaid : Prop := swimDeadUptoRow.holds Try.pinned (OpenSpec.upto swimDeadSpec)

end Rows
end Go.Proofs.Ythipdadhhelieaa
