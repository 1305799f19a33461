/- slices.Grow and slices.Concat of two slices, at marks and at dots. -/
import Derived.Shelf.Spec.SlicesGrow
import Derived.Test.YtnlohijpcnoamaaCRow
namespace Go.Proofs.Ytnlohijpcnoamaa
open Go.RowKit
open Go.Shelf (Ren)

def lenD (a b : List DotA) : Nat → Nat
  | 0 => 0
  | 1 => a.length
  | _ => a.length + b.length
def catD (a b : List DotA) : Nat → List DotA
  | 0 => []
  | 1 => a
  | _ => a ++ b
/-- A row of the call's own that holds these. -/
def GivesD (T : TypeId) (ds : List DotA) (w : World) (e : Ending) (w' : World) : Prop := ∃ v, e = .returned v ∧ OwnD T w' w.heap.size v ds ∧ Below w.heap.size w w'
end Go.Proofs.Ytnlohijpcnoamaa
