/- Leq. -/
import Derived.Test.YtnlohijpcnoamaaCAsk
namespace Go.Proofs.Ytnlohijpcnoamaa
open Go.RowKit Go.Sort Go.BigFrame
open Go.Lib (byteCells byteCells_length)

def LeqC (ms ds ms1 ds1 : List DotA) : Prop := (∀ m ∈ ms, m.2.2 ≤ markOf ms1 (actOf m)) ∧ ∀ d ∈ ds, InC ms1 ds1 d

end Go.Proofs.Ytnlohijpcnoamaa
