/- What is asked, by the document: Covers, Top, Size; the program's Size. -/
import Derived.Test.YtnlohijpcnoamaaCSame
namespace Go.Proofs.Ytnlohijpcnoamaa
open Go.RowKit Go.Sort Go.BigFrame
open Go.Lib (byteCells byteCells_length)

/-- How many dots there are. -/
def sumM (l : List DotA) (n : Int) : Int := l.foldl (fun t m => t + m.2.2) n
theorem sumM_at {l : List DotA} {k : Nat} {m : DotA} {n : Int} (h : l[k]? = some m) : sumM (l.take (k + 1)) n = sumM (l.take k) n + m.2.2 := by unfold sumM; rw [take_at h, List.foldl_append]; rfl

end Go.Proofs.Ytnlohijpcnoamaa
