/- Leq, by the document. -/
import Derived.Test.YtnlohijpcnoamaaCRefAsk
namespace Go.Proofs.Ytnlohijpcnoamaa
open Go.RowKit Go.Sort Go.BigFrame
open Go.Lib (byteCells byteCells_length)

end Go.Proofs.Ytnlohijpcnoamaa
