/- Is a dot in a context? -/
import Derived.Test.YtnlohijpcnoamaaCCan
import Derived.Laws.StructEq
namespace Go.Proofs.Ytnlohijpcnoamaa
open Go.RowKit Go.Sort Go.BigFrame
open Go.Lib (byteCells byteCells_length)

/-- An index, or -1. -/
def IndexPost (ds : List DotA) (d : DotA) (w : World) (e : Ending) (w' : World) : Prop := ∃ i : Int, e = .returned (.int .i64 i) ∧ (0 ≤ i ↔ d ∈ ds) ∧ Below w.heap.size w w'

theorem dot_eq (a b : DotA) (w : World) : (binOp .eql 55 (dotV a) (dotV b)).run Try.prog w = .ok (.bool (decide (a = b))) w := by
  have u3 := Try.underlying3
  have a3 := Try.isAgg3
  have z3 := Try.sizeOf3
  have hS : Try.prog.underlying 55 = some (.struct (Try.prog.fieldsOf 55)) := by kernel_rfl
  have hp : Try.prog.stoodInHeld 55 = false := by kernel_rfl
  obtain ⟨a1, a2, a4⟩ := a
  obtain ⟨b1, b2, b4⟩ := b
  rw [run_eql_struct, show (10000 : Nat) = 9999 + 1 from rfl, run_equalIn_agg w 9999 55 _ _ hS hp]
  simp only [Program.fieldsOf, Try.underlying55]
  go_simp
  by_cases h1 : a1 = b1 <;> by_cases h2 : a2 = b2 <;> by_cases h3 : a4 = b4 <;> simp [h1, h2, h3]

/-- The dot is in the context. -/
def InC (ms ds : List DotA) (d : DotA) : Prop := (1 ≤ d.2.2 ∧ d.2.2 ≤ markOf ms (actOf d)) ∨ d ∈ ds

end Go.Proofs.Ytnlohijpcnoamaa
