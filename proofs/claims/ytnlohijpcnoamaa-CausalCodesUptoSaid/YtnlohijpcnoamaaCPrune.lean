/- Prune. -/
import Derived.Test.YtnlohijpcnoamaaCAsk
namespace Go.Proofs.Ytnlohijpcnoamaa
open Go.RowKit Go.Sort Go.BigFrame
open Go.Lib (byteCells byteCells_length)

def prn (a : ActA) (l : List DotA) : List DotA := l.filter fun d => !decide (actOf d = a)
theorem prn_take {a : ActA} {l : List DotA} {k : Nat} {x : DotA} (h : l[k]? = some x) : prn a (l.take (k + 1)) = prn a (l.take k) ++ (if actOf x = a then [] else [x]) := by
  unfold prn
  rw [take_at h, List.filter_append]
  by_cases e : actOf x = a <;> simp [e]
theorem prn_len (a : ActA) (l : List DotA) : (prn a l).length ≤ l.length := List.length_filter_le _ _
theorem act_ne (a b : ActA) (w : World) : (binOp .neq 93 (actV a) (actV b)).run Try.prog w = .ok (.bool (!decide (a = b))) w := by
  have u3 := Try.underlying3
  have a3 := Try.isAgg3
  have z3 := Try.sizeOf3
  have hS : Try.prog.underlying 93 = some (.struct (Try.prog.fieldsOf 93)) := by kernel_rfl
  have hp : Try.prog.stoodInHeld 93 = false := by kernel_rfl
  obtain ⟨a1, a2⟩ := a
  obtain ⟨b1, b2⟩ := b
  rw [run_neq_struct, show (10000 : Nat) = 9999 + 1 from rfl, run_equalIn_agg w 9999 93 _ _ hS hp]
  simp only [Program.fieldsOf, Try.underlying93]
  go_simp
  by_cases h1 : a1 = b1 <;> by_cases h2 : a2 = b2 <;> simp [h1, h2]
theorem OwnD.appended {T : TypeId} {w : World} {base : Nat} {v : Value} {a : ActA} {k : Nat} {x : DotA} {L : List DotA} (h : OwnD T w base v (prn a (L.take k) ++ [x])) (hx : L[k]? = some x) (hne : actOf x ≠ a) : OwnD T w base v (prn a (L.take (k + 1))) := by
  rw [prn_take hx, if_neg hne]; exact h

end Go.Proofs.Ytnlohijpcnoamaa
