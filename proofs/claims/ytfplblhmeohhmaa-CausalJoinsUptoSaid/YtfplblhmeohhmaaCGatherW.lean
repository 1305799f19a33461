/- gather: its walk (a draft). -/
import Derived.Test.YtfplblhmeohhmaaCNormalP
namespace Go.Proofs.Ytfplblhmeohhmaa
open Go.RowKit Go.Sort Go.BigFrame
open Go.Lib (byteCells byteCells_length)

/-- The sort turns one row and lays blocks behind. -/
theorem below_sorted {w : World} {base g m : Nat} {d : Array SpanA} {os : Array Obj} (hg : base ≤ g) (hb : base ≤ w.heap.size) : Below base w (sortWorldK encS 4 w g 0 m d os) := by
  have h1 : Below base w (Sort.ahead w m) := (below_regrown w (w.drawn + m) #[]).mono hb |> fun h => by
    rw [grow_empty] at h
    exact h
  have h2 : Below base (Sort.ahead w m) (putRowK encS 4 (Sort.ahead w m) g 0 d) := by
    refine ⟨rfl, rfl, rfl, ?_, fun k hk => ?_⟩
    · simp [putRowK, putRow, mapBlock, Sort.ahead]
    · unfold putRowK putRow mapBlock
      simp only
      rw [Array.getElem?_modify, if_neg (by omega)]
  have h3 := below_regrown (putRowK encS 4 (Sort.ahead w m) g 0 d) (putRowK encS 4 (Sort.ahead w m) g 0 d).drawn os
  have h4 : base ≤ (putRowK encS 4 (Sort.ahead w m) g 0 d).heap.size := by simp [putRowK, putRow, mapBlock, Sort.ahead]; exact hb
  exact (h1.trans h2).trans (h3.mono h4)
end Go.Proofs.Ytfplblhmeohhmaa
