/- From the walk of a law to the given statement and its tied card: what is the same for every law of ring. -/
import Derived.Test.YtmgobekdlgogmaaDoorRAwake
import Derived.Test.YtmgobekdlgogmaaDoorROpen
import Derived.Test.YtmgobekdlgogmaaDoorCards
import Derived.Test.YtmgobekdlgogmaaDoorTie
import Derived.Deep.DeepHandedRow
import Derived.Lib.LaidTab
import Derived.Stop.LaidErr
namespace Go.Proofs.YtmgobekdlgogmaaDoor
open Go.ChangeShapes Go.WideShapes Go.ChangeAt Go.RowKit

theorem g32 : Tryd.prog.globalNamed "math/bits.deBruijn32tab" = some 1 := by kernel_rfl
theorem g64 : Tryd.prog.globalNamed "math/bits.deBruijn64tab" = some 2 := by kernel_rfl
theorem gTurns : Tryd.prog.globalNamed "trolley/ident.turns" = some 0 := by kernel_rfl
theorem ty64 : (Tryd.prog.globals[(2 : Nat)]?).map (·.type) = some 95 := by kernel_rfl
theorem tyTurns : (Tryd.prog.globals[(0 : Nat)]?).map (·.type) = some 80 := by kernel_rfl
theorem cU64 : Tryd.prog.cellsOf 56 = 1 := by kernel_rfl
theorem c64 : Tryd.prog.cellsOf 95 = 64 := by kernel_rfl
theorem c3 : Tryd.prog.cellsOf 80 = 3 := by kernel_rfl

def laid3 : List (String × DataW Unit) := [("math/bits.deBruijn32tab", Rows.laid_math_bits_deBruijn32tab), ("math/bits.deBruijn64tab", Rows.laid_math_bits_deBruijn64tab), ("trolley/ident.turns", Rows.laid_trolley_ident_turns)]
def nums64 : List Int := [0, 1, 56, 2, 57, 49, 28, 3, 61, 58, 42, 50, 38, 29, 17, 4, 62, 47, 59, 36, 45, 43, 51, 22, 53, 39, 33, 30, 24, 18, 12, 5, 63, 55, 48, 27, 60, 41, 37, 16, 46, 35, 44, 21, 52, 32, 23, 11, 54, 26, 40, 15, 34, 20, 31, 10, 25, 14, 19, 9, 13, 8, 7, 6]
def numsTurns : List Int := [18397679294719823053, 14181476777654086739, 1]

theorem block_of_var {w : World} {name : String} {g : Nat} {cs : Array Value} (hg : Tryd.prog.globalNamed name = some g) (h : w.var? Tryd.prog name = some cs) : ∃ t fr, w.heap[g]? = some (.cells cs t fr) := by
  unfold World.var? at h
  rw [hg] at h
  simp only [Option.bind_some] at h
  split at h
  · rename_i cs' t fr e
    cases h
    exact ⟨t, fr, e⟩
  · cases h

/-- What the row's list gives. -/
theorem tabs_of {W : World} (h0 : laidMetH Tryd.prog laid3 W) : Tabs W := by
  rw [MakeChecks.laidMetH_plain _ _ _ (by kernel_rfl)] at h0
  have h1 : laidMet Tryd.prog [("math/bits.deBruijn64tab", Rows.laid_math_bits_deBruijn64tab), ("trolley/ident.turns", Rows.laid_trolley_ident_turns)] W := laidMet.tail h0
  have h2 : laidMet Tryd.prog [("trolley/ident.turns", Rows.laid_trolley_ident_turns)] W := laidMet.tail h1
  have t64 : Lib.TabIs Tryd.prog W "math/bits.deBruijn64tab" .u8 nums64 := Lib.tabIs_of_head g64 ty64 Tryd.underlying95 Tryd.underlying5 cells5 c64 h1
  have tT : Lib.TabIs Tryd.prog W "trolley/ident.turns" .u64 numsTurns := Lib.tabIs_of_head gTurns tyTurns Tryd.underlying80 Tryd.underlying56 cU64 c3 h2
  obtain ⟨_, _, e6⟩ := block_of_var g64 t64
  obtain ⟨tt, fr, eT⟩ := block_of_var gTurns tT
  have hb : 2 < W.heap.size := (Array.getElem?_eq_some_iff.1 e6).1
  exact ⟨hb, ⟨tt, fr, eT⟩, t64.cell g64 0 (by decide), t64.cell g64 1 (by decide), t64.cell g64 3 (by decide), t64.cell g64 7 (by decide), t64.cell g64 15 (by decide), t64.cell g64 31 (by decide), t64.cell g64 63 (by decide)⟩

/-- A world for the witness: the settled one, the three tables holding what their initialisers lay. -/
noncomputable def laidWorld (os : Os) : World :=
  { World.holding Tryd.prog os ⟨#[], #[], []⟩ with heap := ((((World.holding Tryd.prog os ⟨#[], #[], []⟩).heap.modify 0 fun
      | .cells _ t frozen => .cells #[.int .u64 18397679294719823053, .int .u64 14181476777654086739, .int .u64 1] t frozen
      | o => o).modify 1 fun
      | .cells _ t frozen => .cells #[.int .u8 0, .int .u8 1, .int .u8 28, .int .u8 2, .int .u8 29, .int .u8 14, .int .u8 24, .int .u8 3, .int .u8 30, .int .u8 22, .int .u8 20, .int .u8 15, .int .u8 25, .int .u8 17, .int .u8 4, .int .u8 8, .int .u8 31, .int .u8 27, .int .u8 13, .int .u8 23, .int .u8 21, .int .u8 19, .int .u8 16, .int .u8 7, .int .u8 26, .int .u8 12, .int .u8 18, .int .u8 6, .int .u8 11, .int .u8 5, .int .u8 10, .int .u8 9] t frozen
      | o => o).modify 2 fun
      | .cells _ t frozen => .cells #[.int .u8 0, .int .u8 1, .int .u8 56, .int .u8 2, .int .u8 57, .int .u8 49, .int .u8 28, .int .u8 3, .int .u8 61, .int .u8 58, .int .u8 42, .int .u8 50, .int .u8 38, .int .u8 29, .int .u8 17, .int .u8 4, .int .u8 62, .int .u8 47, .int .u8 59, .int .u8 36, .int .u8 45, .int .u8 43, .int .u8 51, .int .u8 22, .int .u8 53, .int .u8 39, .int .u8 33, .int .u8 30, .int .u8 24, .int .u8 18, .int .u8 12, .int .u8 5, .int .u8 63, .int .u8 55, .int .u8 48, .int .u8 27, .int .u8 60, .int .u8 41, .int .u8 37, .int .u8 16, .int .u8 46, .int .u8 35, .int .u8 44, .int .u8 21, .int .u8 52, .int .u8 32, .int .u8 23, .int .u8 11, .int .u8 54, .int .u8 26, .int .u8 40, .int .u8 15, .int .u8 34, .int .u8 20, .int .u8 31, .int .u8 10, .int .u8 25, .int .u8 14, .int .u8 19, .int .u8 9, .int .u8 13, .int .u8 8, .int .u8 7, .int .u8 6] t frozen
      | o => o) }
theorem laid_met (os : Os) (args : Array Value) : laidMet Tryd.prog laid3 ((laidWorld os).forCall (fun _ _ => 0) ⟨#[], args, []⟩).memory :=
  laidMet_of_run' 8 (by kernel_rfl) (by kernel_rfl)


end Go.Proofs.YtmgobekdlgogmaaDoor
