/- New of node 1. -/
import Derived.Test.YthipdadhhelieaaWHear2
namespace Go.Proofs.Ythipdadhhelieaa
open Go.RowKit Go.Sort Go.BigFrame

def U0 : TabA := ⟨1, 0, noSt, noSt, noSt, noSt, noSt, noSt, noSt, noSt, .slice none 0 0, (-1, 0, 0, false)⟩
def U1 : TabA := ⟨1, 0, noSt, ((1, 0, 1), 0), noSt, noSt, noSt, noSt, noSt, noSt, .slice none 0 0, (-1, 0, 0, false)⟩
set_option maxRecDepth 100000 in
set_option maxHeartbeats 1600000 in
theorem new_one (w : World) : Calls Try.prog 11 #[.int .i64 1] w fun e w' => ∃ g, w.heap.size ≤ g ∧ e = .returned (.tuple #[.pointer (some ⟨g, 0, none⟩), .int .i64 0]) ∧ TabAt w' g U1 ∧ Below w.heap.size w w' := by
  obtain ⟨W, hW⟩ : ∃ W, Hid (W = w.alloc (.cells U0.cells 69)) := ⟨_, Lib.hid rfl⟩
  have HB : Hid (Below w.heap.size w W) := Lib.hid (by rw [hW.out]; exact (Below.refl _ _).alloc (Nat.le_refl _) _)
  have HT : Hid (TabAt W w.heap.size U0) := Lib.hid (by rw [hW.out]; exact heap_alloc_new w _)
  have H0 : Hid (Calls Try.prog 38 #[.int .i64 1] w fun e w' => e = .returned (.bool true) ∧ w = w') := Lib.hid (isNode_any 1 w)
  have H1 : Hid (Calls Try.prog 39 #[.pointer (some ⟨w.heap.size, 0, none⟩), .agg #[.int .i64 1, .int .i64 0, .int .i64 1]] W fun e w' => e = .returned (.tuple #[]) ∧ TabAt w' w.heap.size U1 ∧ Turns w.heap.size W.heap.size W w') := Lib.hid (learn_any w.heap.size U0 1 (by decide) (1, 0, 1) rfl W HT.out)
  go_enter Try.func11, Try.ntmps11
  go_upto_region 4 with ((go_at_call 38); (with_reducible refine H0.out.mono ?_); rintro e w1 ⟨rfl, rfl⟩)
  have hWe : w.alloc (.cells U0.cells 69) = W := hW.out.symm
  unfold U0 TabA.cells noSt at hWe
  simp only at hWe
  rw [hWe]
  clear hWe
  go_wp2_with ((go_at_call 39); (with_reducible refine H1.out.mono ?_); rintro e w2 ⟨rfl, ht2, hg2⟩)
  go_ret2
  exact ⟨w.heap.size, Nat.le_refl _, rfl, ht2, ((Turns.of HB.out).trans (hg2.mono HB.out.size)).below (Nat.le_refl _)⟩

end Go.Proofs.Ythipdadhhelieaa
