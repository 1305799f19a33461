/- SwimGreater. -/
import Derived.Test.YthipdadhhelieaaWTick
namespace Go.Proofs.Ythipdadhhelieaa
open Go.RowKit Go.Sort Go.BigFrame

set_option maxRecDepth 100000 in
set_option maxHeartbeats 1600000 in
theorem greater_walk (a b : PeerA) (w : World) :
    Calls Try.prog 4 #[peerV a, peerV b] w fun e w' => e = .returned (.bool true) ∧ Below w.heap.size w w' := by
  obtain ⟨W, hW⟩ : ∃ W, Hid (W = (w.alloc (.cells #[.int .i64 a.1, .int .i64 a.2.1, .int .i64 a.2.2] 38)).alloc (.cells #[.int .i64 b.1, .int .i64 b.2.1, .int .i64 b.2.2] 38)) := ⟨_, Lib.hid rfl⟩
  have hB : Below w.heap.size w W := by rw [hW.out]; exact ((Below.refl _ _).alloc (Nat.le_refl _) _).alloc (by simp) _
  have hr0 : W.heap[w.heap.size]? = some (.cells #[.int .i64 a.1, .int .i64 a.2.1, .int .i64 a.2.2] 38 (0, 0)) := by
    rw [hW.out]
    exact (Below.heap_alloc _ _ _ (Array.getElem?_eq_some_iff.1 (heap_alloc_new w _)).1).trans (heap_alloc_new w _)
  have hr1 : W.heap[w.heap.size + 1]? = some (.cells #[.int .i64 b.1, .int .i64 b.2.1, .int .i64 b.2.2] 38 (0, 0)) := by
    have := heap_alloc_new (w.alloc (.cells #[.int .i64 a.1, .int .i64 a.2.1, .int .i64 a.2.2] 38)) (.cells #[.int .i64 b.1, .int .i64 b.2.1, .int .i64 b.2.2] 38)
    rw [← hW.out, show (w.alloc (.cells #[.int .i64 a.1, .int .i64 a.2.1, .int .i64 a.2.2] 38)).heap.size = w.heap.size + 1 by simp] at this
    exact this
  have q0 := cell_regrown (cell_of_row _ _ 0 _ _ (0, 0) hr0 : W.cell? ⟨w.heap.size, 0, none⟩ = some (.int .i64 a.1))
  have q1 := cell_regrown (cell_of_row _ _ 1 _ _ (0, 0) hr0 : W.cell? ⟨w.heap.size, 1, none⟩ = some (.int .i64 a.2.1))
  have q2 := cell_regrown (cell_of_row _ _ 2 _ _ (0, 0) hr0 : W.cell? ⟨w.heap.size, 2, none⟩ = some (.int .i64 a.2.2))
  have q3 := cell_regrown (cell_of_row _ _ 0 _ _ (0, 0) hr1 : W.cell? ⟨w.heap.size + 1, 0, none⟩ = some (.int .i64 b.1))
  have q4 := cell_regrown (cell_of_row _ _ 1 _ _ (0, 0) hr1 : W.cell? ⟨w.heap.size + 1, 1, none⟩ = some (.int .i64 b.2.1))
  have q5 := cell_regrown (cell_of_row _ _ 2 _ _ (0, 0) hr1 : W.cell? ⟨w.heap.size + 1, 2, none⟩ = some (.int .i64 b.2.2))
  have c1 := re_of (greater_any a b) W
  have c2 := re_of (refGreater_any a b) W
  have c3 := re_of awake_any W
  obtain ⟨r, hr⟩ : ∃ r, Hid (r = greaterB a b) := ⟨_, Lib.hid rfl⟩
  rw [← hr.out] at c1 c2
  have HBB : ∀ dq osq, Hid (Below w.heap.size w (grow (redrawn W dq) osq)) := fun dq osq => Lib.hid (below_re hB dq osq)
  have dr : (r == r) = true := by simp
  clear hB hr0 hr1
  go_enter Try.func4, Try.ntmps4
  go_upto_region 1 with fail
  rw [← hW.out]
  refine wp_region_quiet_below (by kernel_rfl) (by kernel_rfl) ?_
  repeat (first | go_big_quiet_step (first | exact c1 _ _ | exact c2 _ _ | exact c3 _ _) | quiet_step (first | exact c1 _ _ | exact c2 _ _ | exact c3 _ _))
  refine wpQuiet_nil ?_
  intro _ hw'
  obtain ⟨⟨dq, osq⟩, hw''⟩ := hw'
  subst hw''
  have HX := HBB dq osq
  clear HBB
  go_wp2
  go_ret
  exact ⟨rfl, HX.out⟩
end Go.Proofs.Ythipdadhhelieaa
