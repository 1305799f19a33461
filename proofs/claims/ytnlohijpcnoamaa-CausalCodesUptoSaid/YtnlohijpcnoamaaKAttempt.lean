/- attempt: a step that gives up by a panic with an error's number is caught; its contract, for whichever step. -/
import Derived.Test.YtnlohijpcnoamaaKCatch
namespace Go.Proofs.Ytnlohijpcnoamaa
open Go.RowKit
open Go.Lib (byteCells byteCells_length byteCells_append strCells strCells_eq)

/-- What a step does in a world that has grown: it comes back, or gives up. The world behind it is told by Q. -/
def Steps (f : Nat) (cap : Array Value) (x : Int) (Q : World → World → Prop) (w : World) : Prop :=
  Calls Try.prog f cap w fun e w' => ((x = 0 ∧ e = .returned (.tuple #[])) ∨ (x ≠ 0 ∧ Gave x e)) ∧ Q w w'

/-- What attempt comes to: the error's number, and what the step did, but for attempt's own variable. -/
def Tried (x : Int) (Q : World → World → Prop) (w : World) (e : Ending) (w' : World) : Prop :=
  e = .returned (.int .i64 x) ∧ ∃ w1, Q (w.alloc (.cells #[.int .i64 0] 28)) w1 ∧ w' = w1.setCell ⟨w.heap.size, 0, none⟩ (.int .i64 x)

set_option maxHeartbeats 1600000 in
/-- attempt of a step: the error's number, or 0. Its own variable lies in the first block that was free. -/
theorem attempt_any (f : Nat) (cap : Array Value) (x : Int) (Q : World → World → Prop) (w : World) (hf : ∀ u : World, (callFunc f cap).run Try.prog u = .ok (.enter f cap) u)
    (hQ : ∀ w1, Q (w.alloc (.cells #[.int .i64 0] 28)) w1 → w1.heap[w.heap.size]? = some (.cells #[.int .i64 0] 28 (0, 0)))
    (h : Steps f cap x Q (w.alloc (.cells #[.int .i64 0] 28))) :
    Calls Try.prog 48 #[.func (.func f) #[] cap] w (Tried x Q w) := by
  have hmf : ∀ (fn : Fn) (first cap : Array Value) (w : World), (Instr.makeFunc fn first cap).run Try.prog w = .ok (.func fn first cap) w := fun _ _ _ _ => rfl
  go_enter_defers Try.func48, Try.ntmps48
  go_wp2_with fail
  refine Calls.mono h ?_
  rintro e w1 ⟨hc, hq⟩
  have hblk := hQ w1 hq
  have hcell := cell_of_one hblk
  have hfree := free_of_one hblk
  rcases hc with ⟨rfl, rfl⟩ | ⟨hx, rfl⟩
  · go_wp2
    refine leaves_cons (f := 64) (args := #[.pointer (some ⟨w.heap.size, 0, none⟩)]) (by simp) (by simp [go_sem]) ?_
    refine (catch_idle ⟨w.heap.size, 0, none⟩ _).mono ?_
    rintro e u' w'' ⟨rfl, rfl, rfl⟩
    simp [Leaves, settle, results, Try.results48, go_sem, hcell]
    exact ⟨rfl, w1, hq, rfl⟩
  · go_wp2
    refine leaves_cons (f := 64) (args := #[.pointer (some ⟨w.heap.size, 0, none⟩)]) (by simp) (by simp [go_sem]) ?_
    refine (catch_panicking ⟨w.heap.size, 0, none⟩ 0 x [] _ hcell hfree).mono ?_
    rintro e u' w'' ⟨rfl, rfl, rfl⟩
    simp [Leaves, settle, results, Try.results48, go_sem, hcell]
    exact ⟨rfl, w1, hq, rfl⟩
end Go.Proofs.Ytnlohijpcnoamaa
