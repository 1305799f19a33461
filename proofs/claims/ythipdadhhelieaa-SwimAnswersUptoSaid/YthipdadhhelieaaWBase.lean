/- Rumours: which may be, and which is newer. -/
import Derived.Test.YthipdadhhelieaaRows
import Derived.WalkKit
import Derived.Handy
import Derived.Below
import Derived.Lib.Hide
import Derived.Deep.RegionHeld3
import Derived.Deep.RegionLaw
import Derived.Deep.AppendLies
import Derived.Deep.Cut
import Derived.OneCell
import Derived.Lib.SliceRun
import Derived.Lib.SmallJoins
import Derived.Laws.NewBlocks
import Derived.Laws.Rows
import Derived.Deep.QuietTactic
import Derived.BigQuiet
import Derived.Outline
import Derived.WalkLawsBesides
import Derived.WalkSpells
namespace Go.Proofs.Ythipdadhhelieaa
open Go.RowKit

theorem box_cell (w : World) (cs : Array Value) (T : TypeId) (i : Nat) : (w.alloc (.cells cs T)).cell? ⟨w.heap.size, i, none⟩ = cs[i]? := cell_of_row _ _ i _ _ (0, 0) (heap_alloc_new w _)
theorem ret_bool {a b : Bool} (h : a = b) : Ending.returned (.bool a) = .returned (.bool b) := by rw [h]
theorem ret_int {a b : Int} (h : a = b) : Ending.returned (.int .i64 a) = .returned (.int .i64 b) := by rw [h]

/-- A rumour: node, incarnation, status. -/
abbrev PeerA := Int × Int × Int
abbrev peerV (p : PeerA) : Value := .agg #[.int .i64 p.1, .int .i64 p.2.1, .int .i64 p.2.2]
def isNodeB (n : Int) : Bool := decide (0 ≤ n) && decide (n < 8)
def mayP (p : PeerA) : Bool := isNodeB p.1 && (decide (0 ≤ p.2.1) && (decide (p.2.1 ≤ 1099511627776) && (decide (1 ≤ p.2.2) && decide (p.2.2 ≤ 3))))
/-- Is a rumour newer than another one of its node? -/
def greaterB (a b : PeerA) : Bool := (a.1 == b.1) && (decide (a.2.1 > b.2.1) || ((a.2.1 == b.2.1) && decide (a.2.2 > b.2.2)))

theorem isNode_any (n : Int) (w : World) : Calls Try.prog 38 #[.int .i64 n] w fun e w' => e = .returned (.bool (isNodeB n)) ∧ w = w' := by
  unfold isNodeB
  by_cases h1 : (0 : Int) ≤ n
  · have d1 : decide ((0 : Int) ≤ n) = true := decide_eq_true h1
    generalize hd : decide (n < 8) = d
    clear h1
    go_enter Try.func38, Try.ntmps38
    go_wp2
    go_ret
    exact ⟨by rw [d1]; rfl, rfl⟩
  · have d1 : decide ((0 : Int) ≤ n) = false := decide_eq_false h1
    clear h1
    go_enter Try.func38, Try.ntmps38
    go_wp2
    go_ret
    exact ⟨by rw [d1]; rfl, rfl⟩

set_option maxRecDepth 100000 in
set_option maxHeartbeats 800000 in
theorem greater_any (a b : PeerA) (w : World) : Calls Try.prog 25 #[peerV a, peerV b] w fun e w' => e = .returned (.bool (greaterB a b)) ∧ Below w.heap.size w w' := by
  obtain ⟨a1, a2, a3⟩ := a
  obtain ⟨b1, b2, b3⟩ := b
  have HB : Hid (Below w.heap.size w ((w.alloc (.cells #[.int .i64 a1, .int .i64 a2, .int .i64 a3] 38)).alloc (.cells #[.int .i64 b1, .int .i64 b2, .int .i64 b3] 38))) := Lib.hid (((Below.refl _ _).alloc (Nat.le_refl _) _).alloc (by simp) _)
  have HG : Hid (greaterB (a1, a2, a3) (b1, b2, b3) = ((a1 == b1) && (decide (a2 > b2) || ((a2 == b2) && decide (a3 > b3))))) := Lib.hid rfl
  rw [HG.out]
  have E := fun (r : Bool) => Lib.hid (ret_bool (a := r) (b := r) rfl)
  cases h1 : (a1 == b1)
  · go_enter Try.func25, Try.ntmps25
    go_wp2
    go_ret
    exact ⟨rfl, HB.out⟩
  · cases h2 : decide (a2 > b2)
    · cases h3 : (a2 == b2)
      · go_enter Try.func25, Try.ntmps25
        go_wp2
        go_ret
        exact ⟨rfl, HB.out⟩
      · cases h4 : decide (a3 > b3)
        all_goals
          go_enter Try.func25, Try.ntmps25
          go_wp2
          go_ret
          exact ⟨rfl, HB.out⟩
    · go_enter Try.func25, Try.ntmps25
      go_wp2
      go_ret
      exact ⟨rfl, HB.out⟩

set_option maxRecDepth 100000 in
set_option maxHeartbeats 800000 in
theorem refGreater_any (a b : PeerA) (w : World) : Calls Try.prog 26 #[peerV a, peerV b] w fun e w' => e = .returned (.bool (greaterB a b)) ∧ Below w.heap.size w w' := by
  obtain ⟨a1, a2, a3⟩ := a
  obtain ⟨b1, b2, b3⟩ := b
  have HB : Hid (Below w.heap.size w ((w.alloc (.cells #[.int .i64 a1, .int .i64 a2, .int .i64 a3] 38)).alloc (.cells #[.int .i64 b1, .int .i64 b2, .int .i64 b3] 38))) := Lib.hid (((Below.refl _ _).alloc (Nat.le_refl _) _).alloc (by simp) _)
  have HG : Hid (greaterB (a1, a2, a3) (b1, b2, b3) = ((a1 == b1) && (decide (a2 > b2) || ((a2 == b2) && decide (a3 > b3))))) := Lib.hid rfl
  rw [HG.out]
  have E := fun (r : Bool) => Lib.hid (ret_bool (a := r) (b := r) rfl)
  cases h1 : (a1 == b1)
  · go_enter Try.func26, Try.ntmps26
    go_wp2
    go_ret
    exact ⟨rfl, HB.out⟩
  · cases h2 : decide (a2 > b2)
    · cases h3 : (a2 == b2)
      · go_enter Try.func26, Try.ntmps26
        go_wp2
        go_ret
        exact ⟨rfl, HB.out⟩
      · cases h4 : decide (a3 > b3)
        all_goals
          go_enter Try.func26, Try.ntmps26
          go_wp2
          go_ret
          exact ⟨rfl, HB.out⟩
    · go_enter Try.func26, Try.ntmps26
      go_wp2
      go_ret
      exact ⟨rfl, HB.out⟩

/-- What is known of a node: a rumour, and since when. -/
abbrev StateA := PeerA × Int
abbrev stateV (s : StateA) : Value := .agg #[.int .i64 s.1.1, .int .i64 s.1.2.1, .int .i64 s.1.2.2, .int .i64 s.2]
theorem neState (a b : StateA) (w : World) : (binOp .neq 63 (stateV a) (stateV b)).run Try.prog w = .ok (.bool (!decide (a = b))) w := by
  have u3 := Try.underlying3
  have a3 := Try.isAgg3
  have z3 := Try.sizeOf3
  have uP := Try.underlying38
  have aP := Try.isAgg38
  have zP := Try.sizeOf38
  have hS : Try.prog.underlying 63 = some (.struct (Try.prog.fieldsOf 63)) := by kernel_rfl
  have hp : Try.prog.stoodInHeld 63 = false := by kernel_rfl
  have hS2 : Try.prog.underlying 38 = some (.struct (Try.prog.fieldsOf 38)) := by kernel_rfl
  have hp2 : Try.prog.stoodInHeld 38 = false := by kernel_rfl
  obtain ⟨⟨a1, a2, a4⟩, a5⟩ := a
  obtain ⟨⟨b1, b2, b4⟩, b5⟩ := b
  rw [run_neq_struct, show (10000 : Nat) = 9998 + 1 + 1 from rfl, run_equalIn_agg w (9998 + 1) 63 _ _ hS hp]
  have hq := fun x y => run_equalIn_agg (P := Try.prog) w 9998 38 x y hS2 hp2
  simp only [Program.fieldsOf, Try.underlying63, Try.underlying38] at hq ⊢
  go_simp
  by_cases h1 : a1 = b1 <;> by_cases h2 : a2 = b2 <;> by_cases h3 : a4 = b4 <;> by_cases h4 : a5 = b5 <;> simp [h1, h2, h3, h4]
end Go.Proofs.Ythipdadhhelieaa
