/- A disk that no call made: what its calls answer. -/
import Derived.Test.YtakmndfcelghfaaGreatDoorRows
import Derived.WalkKit
import Derived.Handy
import Derived.Lib.Hide
import Derived.Deep.QuietTactic
import Derived.BigQuiet
import Derived.Outline
import Derived.WalkLawsBesides
import Derived.WalkSpells
import Derived.Below
namespace Go.Proofs.YtakmndfcelghfaaGreatDoor
open Go.RowKit

/-- A disk that no call made: nil, or a plain one. -/
def Unm (w : World) (d : Value) : Prop := d = .pointer none ∨ ∃ g, d = .pointer (some ⟨g, 0, none⟩) ∧ w.cell? ⟨g, 0, none⟩ = some (.int .i64 0) ∧ w.cell? ⟨g, 1, none⟩ = some (.map none)

theorem Unm.below {w w' : World} {d : Value} (h : Unm w d) (hb : Below w.heap.size w w') : Unm w' d := by
  rcases h with rfl | ⟨g, rfl, h0, h1⟩
  · exact .inl rfl
  · have := World.block_lt_of_cell? w _ h0
    exact .inr ⟨g, rfl, (hb.cell this).trans h0, (hb.cell (show (⟨g, 1, none⟩ : Addr).block < _ from this)).trans h1⟩

set_option maxRecDepth 100000 in
theorem made_no (d : Value) (w : World) (h : Unm w d) : Calls Tryz.prog 122 #[d] w fun e w' => e = .returned (.bool false) ∧ w' = w := by
  have hm : ∀ w : World, (binOp .neq 40 (.map none) (.map none)).run Tryz.prog w = .ok (.bool false) w := fun w => by kernel_rfl
  rcases h with rfl | ⟨g, rfl, h0, h1⟩
  all_goals
    go_enter Tryz.func122, Tryz.ntmps122
    go_wp2
    go_ret
    exact ⟨rfl, rfl⟩

set_option maxRecDepth 100000 in
theorem check_no (d v : Value) (w : World) (h : Unm w d) : Calls Tryz.prog 126 #[d, v] w fun e w' => e = .returned (.int .i64 8) ∧ w' = w := by
  go_enter Tryz.func126, Tryz.ntmps126
  go_wp2_with fail
  refine (made_no d w h).mono ?_
  rintro e w1 ⟨rfl, rfl⟩
  go_wp2
  go_ret
  exact ⟨rfl, rfl⟩

set_option maxRecDepth 100000 in
theorem find_no (d : Value) (s : ByteArray) (w : World) (h : Unm w d) : Calls Tryz.prog 120 #[d, .string s] w fun e w' => e = .returned (.tuple #[.pointer none, .int .i64 8]) ∧ Below w.heap.size w w' := by
  go_enter Tryz.func120, Tryz.ntmps120
  go_wp2_with fail
  refine (check_no d _ _ (h.below ((Below.refl _ w).alloc (Nat.le_refl _) _))).mono ?_
  rintro e w1 ⟨rfl, rfl⟩
  go_wp2
  go_ret2
  exact ⟨rfl, (Below.refl _ w).alloc (Nat.le_refl _) _⟩
set_option maxRecDepth 100000 in
theorem read_no (d : Value) (s : ByteArray) (w : World) (h : Unm w d) : Calls Tryz.prog 114 #[d, .string s] w fun e w' => e = .returned (.tuple #[.slice none 0 0, .int .i64 8]) ∧ Below w.heap.size w w' := by
  go_enter Tryz.func114, Tryz.ntmps114
  go_wp2_with fail
  refine (find_no d s w h).mono ?_
  rintro e w1 ⟨rfl, hb⟩
  go_wp2
  go_ret2
  exact ⟨rfl, hb⟩

set_option maxRecDepth 100000 in
theorem size_no (d : Value) (s : ByteArray) (w : World) (h : Unm w d) : Calls Tryz.prog 118 #[d, .string s] w fun e w' => e = .returned (.tuple #[.int .i64 0, .int .i64 0, .int .i64 8]) ∧ Below w.heap.size w w' := by
  go_enter Tryz.func118, Tryz.ntmps118
  go_wp2_with fail
  refine (find_no d s w h).mono ?_
  rintro e w1 ⟨rfl, hb⟩
  go_wp2
  first | go_ret2 | refine bodyPost_ret (results_tmp3 rfl _ _ _) rfl ?_
  exact ⟨rfl, hb⟩

set_option maxRecDepth 100000 in
theorem append_no (d : Value) (s : ByteArray) (v : Value) (w : World) (h : Unm w d) : Calls Tryz.prog 112 #[d, .string s, v] w fun e w' => e = .returned (.int .i64 8) ∧ Below w.heap.size w w' := by
  go_enter Tryz.func112, Tryz.ntmps112
  go_wp2_with fail
  refine (find_no d s w h).mono ?_
  rintro e w1 ⟨rfl, hb⟩
  go_wp2
  go_ret
  exact ⟨rfl, hb⟩

set_option maxRecDepth 100000 in
theorem sync_no (d : Value) (s : ByteArray) (w : World) (h : Unm w d) : Calls Tryz.prog 119 #[d, .string s] w fun e w' => e = .returned (.int .i64 8) ∧ Below w.heap.size w w' := by
  go_enter Tryz.func119, Tryz.ntmps119
  go_wp2_with fail
  refine (find_no d s w h).mono ?_
  rintro e w1 ⟨rfl, hb⟩
  go_wp2
  go_ret
  exact ⟨rfl, hb⟩

set_option maxRecDepth 100000 in
theorem remove_no (d : Value) (s : ByteArray) (w : World) (h : Unm w d) : Calls Tryz.prog 115 #[d, .string s] w fun e w' => e = .returned (.int .i64 8) ∧ Below w.heap.size w w' := by
  go_enter Tryz.func115, Tryz.ntmps115
  go_wp2_with fail
  refine (find_no d s w h).mono ?_
  rintro e w1 ⟨rfl, hb⟩
  go_wp2
  go_ret
  exact ⟨rfl, hb⟩

set_option maxRecDepth 100000 in
theorem rename_no (d : Value) (s : ByteArray) (t : ByteArray) (w : World) (h : Unm w d) : Calls Tryz.prog 116 #[d, .string s, .string t] w fun e w' => e = .returned (.int .i64 8) ∧ Below w.heap.size w w' := by
  go_enter Tryz.func116, Tryz.ntmps116
  go_wp2_with fail
  refine (check_no d _ _ (h.below ((Below.refl _ w).alloc (Nat.le_refl _) _))).mono ?_
  rintro e w1 ⟨rfl, rfl⟩
  go_wp2
  go_ret
  exact ⟨rfl, (Below.refl _ w).alloc (Nat.le_refl _) _⟩

set_option maxRecDepth 100000 in
theorem files_no (d : Value) (w : World) (h : Unm w d) : Calls Tryz.prog 113 #[d] w fun e w' => e = .returned (.slice none 0 0) ∧ Below w.heap.size w w' := by
  go_enter Tryz.func113, Tryz.ntmps113
  go_wp2_with fail
  refine (made_no d w h).mono ?_
  rintro e w1 ⟨rfl, rfl⟩
  go_wp2
  go_ret
  exact ⟨rfl, Below.refl _ _⟩

set_option maxRecDepth 100000 in
theorem used_no (d : Value) (w : World) (h : Unm w d) : Calls Tryz.prog 121 #[d] w fun e w' => e = .returned (.int .i64 0) ∧ Below w.heap.size w w' := by
  go_enter Tryz.func121, Tryz.ntmps121
  go_wp2_with fail
  refine (made_no d w h).mono ?_
  rintro e w1 ⟨rfl, rfl⟩
  go_wp2
  go_ret
  exact ⟨rfl, Below.refl _ _⟩

end Go.Proofs.YtakmndfcelghfaaGreatDoor
