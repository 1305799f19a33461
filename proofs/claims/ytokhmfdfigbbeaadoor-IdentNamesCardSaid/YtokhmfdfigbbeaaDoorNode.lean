/- The node of a name: the program's answer and the document's. -/
import Derived.Test.YtokhmfdfigbbeaaDoorAwake
import Derived.Laws.StructEq
namespace Go.Proofs.YtokhmfdfigbbeaaDoor
open Go.RowKit

theorem str_ne {a b : ByteArray} (h : a ≠ b) : (a.toList == b.toList) = false := by
  rw [beq_eq_false_iff_ne]
  intro e
  rw [ByteArray.toList_eq, ByteArray.toList_eq] at e
  obtain ⟨⟨x⟩⟩ := a
  obtain ⟨⟨y⟩⟩ := b
  have e' : x = y := e
  exact h (by rw [e'])
theorem name_ne {i k : Nat} (hi : i < 8) (hk : k < 8) (h : i ≠ k) : ((nameS i).toList == (nameS k).toList) = false := str_ne fun e => h (nameS_inj hi hk e)

set_option maxRecDepth 100000 in
set_option maxHeartbeats 800000 in
theorem node_yes (k : Nat) (hk : k < 8) (w : World) :
    Calls Tryd.prog 12 #[.string (nameS k)] w fun e w' => e = .returned (.tuple #[.int .i64 k, .bool true]) ∧ w = w' := by
  go_enter Tryd.func12, Tryd.ntmps12
  go_wp2
  go_loop [7] (fun i => ∃ j : Nat, j ≤ k ∧ i = .int .i64 j) (fun i => 8 - (intOf i).toNat)
  case atStart => exact ⟨0, Nat.zero_le _, rfl⟩
  case round =>
    obtain ⟨j, hj, rfl⟩ := hrel
    have HN := Lib.hid (name_yes j (by omega) w)
    have hj8 : j < 8 := by omega
    by_cases he : j = k
    · subst he
      go_wp2_with fail
      (with_reducible refine HN.out.mono ?_); rintro e w' ⟨rfl, rfl⟩
      go_wp2
      go_ret2
      exact ⟨rfl, rfl⟩
    · have hne := name_ne hj8 hk he
      have HJ : Hid (j + 1 ≤ k) := Lib.hid (by omega)
      clear he
      go_wp2_with fail
      (with_reducible refine HN.out.mono ?_); rintro e w' ⟨rfl, rfl⟩
      go_wp2
      go_round
      case rel => exact ⟨j + 1, HJ.out, by go_num⟩
      case measure => simp [intOf]; omega

set_option maxRecDepth 100000 in
set_option maxHeartbeats 800000 in
theorem node_no (s : ByteArray) (hs : ∀ k, k < 8 → nameS k ≠ s) (w : World) :
    Calls Tryd.prog 12 #[.string s] w fun e w' => e = .returned (.tuple #[.int .i64 0, .bool false]) ∧ w = w' := by
  have HS := Lib.hid hs
  clear hs
  go_enter Tryd.func12, Tryd.ntmps12
  go_wp2
  go_loop [7] (fun i => ∃ j : Nat, j ≤ 8 ∧ i = .int .i64 j) (fun i => 8 - (intOf i).toNat)
  case atStart => exact ⟨0, Nat.zero_le _, rfl⟩
  case round =>
    obtain ⟨j, hj, rfl⟩ := hrel
    by_cases hlt : j < 8
    · have HN := Lib.hid (name_yes j hlt w)
      have hne := str_ne (HS.out j hlt)
      go_wp2_with fail
      (with_reducible refine HN.out.mono ?_); rintro e w' ⟨rfl, rfl⟩
      go_wp2
      go_round
      case rel => exact ⟨j + 1, by omega, by go_num⟩
      case measure => simp [intOf]; omega
    · obtain rfl : j = 8 := by omega
      go_wp2
      go_ret2
      exact ⟨rfl, rfl⟩
theorem name_ne_empty (k : Nat) : nameS k ≠ .empty := by
  intro h
  have := congrArg ByteArray.size h
  exact absurd this (by show ¬ (2 = 0); decide)
end Go.Proofs.YtokhmfdfigbbeaaDoor
