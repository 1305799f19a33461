/- Names of nodes, and keys: the program's answers and the document's. -/
import Derived.Test.YtokhmfdfigbbeaaDoorPart2
import Derived.Test.YtokhmfdfigbbeaaDoorBase
import Derived.Lib.ConvBytes
import Derived.Laws.IdiomStrings
namespace Go.Proofs.YtokhmfdfigbbeaaDoor
open Go.RowKit
open Go.Lib (byteCells byteCells_length)

/-- A node's name. -/
def digS (k : Nat) : ByteArray := ⟨#[UInt8.ofNat (48 + k)]⟩
def nameS (k : Nat) : ByteArray := ⟨#[110, UInt8.ofNat (48 + k)]⟩
theorem nameS_inj {i k : Nat} (hi : i < 8) (hk : k < 8) (h : nameS i = nameS k) : i = k := by
  unfold nameS at h
  injection h with h
  have h2 := congrArg (fun a : Array UInt8 => (a[1]?.map UInt8.toNat)) h
  simp at h2
  omega
theorem cases8 {k : Nat} (h : k < 8) : k = 0 ∨ k = 1 ∨ k = 2 ∨ k = 3 ∨ k = 4 ∨ k = 5 ∨ k = 6 ∨ k = 7 := by omega
theorem n_dig (k : Nat) (h : k < 8) : (⟨#[110]⟩ : ByteArray) ++ digS k = nameS k := by
  rcases cases8 h with rfl | rfl | rfl | rfl | rfl | rfl | rfl | rfl <;> rfl

theorem small_any (k : Nat) (h : k < 8) (w : World) :
    Calls Tryd.prog 45 #[.int .i64 k] w fun e w' => e = .returned (.string (digS k)) ∧ w = w' := by
  rcases cases8 h with rfl | rfl | rfl | rfl | rfl | rfl | rfl | rfl
  all_goals
    clear h
    go_enter Tryd.func45, Tryd.ntmps45
    go_wp2
    go_ret
    exact ⟨rfl, rfl⟩

theorem format_any (k : Nat) (h : k < 8) (w : World) :
    Calls Tryd.prog 40 #[.int .i64 k, .int .i64 10] w fun e w' => e = .returned (.string (digS k)) ∧ w = w' := by
  have HS := Lib.hid (small_any k h w)
  have h1 : decide ((k : Int) < 100) = true := by simp; omega
  have h2 : decide (0 ≤ (k : Int)) = true := by simp
  go_enter Tryd.func40, Tryd.ntmps40
  go_wp2_with fail
  refine HS.out.mono ?_
  rintro e w' ⟨rfl, rfl⟩
  go_wp2
  go_ret
  exact ⟨rfl, rfl⟩
theorem itoa1_any (k : Nat) (h : k < 8) (w : World) :
    Calls Tryd.prog 36 #[.int .i64 k] w fun e w' => e = .returned (.string (digS k)) ∧ w = w' := by
  have HS := Lib.hid (format_any k h w)
  go_enter Tryd.func36, Tryd.ntmps36
  go_wp2_with fail
  refine HS.out.mono ?_
  rintro e w' ⟨rfl, rfl⟩
  go_wp2
  go_ret
  exact ⟨rfl, rfl⟩
theorem itoa_any (k : Nat) (h : k < 8) (w : World) :
    Calls Tryd.prog 30 #[.int .i64 k] w fun e w' => e = .returned (.string (digS k)) ∧ w = w' := by
  have HS := Lib.hid (itoa1_any k h w)
  go_enter Tryd.func30, Tryd.ntmps30
  go_wp2_with fail
  refine HS.out.mono ?_
  rintro e w' ⟨rfl, rfl⟩
  go_wp2
  go_ret
  exact ⟨rfl, rfl⟩

theorem isNode_yes (k : Nat) (h : k < 8) (w : World) :
    Calls Tryd.prog 29 #[.int .i64 k] w fun e w' => e = .returned (.bool true) ∧ w = w' := by
  have h1 : decide ((k : Int) < 8) = true := by simp; omega
  have h2 : decide (0 ≤ (k : Int)) = true := by simp
  go_enter Tryd.func29, Tryd.ntmps29
  go_wp2
  go_ret
  exact ⟨rfl, rfl⟩
theorem isNode_no (k : Int) (h : k < 0 ∨ 8 ≤ k) (w : World) :
    Calls Tryd.prog 29 #[.int .i64 k] w fun e w' => e = .returned (.bool false) ∧ w = w' := by
  by_cases hk : k < 0
  · have h2 : decide (0 ≤ k) = false := by simp; omega
    clear h
    go_enter Tryd.func29, Tryd.ntmps29
    go_wp2
    go_ret
    exact ⟨rfl, rfl⟩
  · have h2 : decide (0 ≤ k) = true := by simp; omega
    have h1 : decide (k < 8) = false := by simp; omega
    clear h
    go_enter Tryd.func29, Tryd.ntmps29
    go_wp2
    go_ret
    exact ⟨rfl, rfl⟩

theorem ret_str {a b : ByteArray} {c : Bool} (h : a = b) : Ending.returned (.tuple #[.string a, .bool c]) = .returned (.tuple #[.string b, .bool c]) := by rw [h]
theorem name_yes (k : Nat) (h : k < 8) (w : World) :
    Calls Tryd.prog 10 #[.int .i64 k] w fun e w' => e = .returned (.tuple #[.string (nameS k), .bool true]) ∧ w = w' := by
  have HN := Lib.hid (isNode_yes k h w)
  have HS := Lib.hid (itoa_any k h w)
  have HD := Lib.hid (n_dig k h)
  go_enter Tryd.func10, Tryd.ntmps10
  go_wp2_with fail
  refine HN.out.mono ?_
  rintro e w' ⟨rfl, rfl⟩
  go_wp2_with fail
  refine HS.out.mono ?_
  rintro e w' ⟨rfl, rfl⟩
  go_wp2
  go_ret2
  exact ⟨ret_str HD.out, rfl⟩
theorem name_no (k : Int) (h : k < 0 ∨ 8 ≤ k) (w : World) :
    Calls Tryd.prog 10 #[.int .i64 k] w fun e w' => e = .returned (.tuple #[.string .empty, .bool false]) ∧ w = w' := by
  have HN := Lib.hid (isNode_no k h w)
  clear h
  go_enter Tryd.func10, Tryd.ntmps10
  go_wp2_with fail
  refine HN.out.mono ?_
  rintro e w' ⟨rfl, rfl⟩
  go_wp2
  go_ret2
  exact ⟨rfl, rfl⟩
end Go.Proofs.YtokhmfdfigbbeaaDoor
