/- Names of nodes, and keys: the program's answers and the document's. -/
import Derived.Test.YtmgobekdlgogmaaDoorPart2
import Derived.Test.YtmgobekdlgogmaaDoorBase
import Derived.Lib.ConvBytes
import Derived.Laws.IdiomStrings
namespace Go.Proofs.YtmgobekdlgogmaaDoor
open Go.RowKit
open Go.Lib (byteCells byteCells_length)

/-- A node's name. -/
def digS (k : Nat) : ByteArray := ⟨#[UInt8.ofNat (48 + k)]⟩
def nameS (k : Nat) : ByteArray := ⟨#[110, UInt8.ofNat (48 + k)]⟩
theorem nameS_inj {i k : Nat} (hi : i < 8) (hk : k < 8) (h : nameS i = nameS k) : i = k := by
  unfold nameS at h
  injection h with h
  have h2 := congrArg (fun a : Array UInt8 => (a[1]?.map UInt8.toNat)) h
  simp at h2
  omega
theorem cases8 {k : Nat} (h : k < 8) : k = 0 ∨ k = 1 ∨ k = 2 ∨ k = 3 ∨ k = 4 ∨ k = 5 ∨ k = 6 ∨ k = 7 := by omega
theorem n_dig (k : Nat) (h : k < 8) : (⟨#[110]⟩ : ByteArray) ++ digS k = nameS k := by
  rcases cases8 h with rfl | rfl | rfl | rfl | rfl | rfl | rfl | rfl <;> rfl

theorem isNode_yes (k : Nat) (h : k < 8) (w : World) :
    Calls Tryd.prog 86 #[.int .i64 k] w fun e w' => e = .returned (.bool true) ∧ w = w' := by
  have h1 : decide ((k : Int) < 8) = true := by simp; omega
  have h2 : decide (0 ≤ (k : Int)) = true := by simp
  go_enter Tryd.func86, Tryd.ntmps86
  go_wp2
  go_ret
  exact ⟨rfl, rfl⟩
theorem isNode_no (k : Int) (h : k < 0 ∨ 8 ≤ k) (w : World) :
    Calls Tryd.prog 86 #[.int .i64 k] w fun e w' => e = .returned (.bool false) ∧ w = w' := by
  by_cases hk : k < 0
  · have h2 : decide (0 ≤ k) = false := by simp; omega
    clear h
    go_enter Tryd.func86, Tryd.ntmps86
    go_wp2
    go_ret
    exact ⟨rfl, rfl⟩
  · have h2 : decide (0 ≤ k) = true := by simp; omega
    have h1 : decide (k < 8) = false := by simp; omega
    clear h
    go_enter Tryd.func86, Tryd.ntmps86
    go_wp2
    go_ret
    exact ⟨rfl, rfl⟩

theorem ret_str {a b : ByteArray} {c : Bool} (h : a = b) : Ending.returned (.tuple #[.string a, .bool c]) = .returned (.tuple #[.string b, .bool c]) := by rw [h]
end Go.Proofs.YtmgobekdlgogmaaDoor
