/- The walk of IdentNames. -/
import Derived.Test.YtokhmfdfigbbeaaDoorRefNames
namespace Go.Proofs.YtokhmfdfigbbeaaDoor
open Go.RowKit

/-- What is asked of a number and of a text, by the program and by the document: the same. -/
def AsksName (n : Int) (w : World) : Prop := ∃ (s : ByteArray) (b : Bool), (Calls Tryd.prog 10 #[.int .i64 n] w fun e w' => e = .returned (.tuple #[.string s, .bool b]) ∧ w = w') ∧
    (Calls Tryd.prog 11 #[.int .i64 n] w fun e w' => e = .returned (.tuple #[.string s, .bool b]) ∧ Below w.heap.size w w')
def AsksNode (s : ByteArray) : Prop := ∃ (n : Int) (b : Bool), (∀ w, Calls Tryd.prog 12 #[.string s] w fun e w' => e = .returned (.tuple #[.int .i64 n, .bool b]) ∧ w = w') ∧
    (∀ w, Calls Tryd.prog 13 #[.string s] w fun e w' => e = .returned (.tuple #[.int .i64 n, .bool b]) ∧ Below w.heap.size w w')
theorem asksName (n : Int) (w : World) : AsksName n w := by
  by_cases hn : 0 ≤ n ∧ n < 8
  · obtain ⟨j, rfl⟩ := Int.eq_ofNat_of_zero_le hn.1
    exact ⟨_, _, name_yes j (by omega) w, refName_yes j (by omega) w⟩
  · exact ⟨_, _, name_no n (by omega) w, refName_no n (by omega) w⟩
theorem asksNode (s : ByteArray) : AsksNode s := by
  by_cases h : ∃ k, k < 8 ∧ nameS k = s
  · obtain ⟨k, hk, rfl⟩ := h
    exact ⟨_, _, node_yes k hk, refNode_yes k hk⟩
  · have h' : ∀ k, k < 8 → nameS k ≠ s := fun k hk e => h ⟨k, hk, e⟩
    exact ⟨_, _, node_no s h', refNode_no s h'⟩

set_option maxRecDepth 100000 in
set_option maxHeartbeats 1600000 in
theorem identNames_walk (n : Int) (_hn0 : -9223372036854775808 ≤ n) (_hn1 : n ≤ 9223372036854775807) (s : ByteArray) (hs : s.size ≤ 9223372036854775807) (w : World) (ht : Tabs w) :
    Calls Tryd.prog 3 #[.int .i64 n, .string s] w fun e w' => e = .returned (.bool true) ∧ Below w.heap.size w w' := by
  obtain ⟨a, b, h1, h2⟩ := asksName n w
  obtain ⟨m, c, h3, h4⟩ := asksNode s
  have hk := fun w => isKey_any s hs w
  have hr := fun w => refIsKey_any s hs w
  have haw := fun w => awake_any w
  generalize canS s.data.toList = q at hk hr
  have H1 := Lib.hid h1
  have H2 := Lib.hid h2
  have H3 := Lib.hid h3
  have H4 := Lib.hid h4
  have HK := Lib.hid hk
  have HR := Lib.hid hr
  have HA := Lib.hid haw
  have HT := Lib.hid ht
  have ebb : ∀ x : Bool, (x == x) = true := fun x => by cases x <;> rfl
  have eaa : (a.toList == a.toList) = true := by rw [beq_iff_eq]
  clear h1 h2 h3 h4 hk hr haw ht
  go_enter Tryd.func3, Tryd.ntmps3
  go_wp2_with fail
  (with_reducible refine H1.out.mono ?_); rintro e w' ⟨rfl, rfl⟩
  go_wp2_with fail
  (with_reducible refine H2.out.mono ?_); rintro e w1 ⟨rfl, hb1⟩
  go_wp2_with fail
  (with_reducible refine (H3.out _).mono ?_); rintro e w' ⟨rfl, rfl⟩
  go_wp2_with fail
  (with_reducible refine (H4.out _).mono ?_); rintro e w2 ⟨rfl, hb2⟩
  have hb12 := hb1.trans (hb2.mono hb1.size)
  go_wp2_with fail
  (with_reducible refine (HK.out _).mono ?_); rintro e w3 ⟨rfl, hb3⟩
  have hb13 := hb12.trans (hb3.mono hb12.size)
  go_wp2_with fail
  (with_reducible refine (HR.out _).mono ?_); rintro e w' ⟨rfl, rfl⟩
  go_wp2_with fail
  (with_reducible refine (HA.out _ (HT.out.below hb13 HT.out.big)).mono ?_); rintro e w4 ⟨rfl, hb4⟩
  go_wp2
  go_ret
  exact ⟨rfl, hb13.trans (hb4.mono hb13.size)⟩
end Go.Proofs.YtokhmfdfigbbeaaDoor
