/- Dots and actors: which may be, and how they compare. -/
import Derived.Test.YtnlohijpcnoamaaBase
import Derived.Deep.RegionHeld3
import Derived.Deep.Cut
import Derived.OneCell
namespace Go.Proofs.Ytnlohijpcnoamaa
open Go.RowKit
open Go.Lib (byteCells byteCells_length)

theorem ret_bool {a b : Bool} (h : a = b) : Ending.returned (.bool a) = .returned (.bool b) := by rw [h]
theorem ret_int {k : IntKind} {a b : Int} (h : a = b) : Ending.returned (.int k a) = .returned (.int k b) := by rw [h]

/-- A dot (and a mark): node, life, count. -/
abbrev DotA := Int × Int × Int
abbrev ActA := Int × Int
def actOf (d : DotA) : ActA := (d.1, d.2.1)
abbrev dotV (d : DotA) : Value := .agg #[.int .i64 d.1, .int .i64 d.2.1, .int .i64 d.2.2]
abbrev actV (a : ActA) : Value := .agg #[.int .i64 a.1, .int .i64 a.2]

/-- Which dots may be. -/
def mayB (d : DotA) : Bool := decide (0 ≤ d.1) && decide (d.1 < 8) && decide (1 ≤ d.2.1) && decide (d.2.1 ≤ 1099511627776) && decide (1 ≤ d.2.2) && decide (d.2.2 ≤ 1099511627776)
def cmpI (a b : Int) : Int := if a < b then -1 else if b < a then 1 else 0
def cmpA (a b : ActA) : Int := if a.1 = b.1 then cmpI a.2 b.2 else cmpI a.1 b.1
def cmpD (a b : DotA) : Int := if cmpA (actOf a) (actOf b) = 0 then cmpI a.2.2 b.2.2 else cmpA (actOf a) (actOf b)

set_option maxRecDepth 100000 in
set_option maxHeartbeats 1600000 in
theorem may_any (d : DotA) (w : World) : Calls Try.prog 57 #[dotV d] w fun e w' => e = .returned (.bool (mayB d)) ∧ Below w.heap.size w w' := by
  obtain ⟨n, l, c⟩ := d
  go_enter Try.func57, Try.ntmps57
  go_wp2
  all_goals go_ret
  all_goals refine ⟨ret_bool ?_, (Below.refl _ _).alloc (Nat.le_refl _) _⟩
  all_goals simp [mayB]
  all_goals omega

theorem cmp_nan (a : Int) (w : World) : Calls Try.prog 74 #[.int .i64 a] w fun e w' => e = .returned (.bool false) ∧ w = w' := by
  have h : (a != a) = false := by simp
  go_enter Try.func74, Try.ntmps74
  go_wp2
  go_ret
  exact ⟨rfl, rfl⟩
set_option maxHeartbeats 800000 in
theorem cmp_any (a b : Int) (w : World) : Calls Try.prog 67 #[.int .i64 a, .int .i64 b] w fun e w' => e = .returned (.int .i64 (cmpI a b)) ∧ w = w' := by
  have H1 := Lib.hid (cmp_nan a w)
  have H2 := Lib.hid (cmp_nan b w)
  rcases Int.lt_trichotomy a b with h | h | h
  · have e : Hid (cmpI a b = -1) := Lib.hid (by unfold cmpI; rw [if_pos h])
    rw [e.out]
    have d1 : decide (a < b) = true := by simpa using h
    clear h
    go_enter Try.func67, Try.ntmps67
    go_wp2_with fail
    (with_reducible refine H1.out.mono ?_); rintro e w1 ⟨rfl, rfl⟩
    go_wp2_with fail
    (with_reducible refine H2.out.mono ?_); rintro e w1 ⟨rfl, rfl⟩
    go_wp2
    go_ret
    exact ⟨rfl, rfl⟩
  · subst h
    have e : Hid (cmpI a a = 0) := Lib.hid (by unfold cmpI; simp)
    rw [e.out]
    have d1 : decide (a < a) = false := by simp
    go_enter Try.func67, Try.ntmps67
    go_wp2_with fail
    (with_reducible refine H1.out.mono ?_); rintro e w1 ⟨rfl, rfl⟩
    go_wp2_with fail
    (with_reducible refine H2.out.mono ?_); rintro e w1 ⟨rfl, rfl⟩
    go_wp2
    go_ret
    exact ⟨rfl, rfl⟩
  · have e : Hid (cmpI a b = 1) := Lib.hid (by unfold cmpI; rw [if_neg (by omega), if_pos h])
    rw [e.out]
    have d1 : decide (a < b) = false := by simp; omega
    have d2 : decide (b < a) = true := by simpa using h
    clear h
    go_enter Try.func67, Try.ntmps67
    go_wp2_with fail
    (with_reducible refine H1.out.mono ?_); rintro e w1 ⟨rfl, rfl⟩
    go_wp2_with fail
    (with_reducible refine H2.out.mono ?_); rintro e w1 ⟨rfl, rfl⟩
    go_wp2
    go_ret
    exact ⟨rfl, rfl⟩

/-- The block of a struct that was boxed. -/
theorem box_cell (w : World) (cs : Array Value) (T : TypeId) (i : Nat) : (w.alloc (.cells cs T)).cell? ⟨w.heap.size, i, none⟩ = cs[i]? := cell_of_row _ _ i _ _ (0, 0) (heap_alloc_new w _)

set_option maxRecDepth 100000 in
set_option maxHeartbeats 800000 in
theorem ofDot_any (d : DotA) (w : World) : Calls Try.prog 62 #[dotV d] w fun e w' => e = .returned (actV (actOf d)) ∧ Below w.heap.size w w' := by
  obtain ⟨n, l, c⟩ := d
  go_enter Try.func62, Try.ntmps62
  go_wp2
  refine bodyPost_ret (v := actV (n, l)) ?_ rfl ⟨rfl, ?_⟩
  · simp [results, Try.results62, go_sem]
  · exact ((Below.refl _ _).alloc (Nat.le_refl _) _).alloc (by simp) _

theorem bcell {W w1 : World} (hb : Below W.heap.size W w1) : (∀ b o, b < W.heap.size → w1.cell? ⟨b, o, none⟩ = W.cell? ⟨b, o, none⟩) ∧ (∀ b o, b < W.heap.size → w1.frozen? ⟨b, o, none⟩ = W.frozen? ⟨b, o, none⟩) :=
  ⟨fun b o h => hb.cell (p := ⟨b, o, none⟩) h, fun b o h => hb.frozen (p := ⟨b, o, none⟩) h⟩

set_option maxRecDepth 100000 in
set_option maxHeartbeats 800000 in
theorem ofMark_any (d : DotA) (w : World) : Calls Try.prog 59 #[dotV d] w fun e w' => e = .returned (actV (actOf d)) ∧ Below w.heap.size w w' := by
  obtain ⟨n, l, c⟩ := d
  obtain ⟨W, hW⟩ : ∃ W, Hid (W = (w.alloc (.cells #[.int .i64 n, .int .i64 l, .int .i64 c] 53)).alloc (.cells #[.int .i64 0, .int .i64 0] 93)) := ⟨_, Lib.hid rfl⟩
  have hz : W.heap.size = w.heap.size + 2 := by rw [hW.out]; simp
  have hb : Below w.heap.size w W := by rw [hW.out]; exact ((Below.refl _ _).alloc (Nat.le_refl _) _).alloc (by simp) _
  have hr := heap_alloc_new (w.alloc (.cells #[.int .i64 n, .int .i64 l, .int .i64 c] 53)) (.cells #[.int .i64 0, .int .i64 0] 93)
  rw [← hW.out, show (w.alloc (.cells #[.int .i64 n, .int .i64 l, .int .i64 c] 53)).heap.size = w.heap.size + 1 by simp] at hr
  have HC := Lib.hid (ofDot_any (n, l, c) W)
  have HB := Lib.hid hb
  have HR := Lib.hid hr
  have HZ := Lib.hid hz
  have hlt : w.heap.size + 1 < W.heap.size := by omega
  clear hb hr hz
  go_enter Try.func59, Try.ntmps59
  go_upto_region 1 with fail
  rw [← hW.out]
  have hr0 : W.heap[w.heap.size]? = some (.cells #[.int .i64 n, .int .i64 l, .int .i64 c] 53 (0, 0)) := by
    rw [hW.out]
    exact (Below.heap_alloc _ _ _ (by simp)).trans (heap_alloc_new w _)
  have c0 : W.cell? ⟨w.heap.size, 0, none⟩ = some (.int .i64 n) := cell_of_row W _ 0 _ _ (0, 0) hr0
  have c1 : W.cell? ⟨w.heap.size, 1, none⟩ = some (.int .i64 l) := cell_of_row W _ 1 _ _ (0, 0) hr0
  have c2 : W.cell? ⟨w.heap.size, 2, none⟩ = some (.int .i64 c) := cell_of_row W _ 2 _ _ (0, 0) hr0
  clear hr0
  go_wp2_with fail
  (with_reducible refine HC.out.mono ?_); rintro e w1 ⟨rfl, hb1⟩
  have r1 := (hb1.block _ hlt).trans HR.out
  have q0 : w1.cell? ⟨w.heap.size + 1, 0, none⟩ = some (.int .i64 0) := cell_of_row w1 _ 0 _ _ (0, 0) r1
  have q1 : w1.cell? ⟨w.heap.size + 1, 1, none⟩ = some (.int .i64 0) := cell_of_row w1 _ 1 _ _ (0, 0) r1
  have f0 : w1.frozen? ⟨w.heap.size + 1, 0, none⟩ = false := frozen_of_row w1 _ 0 _ _ r1
  have f1 : w1.frozen? ⟨w.heap.size + 1, 1, none⟩ = false := frozen_of_row w1 _ 1 _ _ r1
  have HB1 := Lib.hid (HB.out.trans (hb1.mono HB.out.size))
  clear hb1 r1 c0 c1 c2
  go_wp2
  refine bodyPost_ret (v := actV (n, l)) ?_ rfl ⟨rfl, ?_⟩
  · simp [results, Try.results59, go_sem, actOf, q0, q1]
  · exact (HB1.out.setCell (by simp) _).setCell (by simp) _
end Go.Proofs.Ytnlohijpcnoamaa
