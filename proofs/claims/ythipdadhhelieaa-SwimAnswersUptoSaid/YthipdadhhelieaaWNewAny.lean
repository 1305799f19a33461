/- New of any node. -/
import Derived.Test.YthipdadhhelieaaWNewOne
namespace Go.Proofs.Ythipdadhhelieaa
open Go.RowKit Go.Sort Go.BigFrame

/-- A table as it is made, before it knows of its own node. -/
def Z0 (s : Int) : TabA := ⟨s, 0, noSt, noSt, noSt, noSt, noSt, noSt, noSt, noSt, .slice none 0 0, (-1, 0, 0, false)⟩
set_option maxRecDepth 100000 in
set_option maxHeartbeats 1600000 in
theorem new_any (k : Nat) (hk : k < 8) (w : World) : Calls Try.prog 11 #[.int .i64 (k : Int)] w fun e w' => ∃ g, w.heap.size ≤ g ∧ e = .returned (.tuple #[.pointer (some ⟨g, 0, none⟩), .int .i64 0]) ∧ TabAt w' g ((Z0 (k : Int)).setNd k (((k : Int), 0, 1), 0)) ∧ Below w.heap.size w w' := by
  obtain ⟨W, hW⟩ : ∃ W, Hid (W = w.alloc (.cells (Z0 (k : Int)).cells 69)) := ⟨_, Lib.hid rfl⟩
  have HB : Hid (Below w.heap.size w W) := Lib.hid (by rw [hW.out]; exact (Below.refl _ _).alloc (Nat.le_refl _) _)
  have HT : Hid (TabAt W w.heap.size (Z0 (k : Int))) := Lib.hid (by rw [hW.out]; exact heap_alloc_new w _)
  have H0 : Hid (Calls Try.prog 38 #[.int .i64 (k : Int)] w fun e w' => e = .returned (.bool true) ∧ w = w') := Lib.hid (by
    have h := isNode_any (k : Int) w
    have e : isNodeB (k : Int) = true := by unfold isNodeB; simp; omega
    rw [e] at h
    exact h)
  have H1 : Hid (Calls Try.prog 39 #[.pointer (some ⟨w.heap.size, 0, none⟩), .agg #[.int .i64 (k : Int), .int .i64 0, .int .i64 1]] W fun e w' => e = .returned (.tuple #[]) ∧ TabAt w' w.heap.size ((Z0 (k : Int)).setNd k (((k : Int), 0, 1), 0)) ∧ Turns w.heap.size W.heap.size W w') := Lib.hid (learn_any w.heap.size (Z0 (k : Int)) k hk ((k : Int), 0, 1) rfl W HT.out)
  go_enter Try.func11, Try.ntmps11
  go_upto_region 4 with ((go_at_call 38); (with_reducible refine H0.out.mono ?_); rintro e w1 ⟨rfl, rfl⟩)
  have hWe : w.alloc (.cells (Z0 (k : Int)).cells 69) = W := hW.out.symm
  unfold Z0 TabA.cells noSt at hWe
  simp only at hWe
  rw [hWe]
  clear hWe
  go_wp2_with ((go_at_call 39); (with_reducible refine H1.out.mono ?_); rintro e w2 ⟨rfl, ht2, hg2⟩)
  go_ret2
  exact ⟨w.heap.size, Nat.le_refl _, rfl, ht2, ((Turns.of HB.out).trans (hg2.mono HB.out.size)).below (Nat.le_refl _)⟩

set_option maxRecDepth 100000 in
/-- New of what is no node. -/
theorem new_bad (n : Int) (hn : isNodeB n = false) (w : World) : Calls Try.prog 11 #[.int .i64 n] w fun e w' => (∃ z : Int, e = .returned (.tuple #[.pointer none, .int .i64 z]) ∧ z ≠ 0) ∧ Below w.heap.size w w' := by
  have H0 : Hid (Calls Try.prog 38 #[.int .i64 n] w fun e w' => e = .returned (.bool false) ∧ w = w') := Lib.hid (by
    have h := isNode_any n w
    rw [hn] at h
    exact h)
  clear hn
  go_enter Try.func11, Try.ntmps11
  go_wp2_with ((go_at_call 38); (with_reducible refine H0.out.mono ?_); rintro e w1 ⟨rfl, rfl⟩)
  go_ret2
  exact ⟨⟨_, rfl, by decide⟩, Below.refl _ _⟩

set_option maxRecDepth 100000 in
/-- Status of a node. -/
theorem status_any (g : Nat) (t : TabA) (ks : Nat) (hks : ks < 8) (hself : t.self = (ks : Int)) (hkn : t.knows ks = true) (k : Nat) (hk : k < 8) (w : World) (h : TabAt w g t) :
    Calls Try.prog 28 #[.pointer (some ⟨g, 0, none⟩), .int .i64 (k : Int)] w fun e w' => e = .returned (.int .i64 (t.nd k).1.2.2) ∧ w = w' := by
  have H0 : Hid (Calls Try.prog 40 #[.pointer (some ⟨g, 0, none⟩)] w fun e w' => e = .returned (.bool true) ∧ w = w') := Lib.hid (by have := made_any g t ks hks hself w h; rw [hkn] at this; exact this)
  have H1 : Hid (Calls Try.prog 38 #[.int .i64 (k : Int)] w fun e w' => e = .returned (.bool true) ∧ w = w') := Lib.hid (by
    have h := isNode_any (k : Int) w
    have e : isNodeB (k : Int) = true := by unfold isNodeB; simp; omega
    rw [e] at h
    exact h)
  obtain ⟨c0, c1, c2, c3⟩ := h.node hk
  have b0 : (0 : Int) ≤ (k : Int) := by omega
  have b1 : (k : Int) < 8 := by omega
  generalize t.nd k = s at c0 c1 c2 c3 ⊢
  clear h hkn hself hks
  go_enter Try.func28, Try.ntmps28
  go_wp2_with (first
    | (go_at_call 40
       (with_reducible refine H0.out.mono ?_); rintro e w1 ⟨rfl, rfl⟩)
    | (go_at_call 38
       (with_reducible refine H1.out.mono ?_); rintro e w1 ⟨rfl, rfl⟩))
  go_ret
  exact ⟨rfl, rfl⟩

set_option maxRecDepth 100000 in
/-- Up of a node: not dead, and known. -/
theorem up_any (g : Nat) (t : TabA) (ks : Nat) (hks : ks < 8) (hself : t.self = (ks : Int)) (hkn : t.knows ks = true) (k : Nat) (hk : k < 8) (w : World) (h : TabAt w g t) :
    Calls Try.prog 29 #[.pointer (some ⟨g, 0, none⟩), .int .i64 (k : Int)] w fun e w' => e = .returned (.bool (decide ((t.nd k).1.2.2 = 1) || decide ((t.nd k).1.2.2 = 2))) ∧ w = w' := by
  have H0 := Lib.hid (status_any g t ks hks hself hkn k hk w h)
  generalize (t.nd k).1.2.2 = z at H0 ⊢
  clear h hkn hself hks
  by_cases h1 : z = 1
  · subst h1
    go_enter Try.func29, Try.ntmps29
    go_wp2_with ((go_at_call 28); (with_reducible refine H0.out.mono ?_); rintro e w1 ⟨rfl, rfl⟩)
    go_ret
    exact ⟨rfl, rfl⟩
  · by_cases h2 : z = 2
    · subst h2
      go_enter Try.func29, Try.ntmps29
      go_wp2_with ((go_at_call 28); (with_reducible refine H0.out.mono ?_); rintro e w1 ⟨rfl, rfl⟩)
      go_ret
      exact ⟨rfl, rfl⟩
    · have e1 : (z == 1) = false := by simp [h1]
      have e2 : (z == 2) = false := by simp [h2]
      have d1 : decide (z = 1) = false := decide_eq_false h1
      have d2 : decide (z = 2) = false := decide_eq_false h2
      rw [d1, d2]
      go_enter Try.func29, Try.ntmps29
      go_wp2_with ((go_at_call 28); (with_reducible refine H0.out.mono ?_); rintro e w1 ⟨rfl, rfl⟩)
      go_ret
      exact ⟨rfl, rfl⟩
end Go.Proofs.Ythipdadhhelieaa
