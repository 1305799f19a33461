/- The document's order. -/
import Derived.Test.YtaihkehbpppngaaTOrd
import Derived.Laws.BitsAllLaws
import Derived.Laws.Bits64
namespace Go.Proofs.Ytaihkehbpppngaa
open Go.RowKit

theorem ret_u64 {a b : Int} (h : a = b) : Ending.returned (.int .u64 a) = .returned (.int .u64 b) := by rw [h]
theorem not_u64 (a : Nat) (ha : a < 18446744073709551616) : bits .xor .u64 IntKind.u64.max (a : Int) = 18446744073709551615 - (a : Int) := by
  have e : IntKind.u64.max = ((18446744073709551615 : Nat) : Int) := rfl
  rw [e, u64_xor_nat _ _ (by decide) ha]
  have h : (18446744073709551615 : Nat) ^^^ a = 2 ^ 64 - (a + 1) := by
    apply Nat.eq_of_testBit_eq
    intro i
    rw [Nat.testBit_xor, Nat.testBit_two_pow_sub_succ (show a < 2 ^ 64 from ha), show (18446744073709551615 : Nat) = 2 ^ 64 - 1 from rfl, Nat.testBit_two_pow_sub_one]
    by_cases hi : i < 64
    · simp [hi]
    · have : a.testBit i = false := Nat.testBit_lt_two_pow (Nat.lt_of_lt_of_le ha (show 18446744073709551616 ≤ 2 ^ i from Nat.pow_le_pow_right (by decide : 0 < 2) (show 64 ≤ i by omega)))
      simp [hi, this]
  rw [h]
  omega
theorem top_u64 (a : Nat) (ha : a < 9223372036854775808) : bits .or .u64 (a : Int) 9223372036854775808 = (a : Int) + 9223372036854775808 := by
  have e := u64_or_nat a 9223372036854775808 (by omega) (by decide)
  have h : a ||| 9223372036854775808 = a + 9223372036854775808 := by
    have := Nat.two_pow_add_eq_or_of_lt (show a < 2 ^ 63 from ha) 1
    rw [Nat.mul_one] at this
    rw [Nat.or_comm, Nat.add_comm]
    exact this.symm
  rw [h] at e
  exact e.trans (by omega)
theorem rank_any (a : Nat) (ha : a < 18446744073709551616) (w : World) : Calls Try.prog 32 #[.int .u64 a] w fun e w' => e = .returned (.int .u64 (rank a)) ∧ w = w' := by
  have H1 := fun w' => Lib.hid (float_any a w')
  have hq : (FloatKind.f64.format.order a a != some Ordering.eq) = nanB a := neqF a
  cases hn : nanB a with
  | true =>
    have e : rank a = 0 := by unfold rank; rw [hn]; rfl
    rw [hn] at hq
    rw [e]
    clear e hn ha
    go_enter Try.func32, Try.ntmps32
    go_wp2_with fail
    (with_reducible refine (H1 _).out.mono ?_); rintro e w1 ⟨rfl, rfl⟩
    go_wp2_with fail
    (with_reducible refine (H1 _).out.mono ?_); rintro e w1 ⟨rfl, rfl⟩
    go_wp2
    go_ret
    exact ⟨rfl, rfl⟩
  | false =>
    have hs := sgn_iff ha
    have e : rank a = if sgn a then 18446744073709551615 - (a : Int) else (a : Int) + 9223372036854775808 := by unfold rank; rw [hn]; rfl
    rw [hn] at hq
    by_cases hc : 9223372036854775808 ≤ a
    · have d1 : decide ((a : Int) / 9223372036854775808 = 1) = true := decide_eq_true (by omega)
      have d2 : ((a : Int) / 9223372036854775808 == 1) = true := by simpa using d1
      rw [hs.2 hc, if_pos rfl] at e
      have HE := Lib.hid e
      clear e hn hc hs
      go_enter Try.func32, Try.ntmps32
      go_wp2_with fail
      (with_reducible refine (H1 _).out.mono ?_); rintro e w1 ⟨rfl, rfl⟩
      go_wp2_with fail
      (with_reducible refine (H1 _).out.mono ?_); rintro e w1 ⟨rfl, rfl⟩
      go_wp2
      go_ret
      exact ⟨ret_u64 (by rw [HE.out]; exact not_u64 a ha), rfl⟩
    · have d1 : decide ((a : Int) / 9223372036854775808 = 1) = false := decide_eq_false (by omega)
      have d2 : ((a : Int) / 9223372036854775808 == 1) = false := by simpa using d1
      have hsf : sgn a = false := by cases h : sgn a; rfl; exact absurd (hs.1 h) hc
      rw [hsf] at e
      simp only [Bool.false_eq_true, if_false] at e
      have HE := Lib.hid e
      clear e hn hs
      go_enter Try.func32, Try.ntmps32
      go_wp2_with fail
      (with_reducible refine (H1 _).out.mono ?_); rintro e w1 ⟨rfl, rfl⟩
      go_wp2_with fail
      (with_reducible refine (H1 _).out.mono ?_); rintro e w1 ⟨rfl, rfl⟩
      go_wp2
      go_ret
      exact ⟨ret_u64 (by rw [HE.out]; exact top_u64 a (by omega)), rfl⟩

theorem refOrder_any (a b : Nat) (w : World) (ha : a < 18446744073709551616) (hb : b < 18446744073709551616) : Calls Try.prog 10 #[.int .u64 a, .int .u64 b] w fun e w' => e = .returned (.int .i64 (ordP a b)) ∧ w = w' := by
  have H1 := fun w' => Lib.hid (rank_any a ha w')
  have H2 := fun w' => Lib.hid (rank_any b hb w')
  rw [ordP_rank ha hb]
  generalize rank a = x at H1 ⊢
  generalize rank b = y at H2 ⊢
  clear ha hb
  rcases Int.lt_trichotomy x y with h | h | h
  · have d1 : decide (x < y) = true := decide_eq_true h
    have e3 : cmpZ x y = -1 := by unfold cmpZ; rw [if_pos h]
    clear h
    go_enter Try.func10, Try.ntmps10
    go_wp2_with (first
      | (go_at_call 32
         (with_reducible refine (H1 _).out.mono ?_); rintro e w1 ⟨rfl, rfl⟩)
      | (go_at_call 32
         (with_reducible refine (H2 _).out.mono ?_); rintro e w1 ⟨rfl, rfl⟩))
    go_ret
    exact ⟨ret_i64 e3.symm, rfl⟩
  · have d1 : decide (x < y) = false := decide_eq_false (by omega)
    have d2 : decide (x > y) = false := decide_eq_false (by omega)
    have e3 : cmpZ x y = 0 := by rw [h]; exact cmpZ_self y
    clear h
    go_enter Try.func10, Try.ntmps10
    go_wp2_with (first
      | (go_at_call 32
         (with_reducible refine (H1 _).out.mono ?_); rintro e w1 ⟨rfl, rfl⟩)
      | (go_at_call 32
         (with_reducible refine (H2 _).out.mono ?_); rintro e w1 ⟨rfl, rfl⟩))
    go_ret
    exact ⟨ret_i64 e3.symm, rfl⟩
  · have d1 : decide (x < y) = false := decide_eq_false (by omega)
    have d2 : decide (x > y) = true := decide_eq_true (by omega)
    have e3 : cmpZ x y = 1 := by unfold cmpZ; rw [if_neg (by omega), if_pos h]
    clear h
    go_enter Try.func10, Try.ntmps10
    go_wp2_with (first
      | (go_at_call 32
         (with_reducible refine (H1 _).out.mono ?_); rintro e w1 ⟨rfl, rfl⟩)
      | (go_at_call 32
         (with_reducible refine (H2 _).out.mono ?_); rintro e w1 ⟨rfl, rfl⟩))
    go_ret
    exact ⟨ret_i64 e3.symm, rfl⟩

/-- TillOrders. -/
theorem orders_walk (a b : Nat) (ha : a < 18446744073709551616) (hb : b < 18446744073709551616) (w : World) :
    Calls Try.prog 3 #[.int .u64 a, .int .u64 b] w fun e w' => e = .returned (.bool true) ∧ Below w.heap.size w w' := by
  have H1 := fun w' => Lib.hid (order_any a b w' ha hb)
  have H2 := fun w' => Lib.hid (refOrder_any a b w' ha hb)
  have e12 : ordP 1 2 = -1 := by rw [ordP_rank (by decide) (by decide)]; decide
  have H3 : ∀ w', Hid (Calls Try.prog 9 #[.int .u64 1, .int .u64 2] w' fun e w'' => e = .returned (.int .i64 (-1)) ∧ Below w'.heap.size w' w'') := fun w' => Lib.hid (by
    have h := order_any 1 2 w' (by decide) (by decide)
    rw [e12] at h
    exact h)
  generalize ordP a b = x at H1 H2
  clear ha hb e12
  go_enter Try.func3, Try.ntmps3
  go_wp2_with (first
      | (go_at_call 10
         (with_reducible refine (H2 _).out.mono ?_); rintro e w2 ⟨rfl, rfl⟩)
      | (go_at_call 9
         (with_reducible refine (H1 _).out.mono ?_); rintro e w1 ⟨rfl, hb1⟩)
      | (go_at_call 9
         (with_reducible refine (H3 _).out.mono ?_); rintro e w3 ⟨rfl, hb3⟩))
  go_ret
  exact ⟨rfl, hb1.trans (hb3.mono hb1.size)⟩

theorem neg_i64 {x : Int} (h : -1 ≤ x ∧ x ≤ 1) : IntKind.i64.wrap (-x) = -x := by
  rcases (by omega : x = -1 ∨ x = 0 ∨ x = 1) with rfl | rfl | rfl <;> rfl
/-- TillOrder. -/
theorem order_walk (a b c : Nat) (ha : a < 18446744073709551616) (hb : b < 18446744073709551616) (hc : c < 18446744073709551616) (w : World) :
    Calls Try.prog 6 #[.int .u64 a, .int .u64 b, .int .u64 c] w fun e w' => e = .returned (.bool true) ∧ Below w.heap.size w w' := by
  have H1 := fun w' => Lib.hid (order_any a b w' ha hb)
  have H2 := fun w' => Lib.hid (order_any b c w' hb hc)
  have H3 := fun w' => Lib.hid (order_any a c w' ha hc)
  have H4 := fun w' => Lib.hid (order_any b a w' hb ha)
  have H5 := fun w' => Lib.hid (order_any a a w' ha ha)
  have e21 : ordP 2 1 = 1 := by rw [ordP_rank (by decide) (by decide)]; decide
  have H6 : ∀ w', Hid (Calls Try.prog 9 #[.int .u64 2, .int .u64 1] w' fun e w'' => e = .returned (.int .i64 1) ∧ Below w'.heap.size w' w'') := fun w' => Lib.hid (by
    have h := order_any 2 1 w' (by decide) (by decide)
    rw [e21] at h
    exact h)
  have q1 : ordP b a = - ordP a b := by rw [ordP_rank hb ha, ordP_rank ha hb]; exact cmpZ_swap _ _
  have q2 : ordP a a = 0 := by rw [ordP_rank ha ha]; exact cmpZ_self _
  have q3 : -1 ≤ ordP a b ∧ ordP a b ≤ 1 := by rw [ordP_rank ha hb]; exact cmpZ_bd _ _
  have q4 : -1 ≤ ordP b c ∧ ordP b c ≤ 1 := by rw [ordP_rank hb hc]; exact cmpZ_bd _ _
  have q5 : -1 ≤ ordP a c ∧ ordP a c ≤ 1 := by rw [ordP_rank ha hc]; exact cmpZ_bd _ _
  have q6 := @cmpZ_tr (rank a) (rank b) (rank c)
  rw [← ordP_rank ha hb, ← ordP_rank hb hc, ← ordP_rank ha hc] at q6
  rw [q1] at H4
  rw [q2] at H5
  generalize ordP a b = x at H1 H4 q3 q6
  generalize ordP b c = y at H2 q4 q6
  generalize ordP a c = z at H3 q5 q6
  clear ha hb hc e21 q1 q2
  rcases (by omega : x = -1 ∨ x = 0 ∨ x = 1) with rfl | rfl | rfl <;> rcases (by omega : y = -1 ∨ y = 0 ∨ y = 1) with rfl | rfl | rfl <;> rcases (by omega : z = -1 ∨ z = 0 ∨ z = 1) with rfl | rfl | rfl
  all_goals first
    | (exfalso; omega)
    | (clear q3 q4 q5 q6
       go_enter Try.func6, Try.ntmps6
       go_wp2_with (first
         | (go_at_call 9
            (with_reducible refine (H1 _).out.mono ?_); rintro e w1 ⟨rfl, hb1⟩)
         | (go_at_call 9
            (with_reducible refine (H2 _).out.mono ?_); rintro e w2 ⟨rfl, hb2⟩)
         | (go_at_call 9
            (with_reducible refine (H3 _).out.mono ?_); rintro e w3 ⟨rfl, hb3⟩)
         | (go_at_call 9
            (with_reducible refine (H4 _).out.mono ?_); rintro e w4 ⟨rfl, hb4⟩)
         | (go_at_call 9
            (with_reducible refine (H5 _).out.mono ?_); rintro e w5 ⟨rfl, hb5⟩)
         | (go_at_call 9
            (with_reducible refine (H6 _).out.mono ?_); rintro e w6 ⟨rfl, hb6⟩))
       go_ret
       exact ⟨rfl, ((((hb1.trans (hb2.mono hb1.size)).trans (hb3.mono (Nat.le_trans hb1.size hb2.size))).trans (hb4.mono (Nat.le_trans (Nat.le_trans hb1.size hb2.size) hb3.size))).trans (hb5.mono (Nat.le_trans (Nat.le_trans (Nat.le_trans hb1.size hb2.size) hb3.size) hb4.size))).trans (hb6.mono (Nat.le_trans (Nat.le_trans (Nat.le_trans (Nat.le_trans hb1.size hb2.size) hb3.size) hb4.size) hb5.size))⟩)
end Go.Proofs.Ytaihkehbpppngaa
