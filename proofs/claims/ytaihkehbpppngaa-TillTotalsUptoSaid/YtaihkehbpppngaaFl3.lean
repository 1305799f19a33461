/- Nothing off, and all off; sums of what is not below nought. -/
import Derived.Test.YtaihkehbpppngaaFl2
namespace Go.Proofs.Ytaihkehbpppngaa
open Ieee Go.RowKit

theorem log2_scale {m : Nat} (h : m ≠ 0) (j : Nat) : (m * 2 ^ j).log2 = m.log2 + j := by
  have hp := Nat.two_pow_pos j
  have h0 : m * 2 ^ j ≠ 0 := Nat.mul_ne_zero h (by omega)
  rw [Nat.log2_eq_iff h0]
  have hm := (Nat.log2_eq_iff h).1 rfl
  constructor
  · rw [Nat.pow_add]; exact Nat.mul_le_mul_right _ hm.1
  · rw [show m.log2 + j + 1 = (m.log2 + 1) + j by omega, Nat.pow_add]; exact Nat.mul_lt_mul_of_pos_right hm.2 hp
theorem cut_scale (s : Bool) {m : Nat} (h : m ≠ 0) (j : Nat) : Toward.even.cut s (m * 2 ^ j) j = m := by
  have hp := Nat.two_pow_pos j
  have e : min j ((m * 2 ^ j).log2 + 2) = j := by rw [log2_scale h]; omega
  unfold Toward.cut
  dsimp only
  rw [e, Nat.one_shiftLeft, Nat.mul_div_cancel _ hp, Nat.mul_mod_left]
  have h1 : decide (2 ^ j < 2 * 0) = false := by simp
  have h2 : (2 ^ j == 2 * 0) = false := by simp
  rw [h1, h2]
  rfl
theorem nearest_scale (s : Bool) {m k : Nat} (h : m ≠ 0) (hl : m.log2 = 52 ∨ (k = 0 ∧ m.log2 ≤ 52)) (hr : k * 4503599627370496 + m ≤ 9218868437227405312) (j : Nat) :
    double.nearest s (m * 2 ^ j) (-1074 + (k : Int) - (j : Int)) = if s then 9223372036854775808 + (k * 4503599627370496 + m) else k * 4503599627370496 + m := by
  have hp := Nat.two_pow_pos j
  have h0 : m * 2 ^ j ≠ 0 := Nat.mul_ne_zero h (by omega)
  have e2 : double.binade = 4503599627370496 := by decide
  have e3 : double.infRung = 9218868437227405312 := by decide
  have e4 : double.leastPlace = -1074 := by decide
  have e5 : (double.fractionBits : Int) = 52 := rfl
  unfold Format.nearest
  rw [if_neg h0]
  dsimp only
  rw [e2, e3, e4, e5, log2_scale h]
  have el : max (-1074 + (k : Int) - (j : Int) + ((m.log2 + j : Nat) : Int) - 52) (-1074) = -1074 + (k : Int) := by omega
  rw [el]
  have p1 : (-1074 + (k : Int) - (j : Int) - (-1074 + (k : Int))).toNat = 0 := by omega
  have p2 : (-1074 + (k : Int) - (-1074 + (k : Int) - (j : Int))).toNat = j := by omega
  have p3 : (-1074 + (k : Int) - -1074).toNat = k := by omega
  rw [p1, p2, p3, Nat.shiftLeft_zero, cut_scale s h, Nat.min_eq_left hr, word_eq]

theorem word_split {b : Nat} (hb : b < 18446744073709551616) : (if sgn b then 9223372036854775808 + rung b else rung b) = b := by
  unfold sgn rung
  by_cases h : b / 9223372036854775808 % 2 = 1
  · rw [if_pos (by simpa using h)]; omega
  · rw [if_neg (by simpa using h)]; omega

/-- A finite word: its digits and their place, and that it is what is written of them, however many noughts stand behind. -/
theorem read_back {b : Nat} (h : rung b < 9218868437227405312) (hb : b < 18446744073709551616) : ∃ (m k : Nat), double.read b = .number (sgn b) m (-1074 + (k : Int)) ∧ (m = 0 ↔ rung b = 0) ∧
    ∀ j : Nat, double.write (.number (sgn b) (m * 2 ^ j) (-1074 + (k : Int) - (j : Int))) = b := by
  have key : ∀ (m k : Nat), k * 4503599627370496 + m = rung b → (m = 0 → rung b = 0) → (m.log2 = 52 ∨ (k = 0 ∧ m.log2 ≤ 52)) → ∀ j : Nat, double.write (.number (sgn b) (m * 2 ^ j) (-1074 + (k : Int) - (j : Int))) = b := by
    intro m k hk h0 hl j
    show double.nearest _ _ _ = b
    by_cases hm : m = 0
    · have hr := h0 hm
      subst hm
      rw [Nat.zero_mul]
      unfold Format.nearest
      rw [if_pos rfl, word_eq, ← hr]
      exact word_split hb
    · rw [nearest_scale _ hm hl (by omega) j, hk]
      exact word_split hb
  have hread := read_eq b
  by_cases h1 : rung b < 4503599627370496
  · rw [if_pos h1] at hread
    refine ⟨rung b, 0, hread, Iff.rfl, key _ _ (by omega) (fun e => e) (.inr ⟨rfl, ?_⟩)⟩
    by_cases h0 : rung b = 0
    · rw [h0]; decide
    · have := (Nat.log2_lt h0).2 (show rung b < 2 ^ 53 by omega); omega
  · rw [if_neg h1, if_pos h] at hread
    refine ⟨_, rung b / 4503599627370496 - 1, hread, by constructor <;> intro hx <;> omega, key _ _ (by omega) (by omega) (.inl ?_)⟩
    rw [Nat.log2_eq_iff (by omega)]
    omega

def HUND : Nat := 4636737291354636288
theorem quo_zero : floatBits .quo .f64 0 HUND = some 0 := by decide +kernel
theorem quo_one : floatBits .quo .f64 HUND HUND = some 4607182418800017408 := by decide +kernel
theorem read_zero : double.read 0 = .number false 0 (-1074) := by decide +kernel
theorem read_one : double.read 4607182418800017408 = .number false (1 * 2 ^ 52) (-52) := by decide +kernel

theorem mul_zero {b : Nat} (h : rung b < 9218868437227405312) (hb : b < 18446744073709551616) : floatBits .mul .f64 b 0 = some (if sgn b then 9223372036854775808 else 0) := by
  obtain ⟨m, k, e, _, _⟩ := read_back h hb
  show ((double.read b).product (double.read 0)).map double.write = _
  rw [e, read_zero]
  simp only [Datum.product, Option.map, Nat.mul_zero, Bool.xor_false]
  show some (double.nearest _ 0 _) = _
  unfold Format.nearest
  rw [if_pos rfl, word_eq]
theorem mul_one {b : Nat} (h : rung b < 9218868437227405312) (hb : b < 18446744073709551616) : floatBits .mul .f64 b 4607182418800017408 = some b := by
  obtain ⟨m, k, e, _, hw⟩ := read_back h hb
  show ((double.read b).product (double.read 4607182418800017408)).map double.write = _
  rw [e, read_one]
  simp only [Datum.product, Option.map, Bool.xor_false, Nat.one_mul]
  exact congrArg some (hw 52)
theorem sub_self {b : Nat} (h : rung b < 9218868437227405312) (hb : b < 18446744073709551616) : floatBits .sub .f64 b b = some 0 := by
  obtain ⟨m, k, e, _, _⟩ := read_back h hb
  show ((double.read b).sum (double.read b).opposite).map double.write = _
  rw [e]
  simp only [Datum.sum, Datum.opposite, Option.map, signed_eq]
  have e0 : sval (sgn b) (m * 2 ^ (-1074 + (k : Int) - min (-1074 + (k : Int)) (-1074 + (k : Int))).toNat) + sval (!sgn b) (m * 2 ^ (-1074 + (k : Int) - min (-1074 + (k : Int)) (-1074 + (k : Int))).toNat) = 0 := by
    cases sgn b <;> simp [sval] <;> omega
  rw [e0]
  simp only [if_true, Bool.and_not_self]
  show some (double.nearest _ 0 _) = _
  unfold Format.nearest
  rw [if_pos rfl, word_eq]
  rfl
theorem sub_zero {b : Nat} (h : rung b < 9218868437227405312) (hb : b < 18446744073709551616) : floatBits .sub .f64 b (if sgn b then 9223372036854775808 else 0) = some (if rung b = 0 then 0 else b) := by
  obtain ⟨m, k, e, h0, hw⟩ := read_back h hb
  show ((double.read b).sum (double.read (if sgn b then 9223372036854775808 else 0)).opposite).map double.write = _
  have ez : double.read (if sgn b then 9223372036854775808 else 0) = .number (sgn b) 0 (-1074) := by cases sgn b <;> decide +kernel
  rw [e, ez]
  simp only [Datum.sum, Datum.opposite, Option.map, signed_eq]
  have em : min (-1074 + (k : Int)) (-1074) = -1074 := by omega
  have e1 : (-1074 + (k : Int) - -1074).toNat = k := by omega
  rw [em, e1, Nat.zero_mul]
  have ez : sval (!sgn b) 0 = 0 := by cases sgn b <;> rfl
  rw [ez, Int.add_zero]
  by_cases hm : m = 0
  · have hr := h0.1 hm
    subst hm
    rw [Nat.zero_mul, if_pos hr]
    have ez : sval (sgn b) 0 = 0 := by cases sgn b <;> rfl
    rw [ez]
    simp only [if_true, Bool.and_not_self]
    show some (double.nearest _ 0 _) = _
    unfold Format.nearest
    rw [if_pos rfl, word_eq]
    rfl
  · have hr : rung b ≠ 0 := fun e => hm (h0.2 e)
    rw [if_neg hr]
    have hp : 0 < m * 2 ^ k := Nat.mul_pos (by omega) (Nat.two_pow_pos _)
    have hwk := hw k
    rw [show -1074 + (k : Int) - (k : Int) = -1074 by omega] at hwk
    generalize m * 2 ^ k = x at hp hwk ⊢
    have hne : sval (sgn b) x ≠ 0 := by cases sgn b <;> simp only [sval, Bool.false_eq_true, if_false, if_true] <;> omega
    have hs : decide (sval (sgn b) x < 0) = sgn b := by cases sgn b <;> simp only [sval, Bool.false_eq_true, if_false, if_true] <;> simp <;> omega
    have ha : (sval (sgn b) x).natAbs = x := by cases sgn b <;> simp only [sval, Bool.false_eq_true, if_false, if_true] <;> omega
    rw [if_neg hne, hs, ha]
    exact congrArg some hwk

/-- A total less hundredths. -/
def offV (t : Nat) (h : Int) : Nat := fop .sub t (fop .mul t (fop .quo (floatOfInt .f64 h) HUND))
theorem offV_zero {b : Nat} (h : rung b < 9218868437227405312) (hb : b < 18446744073709551616) : offV b 0 = if rung b = 0 then 0 else b := by
  have e : floatOfInt .f64 0 = 0 := by decide +kernel
  unfold offV fop
  rw [e, quo_zero, Option.getD_some, mul_zero h hb, Option.getD_some, sub_zero h hb, Option.getD_some]
theorem offV_all {b : Nat} (h : rung b < 9218868437227405312) (hb : b < 18446744073709551616) : offV b 100 = 0 := by
  have e : floatOfInt .f64 100 = HUND := by decide +kernel
  unfold offV fop
  rw [e, quo_one, Option.getD_some, mul_one h hb, Option.getD_some, sub_self h hb, Option.getD_some]

/-- Not below nought, or no number. -/
def nn (b : Nat) : Prop := nanB b = true ∨ sgn b = false ∨ rung b = 0
theorem nn_read {b : Nat} (h : nn b) : double.read b = .infinity false ∨ (∃ s m p, double.read b = .number s m p ∧ (s = true → m = 0)) ∨ (double.read b).isNaN = true := by
  cases hn : nanB b
  · have h : sgn b = false ∨ rung b = 0 := by
      rcases h with h | h
      · rw [hn] at h; cases h
      · exact h
    rcases Nat.lt_or_eq_of_le (nanB_no hn) with h1 | h1
    · obtain ⟨m, k, e, _, h0⟩ := read_fin h1
      refine .inr (.inl ⟨_, m, _, e, fun hs => ?_⟩)
      rcases h with h | h
      · rw [hs] at h; cases h
      · exact h0.2 h
    · have hs : sgn b = false := by rcases h with h | h; exact h; omega
      exact .inl (by rw [read_inf h1, hs])
  · exact .inr (.inr (by rw [read_isNaN]; exact hn))
theorem nn_write {s : Bool} {m : Nat} {p : Int} (h : s = true → m = 0) : nn (double.write (.number s m p)) := by
  obtain ⟨r, h1, h2, h3⟩ := nearest_eq s m p
  show nn (double.nearest s m p)
  rw [h2]
  unfold nn
  rw [sgn_word h1, rung_word h1]
  cases s
  · exact .inr (.inl rfl)
  · exact .inr (.inr (h3 (h rfl)))
theorem nn_inf : nn (double.write (.infinity false)) := by
  refine .inr (.inl ?_)
  show sgn (double.word false double.infRung) = false
  decide +kernel
theorem nn_NANW : nn NANW := .inl nanB_NANW
theorem out_some (d : Datum) : (Option.map double.write (some d)).getD NANW = double.write d := rfl
theorem out_none : (Option.map double.write none).getD NANW = NANW := rfl
theorem fop_add (a b : Nat) : fop .add a b = (((double.read a).sum (double.read b)).map double.write).getD NANW := rfl
theorem fop_mul (a b : Nat) : fop .mul a b = (((double.read a).product (double.read b)).map double.write).getD NANW := rfl
theorem nn_add {a b : Nat} (ha : nn a) (hb : nn b) : nn (fop .add a b) := by
  rw [fop_add]
  rcases nn_read ha with e1 | ⟨s, m, i, e1, h1⟩ | e1 <;> rcases nn_read hb with e2 | ⟨t, n, j, e2, h2⟩ | e2
  any_goals (rw [sum_nan (.inl e1), out_none]; exact nn_NANW)
  any_goals (rw [sum_nan (.inr e2), out_none]; exact nn_NANW)
  all_goals rw [e1, e2]
  · rw [show Datum.sum (.infinity false) (.infinity false) = some (.infinity false) from rfl, out_some]; exact nn_inf
  · rw [show Datum.sum (.infinity false) (.number t n j) = some (.infinity false) from rfl, out_some]; exact nn_inf
  · rw [show Datum.sum (.number s m i) (.infinity false) = some (.infinity false) from rfl, out_some]; exact nn_inf
  · simp only [Datum.sum, signed_eq]
    rw [out_some]
    refine nn_write fun hx => ?_
    have q1 : 0 ≤ sval s (m * 2 ^ (i - min i j).toNat) := by
      cases s
      · simp only [sval, Bool.false_eq_true, if_false]; omega
      · rw [h1 rfl]; simp [sval]
    have q2 : 0 ≤ sval t (n * 2 ^ (j - min i j).toNat) := by
      cases t
      · simp only [sval, Bool.false_eq_true, if_false]; omega
      · rw [h2 rfl]; simp [sval]
    generalize sval s (m * 2 ^ (i - min i j).toNat) = x at q1 hx ⊢
    generalize sval t (n * 2 ^ (j - min i j).toNat) = y at q2 hx ⊢
    by_cases h0 : x + y = 0
    · rw [h0]; rfl
    · rw [if_neg h0] at hx
      have := of_decide_eq_true hx
      omega
theorem nn_mul {a b : Nat} (ha : nn a) (hb : nn b) : nn (fop .mul a b) := by
  rw [fop_mul]
  rcases nn_read ha with e1 | ⟨s, m, i, e1, h1⟩ | e1 <;> rcases nn_read hb with e2 | ⟨t, n, j, e2, h2⟩ | e2
  any_goals (rw [product_nan (.inl e1), out_none]; exact nn_NANW)
  any_goals (rw [product_nan (.inr e2), out_none]; exact nn_NANW)
  all_goals rw [e1, e2]
  · rw [show Datum.product (.infinity false) (.infinity false) = some (.infinity false) from rfl, out_some]; exact nn_inf
  · simp only [Datum.product]
    by_cases hn : n = 0
    · rw [if_pos hn, out_none]; exact nn_NANW
    · rw [if_neg hn]
      have ht : t = false := by cases t; rfl; exact absurd (h2 rfl) hn
      rw [ht, show (false ^^ false) = false from rfl, out_some]; exact nn_inf
  · simp only [Datum.product]
    by_cases hn : m = 0
    · rw [if_pos hn, out_none]; exact nn_NANW
    · rw [if_neg hn]
      have ht : s = false := by cases s; rfl; exact absurd (h1 rfl) hn
      rw [ht, show (false ^^ false) = false from rfl, out_some]; exact nn_inf
  · simp only [Datum.product]
    rw [out_some]
    refine nn_write fun hx => ?_
    cases s
    · cases t
      · cases hx
      · rw [h2 rfl, Nat.mul_zero]
    · rw [h1 rfl, Nat.zero_mul]
theorem nn_int {n : Int} (h : 0 ≤ n) : nn (floatOfInt .f64 n) := by
  show nn (double.write (.number (decide (n < 0)) n.natAbs 0))
  refine nn_write fun hx => ?_
  have := of_decide_eq_true hx
  omega
end Go.Proofs.Ytaihkehbpppngaa
