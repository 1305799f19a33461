/- Floats of double precision as words: what they stand for, and how two stand to each other. No program. -/
import Derived.Test.YtaihkehbpppngaaRows
import Derived.Laws.FloatArith
namespace Go.Proofs.Ytaihkehbpppngaa
open Ieee

/-- The sign of a word, and its rung. -/
def sgn (b : Nat) : Bool := b / 9223372036854775808 % 2 == 1
def rung (b : Nat) : Nat := b % 9223372036854775808
/-- Is the word no number? -/
def nanB (b : Nat) : Bool := decide (9218868437227405312 < rung b)
/-- How great the number of a rung is, in units of the least. -/
def mag (r : Nat) : Nat := if r < 4503599627370496 then r else (4503599627370496 + r % 4503599627370496) * 2 ^ (r / 4503599627370496 - 1)
/-- The words in their order: the zeros at one place. -/
def skey (b : Nat) : Int := if sgn b then -(rung b : Int) else (rung b : Int)

theorem read_eq (b : Nat) : double.read b = if rung b < 4503599627370496 then .number (sgn b) (rung b) (-1074)
    else if rung b < 9218868437227405312 then .number (sgn b) (4503599627370496 + rung b % 4503599627370496) (-1074 + (rung b / 4503599627370496 - 1 : Nat))
    else if rung b = 9218868437227405312 then .infinity (sgn b) else .nan (sgn b) (rung b - 9218868437227405312) := by
  have e1 : double.signWeight = 9223372036854775808 := by decide
  have e2 : double.binade = 4503599627370496 := by decide
  have e3 : double.infRung = 9218868437227405312 := by decide
  have e4 : double.leastPlace = -1074 := by decide
  unfold Format.read
  rw [e1, e2, e3, e4]
  rfl

theorem mag_succ (r : Nat) : mag r < mag (r + 1) := by
  unfold mag
  by_cases h1 : r + 1 < 4503599627370496
  · rw [if_pos (by omega), if_pos h1]; omega
  · by_cases h2 : r < 4503599627370496
    · obtain rfl : r = 4503599627370495 := by omega
      decide
    · rw [if_neg h2, if_neg h1]
      by_cases h3 : r % 4503599627370496 = 4503599627370495
      · have e1 : (r + 1) % 4503599627370496 = 0 := by omega
        have e2 : (r + 1) / 4503599627370496 - 1 = (r / 4503599627370496 - 1) + 1 := by omega
        have hp := Nat.two_pow_pos (r / 4503599627370496 - 1)
        rw [e1, e2, h3, Nat.pow_succ]
        generalize 2 ^ (r / 4503599627370496 - 1) = p at hp ⊢
        omega
      · have e1 : (r + 1) % 4503599627370496 = r % 4503599627370496 + 1 := by omega
        have e2 : (r + 1) / 4503599627370496 = r / 4503599627370496 := by omega
        have hp := Nat.two_pow_pos (r / 4503599627370496 - 1)
        rw [e1, e2]
        exact Nat.mul_lt_mul_of_pos_right (by omega) hp
theorem mag_lt {r r' : Nat} (h : r < r') : mag r < mag r' := by
  obtain ⟨k, rfl⟩ : ∃ k, r' = r + 1 + k := ⟨r' - (r + 1), by omega⟩
  clear h
  induction k with
  | zero => exact mag_succ r
  | succ k ih => exact Nat.lt_trans ih (mag_succ _)
theorem mag_zero : mag 0 = 0 := by decide
theorem mag_pos {r : Nat} (h : 0 < r) : 0 < mag r := by have := mag_lt h; rw [mag_zero] at this; exact this

/-- A finite word as a number whose digits stand at a place from the least on. -/
theorem read_fin {b : Nat} (h : rung b < 9218868437227405312) : ∃ (m k : Nat), double.read b = .number (sgn b) m (-1074 + (k : Int)) ∧ mag (rung b) = m * 2 ^ k ∧ (m = 0 ↔ rung b = 0) := by
  rw [read_eq]
  by_cases h1 : rung b < 4503599627370496
  · exact ⟨rung b, 0, by rw [if_pos h1]; rfl, by unfold mag; rw [if_pos h1]; omega, Iff.rfl⟩
  · exact ⟨_, rung b / 4503599627370496 - 1, by rw [if_neg h1, if_pos h], by unfold mag; rw [if_neg h1], by constructor <;> intro hx <;> omega⟩
theorem read_inf {b : Nat} (h : rung b = 9218868437227405312) : double.read b = .infinity (sgn b) := by
  rw [read_eq, if_neg (by omega), if_neg (by omega), if_pos h]
theorem read_nan {b : Nat} (h : nanB b = true) : double.read b = .nan (sgn b) (rung b - 9218868437227405312) := by
  have h := of_decide_eq_true h
  rw [read_eq, if_neg (by omega), if_neg (by omega), if_neg (by omega)]
theorem nanB_no {b : Nat} (h : nanB b = false) : rung b ≤ 9218868437227405312 := by
  have := of_decide_eq_false h; omega

theorem int_compare (a b : Int) : compare a b = if a < b then .lt else if a = b then .eq else .gt := rfl
theorem int_compare_same {a b a' b' : Int} (h1 : a < b ↔ a' < b') (h2 : a = b ↔ a' = b') : compare a b = compare a' b' := by
  rw [int_compare, int_compare]
  by_cases h : a < b
  · rw [if_pos h, if_pos (h1.1 h)]
  · rw [if_neg h, if_neg (fun x => h (h1.2 x))]
    by_cases e : a = b
    · rw [if_pos e, if_pos (h2.1 e)]
    · rw [if_neg e, if_neg (fun x => e (h2.2 x))]

/-- A number with its sign. -/
def sval (s : Bool) (m : Nat) : Int := if s then -(m : Int) else (m : Int)
theorem sval_scale (s : Bool) (m p : Nat) : sval s (m * p) = sval s m * (p : Int) := by
  cases s <;> simp [sval, Int.natCast_mul, Int.neg_mul]
theorem sval_lt {s t : Bool} {r r' : Nat} : sval s (mag r) < sval t (mag r') ↔ sval s r < sval t r' := by
  have h0 := mag_zero
  have h1 : ∀ x, 0 < x → 0 < mag x := fun x hx => mag_pos hx
  have h2 : r < r' → mag r < mag r' := mag_lt
  have h3 : r' < r → mag r' < mag r := mag_lt
  have h4 : r = r' → mag r = mag r' := fun e => by rw [e]
  have h5 := h1 r
  have h6 := h1 r'
  have h7 : r = 0 → mag r = 0 := fun e => by rw [e]; exact h0
  have h8 : r' = 0 → mag r' = 0 := fun e => by rw [e]; exact h0
  cases s <;> cases t <;> simp only [sval, Bool.false_eq_true, if_false, if_true] <;> omega
theorem sval_eq {s t : Bool} {r r' : Nat} : sval s (mag r) = sval t (mag r') ↔ sval s r = sval t r' := by
  have a := @sval_lt s t r r'
  have b := @sval_lt t s r' r
  omega
theorem skey_eq (b : Nat) : skey b = sval (sgn b) (rung b) := rfl

theorem signed_eq (s : Bool) (m up : Nat) : signed s m up = sval s (m * 2 ^ up) := by
  unfold signed sval
  rw [Nat.shiftLeft_eq]

theorem order_num (s t : Bool) (m n k l : Nat) : Datum.order (.number s m (-1074 + (k : Int))) (.number t n (-1074 + (l : Int))) = some (compare (sval s (m * 2 ^ k)) (sval t (n * 2 ^ l))) := by
  simp only [Datum.order]
  have e0 : min (-1074 + (k : Int)) (-1074 + (l : Int)) = -1074 + ((min k l : Nat) : Int) := by omega
  rw [e0]
  have e1 : (-1074 + (k : Int) - (-1074 + ((min k l : Nat) : Int))).toNat = k - min k l := by omega
  have e2 : (-1074 + (l : Int) - (-1074 + ((min k l : Nat) : Int))).toNat = l - min k l := by omega
  rw [e1, e2, signed_eq, signed_eq]
  have f1 : m * 2 ^ k = m * 2 ^ (k - min k l) * 2 ^ min k l := by rw [Nat.mul_assoc, ← Nat.pow_add]; congr 2; omega
  have f2 : n * 2 ^ l = n * 2 ^ (l - min k l) * 2 ^ min k l := by rw [Nat.mul_assoc, ← Nat.pow_add]; congr 2; omega
  rw [f1, f2, sval_scale s (m * 2 ^ (k - min k l)) (2 ^ min k l), sval_scale t (n * 2 ^ (l - min k l)) (2 ^ min k l)]
  have hp : (0 : Int) < ((2 ^ min k l : Nat) : Int) := by exact_mod_cast Nat.two_pow_pos _
  generalize sval s (m * 2 ^ (k - min k l)) = x
  generalize sval t (n * 2 ^ (l - min k l)) = y
  generalize ((2 ^ min k l : Nat) : Int) = p at hp
  congr 1
  refine int_compare_same ⟨fun h => Int.mul_lt_mul_of_pos_right h hp, fun h => Int.lt_of_mul_lt_mul_right h (Int.le_of_lt hp)⟩ ⟨fun h => by rw [h], fun h => Int.eq_of_mul_eq_mul_right (by omega) h⟩

/-- Two words that are numbers stand to each other as their places. -/
theorem order_eq {a b : Nat} (ha : nanB a = false) (hb : nanB b = false) : double.order a b = some (compare (skey a) (skey b)) := by
  have ha := nanB_no ha
  have hb := nanB_no hb
  unfold Format.order
  rw [skey_eq, skey_eq]
  rcases Nat.lt_or_eq_of_le ha with ha | ha <;> rcases Nat.lt_or_eq_of_le hb with hb | hb
  · obtain ⟨m, k, e1, f1, _⟩ := read_fin ha
    obtain ⟨n, l, e2, f2, _⟩ := read_fin hb
    rw [e1, e2, order_num, ← f1, ← f2]
    exact congrArg some (int_compare_same sval_lt sval_eq)
  · obtain ⟨m, k, e1, f1, _⟩ := read_fin ha
    rw [e1, read_inf hb]
    simp only [Datum.order, int_compare]
    cases sgn b <;> cases sgn a <;> simp only [sval, Bool.false_eq_true, if_false, if_true] <;> (first | rw [if_pos (by omega)] | rw [if_neg (by omega), if_neg (by omega)])
  · obtain ⟨n, l, e2, f2, _⟩ := read_fin hb
    rw [e2, read_inf ha]
    simp only [Datum.order, int_compare]
    cases sgn b <;> cases sgn a <;> simp only [sval, Bool.false_eq_true, if_false, if_true] <;> (first | rw [if_pos (by omega)] | rw [if_neg (by omega), if_neg (by omega)])
  · rw [read_inf ha, read_inf hb, ha, hb]
    cases sgn a <;> cases sgn b <;> rfl
theorem order_nan {a b : Nat} (h : nanB a = true ∨ nanB b = true) : double.order a b = none := by
  unfold Format.order
  rcases h with h | h
  · rw [read_nan h]; cases double.read b <;> rfl
  · rw [read_nan h]; cases double.read a <;> rfl

theorem is_lt {a b : Nat} (ha : nanB a = false) (hb : nanB b = false) : (double.order a b == some .lt) = decide (skey a < skey b) := by
  rw [order_eq ha hb, int_compare]
  by_cases h : skey a < skey b
  · rw [if_pos h]; simp [h]
  · rw [if_neg h]; by_cases e : skey a = skey b
    · rw [if_pos e]; simp [h]
    · rw [if_neg e]; simp [h]
theorem is_gt {a b : Nat} (ha : nanB a = false) (hb : nanB b = false) : (double.order a b == some .gt) = decide (skey b < skey a) := by
  rw [order_eq ha hb, int_compare]
  by_cases h : skey a < skey b
  · rw [if_pos h]; simp; omega
  · rw [if_neg h]; by_cases e : skey a = skey b
    · rw [if_pos e]; simp [e]
    · rw [if_neg e]; simp; omega
theorem is_eq {a b : Nat} (ha : nanB a = false) (hb : nanB b = false) : (double.order a b == some .eq) = decide (skey a = skey b) := by
  rw [order_eq ha hb, int_compare]
  by_cases h : skey a < skey b
  · rw [if_pos h]; simp; omega
  · rw [if_neg h]; by_cases e : skey a = skey b
    · rw [if_pos e]; simp [e]
    · rw [if_neg e]; simp [e]
theorem self_eq (a : Nat) : (double.order a a == some .eq) = !nanB a := by
  cases h : nanB a
  · rw [is_eq h h]; simp
  · rw [order_nan (.inl h)]; rfl
theorem self_neq (a : Nat) : (double.order a a != some .eq) = nanB a := by
  unfold bne
  rw [self_eq]; simp
end Go.Proofs.Ytaihkehbpppngaa
