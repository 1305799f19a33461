/- The order of prices: by floats, and by places. -/
import Derived.Test.YtaihkehbpppngaaFl2
namespace Go.Proofs.Ytaihkehbpppngaa
open Ieee Go.RowKit

/-- A word seen as a signed number. -/
def i64of (b : Nat) : Int := if b < 9223372036854775808 then (b : Int) else (b : Int) - 18446744073709551616
def cmpZ (x y : Int) : Int := if x < y then -1 else if y < x then 1 else 0
/-- Two numbers held against each other, what is no number first. -/
def cmpF (a b : Nat) : Int := if nanB a then (if nanB b then 0 else -1) else if nanB b then 1 else if skey a < skey b then -1 else if skey b < skey a then 1 else 0
/-- Two prices, as the program holds them against each other. -/
def ordP (a b : Nat) : Int := if cmpF a b = 0 then cmpZ (i64of (cn a)) (i64of (cn b)) else cmpF a b
/-- A number's place among all. -/
def rank (b : Nat) : Int := if nanB b then 0 else if sgn b then 18446744073709551615 - (b : Int) else (b : Int) + 9223372036854775808

theorem sgn_iff {b : Nat} (hb : b < 18446744073709551616) : sgn b = true ↔ 9223372036854775808 ≤ b := by
  unfold sgn
  rw [beq_iff_eq]
  omega
theorem rank_place {b : Nat} (hb : b < 18446744073709551616) (hn : nanB b = false) : rank b = if sgn b then 9223372036854775807 - (rung b : Int) else (rung b : Int) + 9223372036854775808 := by
  unfold rank
  rw [hn, if_neg (by simp)]
  have hs := sgn_iff hb
  cases h : sgn b
  · have : ¬ 9223372036854775808 ≤ b := fun x => by rw [hs.2 x] at h; cases h
    simp only [Bool.false_eq_true, if_false]; unfold rung; omega
  · have := hs.1 h
    simp only [if_true]; unfold rung; omega

theorem ordP_rank {a b : Nat} (ha : a < 18446744073709551616) (hb : b < 18446744073709551616) : ordP a b = cmpZ (rank a) (rank b) := by
  unfold ordP
  cases hna : nanB a
  · cases hnb : nanB b
    · rw [cn_num hna, cn_num hnb]
      have e : cmpF a b = cmpZ (skey a) (skey b) := by unfold cmpF cmpZ; rw [hna, hnb]; rfl
      rw [e, rank_place ha hna, rank_place hb hnb]
      have hra := nanB_no hna
      have hrb := nanB_no hnb
      have sa := sgn_iff ha
      have sb := sgn_iff hb
      have wa : i64of a = if sgn a then (rung a : Int) - 9223372036854775808 else (rung a : Int) := by
        unfold i64of rung
        cases h : sgn a
        · have : ¬ 9223372036854775808 ≤ a := fun x => by rw [sa.2 x] at h; cases h
          rw [if_pos (by omega)]; simp only [Bool.false_eq_true, if_false]; omega
        · have := sa.1 h
          rw [if_neg (by omega)]; simp only [if_true]; omega
      have wb : i64of b = if sgn b then (rung b : Int) - 9223372036854775808 else (rung b : Int) := by
        unfold i64of rung
        cases h : sgn b
        · have : ¬ 9223372036854775808 ≤ b := fun x => by rw [sb.2 x] at h; cases h
          rw [if_pos (by omega)]; simp only [Bool.false_eq_true, if_false]; omega
        · have := sb.1 h
          rw [if_neg (by omega)]; simp only [if_true]; omega
      rw [wa, wb]
      unfold skey cmpZ
      cases sgn a <;> cases sgn b <;> simp only [Bool.false_eq_true, if_false, if_true] <;> (repeat' split) <;> omega
    · have e : cmpF a b = 1 := by unfold cmpF; rw [hna, hnb]; rfl
      have e2 : rank b = 0 := by unfold rank; rw [hnb]; rfl
      have hra := nanB_no hna
      rw [e, e2, rank_place ha hna]
      unfold cmpZ
      cases sgn a <;> simp only [Bool.false_eq_true, if_false, if_true] <;> (repeat' split) <;> omega
  · have e2 : rank a = 0 := by unfold rank; rw [hna]; rfl
    cases hnb : nanB b
    · have e : cmpF a b = -1 := by unfold cmpF; rw [hna, hnb]; rfl
      have hrb := nanB_no hnb
      rw [e, e2, rank_place hb hnb]
      unfold cmpZ
      cases sgn b <;> simp only [Bool.false_eq_true, if_false, if_true] <;> (repeat' split) <;> omega
    · have e : cmpF a b = 0 := by unfold cmpF; rw [hna, hnb]; rfl
      have e3 : rank b = 0 := by unfold rank; rw [hnb]; rfl
      rw [e, e2, e3, cn_nan hna, cn_nan hnb]
      rfl

theorem cmpZ_swap (x y : Int) : cmpZ y x = - cmpZ x y := by unfold cmpZ; (repeat' split) <;> omega
theorem cmpZ_self (x : Int) : cmpZ x x = 0 := by unfold cmpZ; (repeat' split) <;> omega
theorem cmpZ_bd (x y : Int) : -1 ≤ cmpZ x y ∧ cmpZ x y ≤ 1 := by unfold cmpZ; (repeat' split) <;> omega
theorem cmpZ_tr {x y z : Int} : ¬ (cmpZ x y ≤ 0 ∧ cmpZ y z ≤ 0 ∧ 0 < cmpZ x z) ∧ ¬ (cmpZ x y < 0 ∧ cmpZ y z ≤ 0 ∧ 0 ≤ cmpZ x z) := by
  unfold cmpZ; (repeat' split) <;> omega
end Go.Proofs.Ytaihkehbpppngaa
