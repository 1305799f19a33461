/- Operations on floats: what they tell, whatever the bits of what is no number. -/
import Derived.Test.YtaihkehbpppngaaFl
import Derived.WalkKit
import Derived.Handy
import Derived.Below
namespace Go.Proofs.Ytaihkehbpppngaa
open Ieee Go.RowKit

/-- The one word of what is no number. -/
def NANW : Nat := 9221120237041090561
/-- A word, what is no number being one. -/
def cn (b : Nat) : Nat := if nanB b then NANW else b
theorem nanB_NANW : nanB NANW = true := by decide
theorem nanB_cn (b : Nat) : nanB (cn b) = nanB b := by
  unfold cn; cases h : nanB b
  · rw [if_neg (by simp)]; exact h
  · rw [if_pos rfl]; exact nanB_NANW
theorem cn_cn (b : Nat) : cn (cn b) = cn b := by
  unfold cn; cases h : nanB b
  · simp [h]
  · simp [nanB_NANW]
theorem cn_num {b : Nat} (h : nanB b = false) : cn b = b := by unfold cn; rw [h]; rfl
theorem cn_nan {b : Nat} (h : nanB b = true) : cn b = NANW := by unfold cn; rw [h]; rfl

theorem word_eq (s : Bool) (r : Nat) : double.word s r = if s then 9223372036854775808 + r else r := by
  have e1 : double.signWeight = 9223372036854775808 := by decide
  unfold Format.word
  rw [e1]
theorem nearest_eq (s : Bool) (m : Nat) (p : Int) : ∃ r, r ≤ 9218868437227405312 ∧ double.nearest s m p = (if s then 9223372036854775808 + r else r) ∧ (m = 0 → r = 0) := by
  unfold Format.nearest
  by_cases h : m = 0
  · exact ⟨0, by omega, by rw [if_pos h, word_eq], fun _ => rfl⟩
  · rw [if_neg h]
    dsimp only
    rw [word_eq]
    exact ⟨_, Nat.min_le_right .., rfl, fun e => absurd e h⟩
theorem rung_word {s : Bool} {r : Nat} (h : r ≤ 9218868437227405312) : rung (if s then 9223372036854775808 + r else r) = r := by
  unfold rung; cases s <;> simp <;> omega
theorem sgn_word {s : Bool} {r : Nat} (h : r ≤ 9218868437227405312) : sgn (if s then 9223372036854775808 + r else r) = s := by
  unfold sgn; cases s <;> simp <;> omega
/-- What is written of a number, or of an infinity, is no NaN. -/
theorem write_num {d : Datum} (h : d.isNaN = false) : nanB (double.write d) = false := by
  cases d with
  | number s m p =>
    obtain ⟨r, h1, h2, _⟩ := nearest_eq s m p
    show nanB (double.nearest s m p) = false
    rw [h2]; unfold nanB; rw [rung_word h1]
    exact decide_eq_false (by omega)
  | infinity s =>
    show nanB (double.word s double.infRung) = false
    cases s <;> decide
  | nan s f => cases h
theorem write_sgn (s : Bool) (m : Nat) (p : Int) : sgn (double.write (.number s m p)) = s := by
  obtain ⟨r, h1, h2, _⟩ := nearest_eq s m p
  show sgn (double.nearest s m p) = s
  rw [h2, sgn_word h1]

theorem read_isNaN (b : Nat) : (double.read b).isNaN = nanB b := by
  cases h : nanB b
  · rcases Nat.lt_or_eq_of_le (nanB_no h) with h | h
    · obtain ⟨m, k, e, _⟩ := read_fin h; rw [e]; rfl
    · rw [read_inf h]; rfl
  · rw [read_nan h]; rfl

theorem sum_num {a b d : Datum} (h : a.sum b = some d) : d.isNaN = false := by
  cases a <;> cases b <;> simp only [Datum.sum] at h
  all_goals first | (cases h; done) | skip
  all_goals first | (split at h) | skip
  all_goals first | (cases h; done) | (cases h; rfl) | skip
theorem product_num {a b d : Datum} (h : a.product b = some d) : d.isNaN = false := by
  cases a <;> cases b <;> simp only [Datum.product] at h
  all_goals first | (cases h; done) | skip
  all_goals first | (split at h) | skip
  all_goals first | (cases h; done) | (cases h; rfl) | skip
theorem quotient_num {n : Nat} {a b d : Datum} (h : a.quotient n b = some d) : d.isNaN = false := by
  cases a <;> cases b <;> simp only [Datum.quotient] at h
  all_goals first | (cases h; done) | skip
  all_goals first | (split at h) | skip
  all_goals first | (split at h) | skip
  all_goals first | (cases h; done) | (cases h; rfl) | skip

theorem floatBits_num {op : BinOp} {x y r : Nat} (h : floatBits op .f64 x y = some r) : nanB r = false := by
  unfold floatBits at h
  split at h
  · obtain ⟨d, h1, rfl⟩ := Option.map_eq_some_iff.1 h; exact write_num (sum_num h1)
  · obtain ⟨d, h1, rfl⟩ := Option.map_eq_some_iff.1 h; exact write_num (sum_num h1)
  · obtain ⟨d, h1, rfl⟩ := Option.map_eq_some_iff.1 h; exact write_num (product_num h1)
  · obtain ⟨d, h1, rfl⟩ := Option.map_eq_some_iff.1 h; exact write_num (quotient_num h1)
  · cases h

theorem sum_nan {a b : Datum} (h : a.isNaN = true ∨ b.isNaN = true) : a.sum b = none := by
  rcases h with h | h
  · cases a <;> first | (cases h; done) | rfl
  · cases b <;> first | (cases h; done) | (cases a <;> rfl)
theorem product_nan {a b : Datum} (h : a.isNaN = true ∨ b.isNaN = true) : a.product b = none := by
  rcases h with h | h
  · cases a <;> first | (cases h; done) | rfl
  · cases b <;> first | (cases h; done) | (cases a <;> rfl)
theorem quotient_nan {n : Nat} {a b : Datum} (h : a.isNaN = true ∨ b.isNaN = true) : a.quotient n b = none := by
  rcases h with h | h
  · cases a <;> first | (cases h; done) | rfl
  · cases b <;> first | (cases h; done) | (cases a <;> rfl)
theorem opposite_isNaN (a : Datum) : a.opposite.isNaN = a.isNaN := by cases a <;> rfl
theorem floatBits_nan {op : BinOp} {x y : Nat} (h : nanB x = true ∨ nanB y = true) : floatBits op .f64 x y = none := by
  rw [← read_isNaN x, ← read_isNaN y] at h
  unfold floatBits
  split
  · exact congrArg _ (sum_nan h)
  · exact congrArg _ (sum_nan (by rwa [opposite_isNaN]))
  · exact congrArg _ (product_nan h)
  · exact congrArg _ (quotient_nan h)
  · rfl

/-- What an operation tells, what is no number being one word. -/
def fop (op : BinOp) (x y : Nat) : Nat := (floatBits op .f64 x y).getD NANW
theorem fop_cn (op : BinOp) (x y : Nat) : fop op (cn x) (cn y) = fop op x y := by
  unfold fop
  by_cases h : nanB x = true ∨ nanB y = true
  · rw [floatBits_nan h, floatBits_nan (by rwa [nanB_cn, nanB_cn])]
  · rw [cn_num (by simpa using fun e => h (.inl e)), cn_num (by simpa using fun e => h (.inr e))]
theorem cn_fop (op : BinOp) (x y : Nat) : cn (fop op x y) = fop op x y := by
  unfold fop
  cases h : floatBits op .f64 x y with
  | none => rfl
  | some r => exact cn_num (floatBits_num h)
theorem fop_lt (op : BinOp) (x y : Nat) : fop op x y < 18446744073709551616 := by
  unfold fop
  cases h : floatBits op .f64 x y with
  | none => decide
  | some r => have := floatBits_wf h; simpa [Lit.wf] using this

/-- An operation gives a word that is what is told, but for the NaN's bits; at the most the tape is asked. -/
theorem run_fop {P : Program} (w : World) (op : BinOp) (hop : op = .add ∨ op = .sub ∨ op = .mul ∨ op = .quo) (t : TypeId) (x y : Nat) :
    ∃ r W, (binOp op t (.float .f64 x) (.float .f64 y)).run P w = .ok (.float .f64 r) W ∧ (W = w ∨ W = w.drew) ∧ cn r = fop op x y ∧ r < 18446744073709551616 := by
  cases h : floatBits op .f64 x y with
  | some r => exact ⟨r, w, run_float_arith w op t .f64 x y r h, .inl rfl, by unfold fop; rw [h]; exact cn_num (floatBits_num h), by have := floatBits_wf h; simpa [Lit.wf] using this⟩
  | none =>
    refine ⟨Question.cut (.nanBits .f64 x y) (w.tape w.drawn (.nanBits .f64 x y)), w.drew, ?_, .inr rfl, ?_, ?_⟩
    · unfold floatBits at h
      rcases hop with rfl | rfl | rfl | rfl <;> simp only at h <;> simp [binOp, Op.floatArith, h] <;> exact fun hf => (Bool.false_ne_true hf).elim
    · have hn : nanB (Question.cut (.nanBits .f64 x y) (w.tape w.drawn (.nanBits .f64 x y))) = true := by
        simp only [Question.cut]
        generalize w.tape w.drawn (.nanBits .f64 x y) = t
        refine decide_eq_true ?_
        unfold rung
        have h1 : t % 2 = 0 ∨ t % 2 = 1 := by omega
        have h2 : t / 2 % (2 ^ 52 - 1) < 4503599627370495 := Nat.mod_lt _ (by decide)
        generalize t / 2 % (2 ^ 52 - 1) = c at h2 ⊢
        rcases h1 with h1 | h1 <;> rw [h1] <;> omega
      rw [cn_nan hn]; unfold fop; rw [h]; rfl
    · simp only [Question.cut]
      generalize w.tape w.drawn (.nanBits .f64 x y) = t
      have h2 : t / 2 % (2 ^ 52 - 1) < 4503599627370495 := Nat.mod_lt _ (by decide)
      generalize t / 2 % (2 ^ 52 - 1) = c at h2 ⊢
      omega
end Go.Proofs.Ytaihkehbpppngaa
