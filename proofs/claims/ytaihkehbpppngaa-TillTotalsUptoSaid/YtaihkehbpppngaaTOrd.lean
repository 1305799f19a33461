/- Order: the program's and the document's. -/
import Derived.Test.YtaihkehbpppngaaFlO
import Derived.Test.YtaihkehbpppngaaRows
import Derived.Laws.Externs
import Derived.Lib.Hide
import Derived.Deep.RegionHeld3
import Derived.Deep.Cut
import Derived.OneCell
import Derived.Lib.SliceRun
import Derived.Deep.QuietTactic
import Derived.BigQuiet
import Derived.Outline
import Derived.WalkLawsBesides
import Derived.WalkSpells
namespace Go.Proofs.Ytaihkehbpppngaa
open Go.RowKit

theorem frombits_run (n : Int) (w : World) : (callFunc 42 #[.int .u64 n]).run Try.prog w = .ok (.value (.float .f64 n.toNat)) w := by
  rw [run_callFunc_extern Try.func42 (by kernel_rfl) (by kernel_rfl) (by kernel_rfl) (e := Extern.MathFloatBits.float64frombits) (by kernel_rfl)]
  rfl
theorem bits_run (b : Nat) (w : World) : (callFunc 46 #[.float .f64 b]).run Try.prog w = .ok (.value (.int .u64 b)) w := by
  rw [run_callFunc_extern Try.func46 (by kernel_rfl) (by kernel_rfl) (by kernel_rfl) (e := Extern.MathFloatBits.float64bits) (by kernel_rfl)]
  rfl

theorem floatOf_any (a : Nat) (w : World) : Calls Try.prog 27 #[.int .u64 a] w fun e w' => e = .returned (.float .f64 a) ∧ w = w' := by
  have hF := frombits_run a
  simp only [Int.toNat_natCast] at hF
  go_enter Try.func27, Try.ntmps27
  go_wp2
  go_ret
  exact ⟨rfl, rfl⟩

theorem ret_bool {a b : Bool} (h : a = b) : Ending.returned (.bool a) = .returned (.bool b) := by rw [h]
theorem ret_i64 {a b : Int} (h : a = b) : Ending.returned (.int .i64 a) = .returned (.int .i64 b) := by rw [h]
theorem neqF (a : Nat) : (FloatKind.f64.format.order a a != some Ordering.eq) = nanB a := self_neq a

theorem isNaNF_any (a : Nat) (w : World) : Calls Try.prog 43 #[.float .f64 a] w fun e w' => e = .returned (.bool (nanB a)) ∧ w = w' := by
  go_enter Try.func43, Try.ntmps43
  go_wp2
  go_ret
  exact ⟨ret_bool (neqF a), rfl⟩
theorem mIsNaN_any (a : Nat) (w : World) : Calls Try.prog 45 #[.float .f64 a] w fun e w' => e = .returned (.bool (nanB a)) ∧ w = w' := by
  go_enter Try.func45, Try.ntmps45
  go_wp2
  go_ret
  exact ⟨ret_bool (neqF a), rfl⟩
theorem isNaNZ_any (a : Int) (w : World) : Calls Try.prog 44 #[.int .i64 a] w fun e w' => e = .returned (.bool false) ∧ w = w' := by
  go_enter Try.func44, Try.ntmps44
  go_wp2
  go_ret
  exact ⟨rfl, rfl⟩
theorem bitsOf_any (a : Nat) (w : World) : Calls Try.prog 31 #[.float .f64 a] w fun e w' => e = .returned (.int .u64 (cn a)) ∧ w = w' := by
  have hB := bits_run a
  have h1 := Lib.hid (mIsNaN_any a w)
  cases h : nanB a with
  | true =>
    rw [h] at h1
    go_enter Try.func31, Try.ntmps31
    go_wp2_with fail
    (with_reducible refine h1.out.mono ?_); rintro e w' ⟨rfl, rfl⟩
    go_wp2
    go_ret
    exact ⟨by rw [cn_nan h]; rfl, rfl⟩
  | false =>
    rw [h] at h1
    go_enter Try.func31, Try.ntmps31
    go_wp2_with fail
    (with_reducible refine h1.out.mono ?_); rintro e w' ⟨rfl, rfl⟩
    go_wp2
    go_ret
    exact ⟨by rw [cn_num h]; rfl, rfl⟩
theorem compareZ_any (a b : Int) (w : World) : Calls Try.prog 30 #[.int .i64 a, .int .i64 b] w fun e w' => e = .returned (.int .i64 (cmpZ a b)) ∧ w = w' := by
  have h1 := Lib.hid (isNaNZ_any a w)
  have h2 := Lib.hid (isNaNZ_any b w)
  rcases Int.lt_trichotomy a b with h | h | h
  all_goals
    go_enter Try.func30, Try.ntmps30
    have d1 : decide (a < b) = decide (a < b) := rfl
  · have e1 : decide (a < b) = true := decide_eq_true h
    clear h d1
    go_wp2_with fail
    (with_reducible refine h1.out.mono ?_); rintro e w' ⟨rfl, rfl⟩
    go_wp2_with fail
    (with_reducible refine h2.out.mono ?_); rintro e w' ⟨rfl, rfl⟩
    go_wp2
    go_ret
    exact ⟨ret_i64 (by unfold cmpZ; rw [if_pos (of_decide_eq_true e1)]), rfl⟩
  · have e1 : decide (a < b) = false := decide_eq_false (by omega)
    have e2 : decide (a > b) = false := decide_eq_false (by omega)
    have e3 : cmpZ a b = 0 := by rw [h]; exact cmpZ_self b
    clear h d1
    go_wp2_with fail
    (with_reducible refine h1.out.mono ?_); rintro e w' ⟨rfl, rfl⟩
    go_wp2_with fail
    (with_reducible refine h2.out.mono ?_); rintro e w' ⟨rfl, rfl⟩
    go_wp2
    go_ret
    exact ⟨ret_i64 e3.symm, rfl⟩
  · have e1 : decide (a < b) = false := decide_eq_false (by omega)
    have e2 : decide (a > b) = true := decide_eq_true (by omega)
    have e3 : cmpZ a b = 1 := by unfold cmpZ; rw [if_neg (by omega), if_pos h]
    clear h d1
    go_wp2_with fail
    (with_reducible refine h1.out.mono ?_); rintro e w' ⟨rfl, rfl⟩
    go_wp2_with fail
    (with_reducible refine h2.out.mono ?_); rintro e w' ⟨rfl, rfl⟩
    go_wp2
    go_ret
    exact ⟨ret_i64 e3.symm, rfl⟩
theorem compareF_any (a b : Nat) (w : World) : Calls Try.prog 29 #[.float .f64 a, .float .f64 b] w fun e w' => e = .returned (.int .i64 (cmpF a b)) ∧ w = w' := by
  have h1 := Lib.hid (isNaNF_any a w)
  have h2 := Lib.hid (isNaNF_any b w)
  cases ha : nanB a <;> cases hb : nanB b <;> rw [ha] at h1 <;> rw [hb] at h2
  · have e1 : (FloatKind.f64.format.order a b == some Ordering.lt) = decide (skey a < skey b) := is_lt ha hb
    have e2 : (FloatKind.f64.format.order a b == some Ordering.gt) = decide (skey b < skey a) := is_gt ha hb
    have e0 : cmpF a b = cmpZ (skey a) (skey b) := by unfold cmpF cmpZ; rw [ha, hb]; rfl
    rw [e0]
    generalize skey a = x at e1 e2 ⊢
    generalize skey b = y at e1 e2 ⊢
    rcases Int.lt_trichotomy x y with h | h | h
    · rw [decide_eq_true h] at e1
      have e3 : cmpZ x y = -1 := by unfold cmpZ; rw [if_pos h]
      clear e2 h e0
      go_enter Try.func29, Try.ntmps29
      go_wp2_with fail
      (with_reducible refine h1.out.mono ?_); rintro e w' ⟨rfl, rfl⟩
      go_wp2_with fail
      (with_reducible refine h2.out.mono ?_); rintro e w' ⟨rfl, rfl⟩
      go_wp2
      go_ret
      exact ⟨ret_i64 e3.symm, rfl⟩
    · rw [decide_eq_false (by omega)] at e1 e2
      have e3 : cmpZ x y = 0 := by rw [h]; exact cmpZ_self y
      clear h e0
      go_enter Try.func29, Try.ntmps29
      go_wp2_with fail
      (with_reducible refine h1.out.mono ?_); rintro e w' ⟨rfl, rfl⟩
      go_wp2_with fail
      (with_reducible refine h2.out.mono ?_); rintro e w' ⟨rfl, rfl⟩
      go_wp2
      go_ret
      exact ⟨ret_i64 e3.symm, rfl⟩
    · rw [decide_eq_false (by omega)] at e1
      rw [decide_eq_true h] at e2
      have e3 : cmpZ x y = 1 := by unfold cmpZ; rw [if_neg (by omega), if_pos h]
      clear h e0
      go_enter Try.func29, Try.ntmps29
      go_wp2_with fail
      (with_reducible refine h1.out.mono ?_); rintro e w' ⟨rfl, rfl⟩
      go_wp2_with fail
      (with_reducible refine h2.out.mono ?_); rintro e w' ⟨rfl, rfl⟩
      go_wp2
      go_ret
      exact ⟨ret_i64 e3.symm, rfl⟩
  all_goals
    have e3 : cmpF a b = if nanB a then (if nanB b then 0 else -1) else if nanB b then 1 else if skey a < skey b then -1 else if skey b < skey a then 1 else 0 := rfl
    rw [ha, hb] at e3
    simp only [if_true, Bool.false_eq_true, if_false] at e3
    go_enter Try.func29, Try.ntmps29
    go_wp2_with fail
    (with_reducible refine h1.out.mono ?_); rintro e w' ⟨rfl, rfl⟩
    go_wp2_with fail
    (with_reducible refine h2.out.mono ?_); rintro e w' ⟨rfl, rfl⟩
    go_wp2
    go_ret
    exact ⟨ret_i64 e3.symm, rfl⟩

/-- The document's place of a number. -/
theorem float_any (a : Nat) (w : World) : Calls Try.prog 36 #[.int .u64 a] w fun e w' => e = .returned (.float .f64 a) ∧ w = w' := by
  have hF := frombits_run a
  simp only [Int.toNat_natCast] at hF
  go_enter Try.func36, Try.ntmps36
  go_wp2
  go_ret
  exact ⟨rfl, rfl⟩
/-- The first that is not nought. -/
def orI (a b : Int) : Int := if a = 0 then b else a
set_option maxRecDepth 100000 in
set_option maxHeartbeats 800000 in
theorem or_any (g : Nat) (a b : Int) (w : World) (h0 : w.cell? ⟨g, 0, none⟩ = some (.int .i64 a)) (h1 : w.cell? ⟨g, 1, none⟩ = some (.int .i64 b)) :
    Calls Try.prog 28 #[.slice (some ⟨g, 0, none⟩) 2 2] w fun e w' => e = .returned (.int .i64 (orI a b)) ∧ w = w' := by
  obtain ⟨r, hr⟩ : ∃ r, Hid (r = orI a b) := ⟨_, Lib.hid rfl⟩
  rw [← hr.out]
  by_cases ha : a = 0
  · by_cases hb : b = 0
    · have e : Hid (r = 0) := Lib.hid (by rw [hr.out]; unfold orI; rw [if_pos ha, hb])
      subst ha; subst hb
      go_enter Try.func28, Try.ntmps28
      go_wp2
      go_loop [8] (fun i => ∃ k : Nat, k ≤ 2 ∧ i = .int .i64 k) (fun i => 2 - (intOf i).toNat)
      case atStart => exact ⟨0, by omega, rfl⟩
      case round =>
        obtain ⟨k, hk, rfl⟩ := hrel
        rcases (by omega : k = 0 ∨ k = 1 ∨ k = 2) with rfl | rfl | rfl
        · go_wp2
          go_round
          case rel => exact ⟨1, by omega, by first | rfl | go_num⟩
          case measure => simp [intOf]
        · go_wp2
          go_round
          case rel => exact ⟨2, by omega, by first | rfl | go_num⟩
          case measure => simp [intOf]
        · go_wp2
          go_ret
          exact ⟨ret_i64 e.out.symm, rfl⟩
    · have e : Hid (r = b) := Lib.hid (by rw [hr.out]; unfold orI; rw [if_pos ha])
      have d1 : (b != 0) = true := by simpa using hb
      subst ha
      clear hb
      go_enter Try.func28, Try.ntmps28
      go_wp2
      go_loop [8] (fun i => ∃ k : Nat, k ≤ 1 ∧ i = .int .i64 k) (fun i => 2 - (intOf i).toNat)
      case atStart => exact ⟨0, by omega, rfl⟩
      case round =>
        obtain ⟨k, hk, rfl⟩ := hrel
        rcases (by omega : k = 0 ∨ k = 1) with rfl | rfl
        · go_wp2
          go_round
          case rel => exact ⟨1, by omega, by first | rfl | go_num⟩
          case measure => simp [intOf]
        · go_wp2
          go_ret
          exact ⟨ret_i64 e.out.symm, rfl⟩
  · have e : Hid (r = a) := Lib.hid (by rw [hr.out]; unfold orI; rw [if_neg ha])
    have d1 : (a != 0) = true := by simpa using ha
    clear ha
    go_enter Try.func28, Try.ntmps28
    go_wp2
    go_loop [8] (fun i => ∃ k : Nat, k ≤ 0 ∧ i = .int .i64 k) (fun i => 2 - (intOf i).toNat)
    case atStart => exact ⟨0, by omega, rfl⟩
    case round =>
      obtain ⟨k, hk, rfl⟩ := hrel
      obtain rfl : k = 0 := by omega
      go_wp2
      go_ret
      exact ⟨ret_i64 e.out.symm, rfl⟩


theorem box_cell (w : World) (cs : Array Value) (T : TypeId) (i : Nat) : (w.alloc (.cells cs T)).cell? ⟨w.heap.size, i, none⟩ = cs[i]? := cell_of_row _ _ i _ _ (0, 0) (heap_alloc_new w _)
theorem ordP_or (a b : Nat) : orI (cmpF a b) (cmpZ (i64of (cn a)) (i64of (cn b))) = ordP a b := rfl
theorem conv_i64 (b : Nat) : IntKind.i64.wrap (cn b : Int) = i64of (cn b) ∨ ¬ cn b < 18446744073709551616 := by
  by_cases h : cn b < 18446744073709551616
  · left
    generalize cn b = n at h
    unfold i64of
    simp only [IntKind.wrap, IntKind.signed, IntKind.bits, Bool.true_and]
    split <;> split <;> simp_all <;> omega
  · exact .inr h
set_option maxRecDepth 100000 in
set_option maxHeartbeats 1600000 in
theorem order_any (a b : Nat) (w : World) (ha : a < 18446744073709551616) (hb : b < 18446744073709551616) : Calls Try.prog 9 #[.int .u64 a, .int .u64 b] w fun e w' => e = .returned (.int .i64 (ordP a b)) ∧ Below w.heap.size w w' := by
  have H1 := fun w' => Lib.hid (floatOf_any a w')
  have H2 := fun w' => Lib.hid (floatOf_any b w')
  have H3 := fun w' => Lib.hid (compareF_any a b w')
  have H4 := fun w' => Lib.hid (bitsOf_any a w')
  have H5 := fun w' => Lib.hid (bitsOf_any b w')
  have H6 := fun w' => Lib.hid (compareZ_any (i64of (cn a)) (i64of (cn b)) w')
  obtain ⟨x, hx⟩ : ∃ x, Hid (x = cmpF a b) := ⟨_, Lib.hid rfl⟩
  obtain ⟨y, hy⟩ : ∃ y, Hid (y = cmpZ (i64of (cn a)) (i64of (cn b))) := ⟨_, Lib.hid rfl⟩
  obtain ⟨r, hr⟩ : ∃ r, Hid (r = ordP a b) := ⟨_, Lib.hid rfl⟩
  have cl : ∀ n, n < 18446744073709551616 → cn n < 18446744073709551616 := by
    intro n h; unfold cn; split
    · decide
    · exact h
  have c1 : IntKind.i64.wrap (cn a : Int) = i64of (cn a) := (conv_i64 a).resolve_right (fun h => h (cl _ ha))
  have c2 : IntKind.i64.wrap (cn b : Int) = i64of (cn b) := (conv_i64 b).resolve_right (fun h => h (cl _ hb))
  rw [← hx.out] at H3
  rw [← hy.out] at H6
  rw [← hr.out]
  generalize i64of (cn a) = za at c1 c2 H6
  generalize i64of (cn b) = zb at c2 H6
  clear ha hb cl
  go_enter Try.func9, Try.ntmps9
  go_upto_region 2 with (first
      | (go_at_call 27
         (with_reducible refine (H1 _).out.mono ?_); rintro e w1 ⟨rfl, rfl⟩)
      | (go_at_call 27
         (with_reducible refine (H2 _).out.mono ?_); rintro e w2 ⟨rfl, rfl⟩))
  go_wp2_with (first
      | (go_at_call 29
         (with_reducible refine (H3 _).out.mono ?_); rintro e w3 ⟨rfl, rfl⟩)
      | (go_at_call 31
         (with_reducible refine (H4 _).out.mono ?_); rintro e w4 ⟨rfl, rfl⟩)
      | (go_at_call 31
         (with_reducible refine (H5 _).out.mono ?_); rintro e w5 ⟨rfl, rfl⟩)
      | (go_at_call 30
         (with_reducible refine (H6 _).out.mono ?_); rintro e w6 ⟨rfl, rfl⟩)
      | (go_at_call 28
         (with_reducible refine (or_any _ x y _ (box_cell _ _ _ 0) (box_cell _ _ _ 1)).mono ?_); rintro e w7 ⟨rfl, rfl⟩))
  go_ret
  exact ⟨ret_i64 (by rw [hr.out, hx.out, hy.out]; exact ordP_or a b), (Below.refl _ _).alloc (Nat.le_refl _) _⟩
end Go.Proofs.Ytaihkehbpppngaa
