/- Off: the program's and the document's. -/
import Derived.Test.YtaihkehbpppngaaTLine
import Derived.Test.YtaihkehbpppngaaFl3
namespace Go.Proofs.Ytaihkehbpppngaa
open Go.RowKit

def clampH (h : Int) : Int := if h ≤ 0 then 0 else if 100 ≤ h then 100 else h
theorem fop_cnr (op : BinOp) (x y : Nat) : fop op x (cn y) = fop op x y := by
  rw [← fop_cn op x (cn y), cn_cn, fop_cn]
theorem offV_of {t r1 r2 r3 : Nat} {h : Int} (h1 : cn r1 = fop .quo (floatOfInt .f64 h) HUND) (h2 : cn r2 = fop .mul t r1) (h3 : cn r3 = fop .sub t r2) : cn r3 = offV t h := by
  unfold offV
  rw [h3, ← fop_cnr .sub t r2, h2, ← fop_cnr .mul t r1, h1]
theorem refBits_any (a : Nat) (w : World) : Calls Try.prog 34 #[.float .f64 a] w fun e w' => e = .returned (.int .u64 (cn a)) ∧ w = w' := by
  have hB := bits_run a
  have hq := neqF a
  cases h : nanB a with
  | true =>
    rw [h] at hq
    go_enter Try.func34, Try.ntmps34
    go_wp2
    go_ret
    exact ⟨by rw [cn_nan h]; rfl, rfl⟩
  | false =>
    rw [h] at hq
    go_enter Try.func34, Try.ntmps34
    go_wp2
    go_ret
    exact ⟨by rw [cn_num h]; rfl, rfl⟩

set_option maxRecDepth 100000 in
set_option maxHeartbeats 800000 in
theorem off_any (t : Nat) (h : Int) (w : World) : Calls Try.prog 14 #[.int .u64 t, .int .i64 h] w fun e w' => e = .returned (.int .u64 (offV t (clampH h))) ∧ Below w.heap.size w w' := by
  have H1 := fun w' => Lib.hid (floatOf_any t w')
  have HB := fun x w' => Lib.hid (bitsOf_any x w')
  have HR := Lib.hid (Below.refl w.heap.size w)
  obtain ⟨q, hq⟩ : ∃ q, Hid (q = clampH h) := ⟨_, Lib.hid rfl⟩
  rw [← hq.out]
  have HV := fun r1 r2 r3 h1 h2 h3 => Lib.hid (offV_of (t := t) (h := q) (r1 := r1) (r2 := r2) (r3 := r3) h1 h2 h3)
  rcases Int.lt_trichotomy h 0 with hh | hh | hh
  · -- below
    have c0 : ¬ (h > 0) := by omega
    have c1 : ¬ (h > 100) := by omega
    have c2 : ¬ (100 < h) := by omega
    have c3 : ¬ (0 < h) := by omega
    have c4 : h < 100 := by omega
    have c5 : 0 > h := by omega
    have c6 : 100 > h := by omega
    have c7 : h < 0 := by omega
    have e : Hid (q = 0) := Lib.hid (by rw [hq.out]; unfold clampH; rw [if_pos (by omega)])
    have G1 := H1
    have GB := HB
    clear hh hq H1 HB
    go_enter Try.func14, Try.ntmps14
    go_wp2_with (first
      | (go_at_call 27
         (with_reducible refine (G1 _).out.mono ?_); rintro e w1 ⟨rfl, rfl⟩)
      | (refine wpList_fop _ rfl .quo (.inr (.inr (.inr rfl))) _ _ _ _ rfl (by rfl) (by rfl) ?_))
    intro r1 v1 h1 l1 hw1
    go_wp2_with (refine wpList_fop _ rfl .mul (.inr (.inr (.inl rfl))) _ _ _ _ rfl (by rfl) (by rfl) ?_)
    intro r2 v2 h2 l2 hw2
    go_wp2_with (refine wpList_fop _ rfl .sub (.inr (.inl rfl)) _ _ _ _ rfl (by rfl) (by rfl) ?_)
    intro r3 v3 h3 l3 hw3
    go_wp2_with fail
    (with_reducible refine (GB _ _).out.mono ?_); rintro e w4 ⟨rfl, rfl⟩
    go_wp2
    go_ret
    exact ⟨by rw [← h3, (HV r1 r2 r3 (by rw [e.out]; exact h1) h2 h3).out]; rfl, below_or (below_or (below_or HR.out hw1) hw2) hw3⟩
  · subst hh
    have e : Hid (q = 0) := Lib.hid (by rw [hq.out]; rfl)
    have G1 := H1
    have GB := HB
    clear hq H1 HB
    go_enter Try.func14, Try.ntmps14
    go_wp2_with (first
      | (go_at_call 27
         (with_reducible refine (G1 _).out.mono ?_); rintro e w1 ⟨rfl, rfl⟩)
      | (refine wpList_fop _ rfl .quo (.inr (.inr (.inr rfl))) _ _ _ _ rfl (by rfl) (by rfl) ?_))
    intro r1 v1 h1 l1 hw1
    go_wp2_with (refine wpList_fop _ rfl .mul (.inr (.inr (.inl rfl))) _ _ _ _ rfl (by rfl) (by rfl) ?_)
    intro r2 v2 h2 l2 hw2
    go_wp2_with (refine wpList_fop _ rfl .sub (.inr (.inl rfl)) _ _ _ _ rfl (by rfl) (by rfl) ?_)
    intro r3 v3 h3 l3 hw3
    go_wp2_with fail
    (with_reducible refine (GB _ _).out.mono ?_); rintro e w4 ⟨rfl, rfl⟩
    go_wp2
    go_ret
    exact ⟨by rw [← h3, (HV r1 r2 r3 (by rw [e.out]; exact h1) h2 h3).out]; rfl, below_or (below_or (below_or HR.out hw1) hw2) hw3⟩
  · rcases Int.lt_trichotomy h 100 with hg | hg | hg
    · -- between
      have c0 : h > 0 := by omega
      have c1 : ¬ (h > 100) := by omega
      have c2 : ¬ (100 < h) := by omega
      have c3 : 0 < h := by omega
      have c4 : h < 100 := by omega
      have c5 : ¬ (0 > h) := by omega
      have c6 : 100 > h := by omega
      have c7 : ¬ (h < 0) := by omega
      have e : Hid (q = h) := Lib.hid (by rw [hq.out]; unfold clampH; rw [if_neg (by omega), if_neg (by omega)])
      have G1 := H1
      have GB := HB
      clear hg hh hq H1 HB
      go_enter Try.func14, Try.ntmps14
      go_wp2_with (first
        | (go_at_call 27
           (with_reducible refine (G1 _).out.mono ?_); rintro e w1 ⟨rfl, rfl⟩)
        | (refine wpList_fop _ rfl .quo (.inr (.inr (.inr rfl))) _ _ _ _ rfl (by rfl) (by rfl) ?_))
      intro r1 v1 h1 l1 hw1
      go_wp2_with (refine wpList_fop _ rfl .mul (.inr (.inr (.inl rfl))) _ _ _ _ rfl (by rfl) (by rfl) ?_)
      intro r2 v2 h2 l2 hw2
      go_wp2_with (refine wpList_fop _ rfl .sub (.inr (.inl rfl)) _ _ _ _ rfl (by rfl) (by rfl) ?_)
      intro r3 v3 h3 l3 hw3
      go_wp2_with fail
      (with_reducible refine (GB _ _).out.mono ?_); rintro e w4 ⟨rfl, rfl⟩
      go_wp2
      go_ret
      exact ⟨by rw [← h3, (HV r1 r2 r3 (by rw [e.out]; exact h1) h2 h3).out]; rfl, below_or (below_or (below_or HR.out hw1) hw2) hw3⟩
    · subst hg
      have e : Hid (q = 100) := Lib.hid (by rw [hq.out]; rfl)
      have G1 := H1
      have GB := HB
      clear hh hq H1 HB
      go_enter Try.func14, Try.ntmps14
      go_wp2_with (first
        | (go_at_call 27
           (with_reducible refine (G1 _).out.mono ?_); rintro e w1 ⟨rfl, rfl⟩)
        | (refine wpList_fop _ rfl .quo (.inr (.inr (.inr rfl))) _ _ _ _ rfl (by rfl) (by rfl) ?_))
      intro r1 v1 h1 l1 hw1
      go_wp2_with (refine wpList_fop _ rfl .mul (.inr (.inr (.inl rfl))) _ _ _ _ rfl (by rfl) (by rfl) ?_)
      intro r2 v2 h2 l2 hw2
      go_wp2_with (refine wpList_fop _ rfl .sub (.inr (.inl rfl)) _ _ _ _ rfl (by rfl) (by rfl) ?_)
      intro r3 v3 h3 l3 hw3
      go_wp2_with fail
      (with_reducible refine (GB _ _).out.mono ?_); rintro e w4 ⟨rfl, rfl⟩
      go_wp2
      go_ret
      exact ⟨by rw [← h3, (HV r1 r2 r3 (by rw [e.out]; exact h1) h2 h3).out]; rfl, below_or (below_or (below_or HR.out hw1) hw2) hw3⟩
    · -- above
      have c0 : h > 0 := by omega
      have c1 : h > 100 := by omega
      have c2 : 100 < h := by omega
      have c3 : 0 < h := by omega
      have c4 : ¬ (h < 100) := by omega
      have c5 : ¬ (0 > h) := by omega
      have c6 : ¬ (100 > h) := by omega
      have c7 : ¬ (h < 0) := by omega
      have e : Hid (q = 100) := Lib.hid (by rw [hq.out]; unfold clampH; rw [if_neg (by omega), if_pos (by omega)])
      have G1 := H1
      have GB := HB
      clear hg hh hq H1 HB
      go_enter Try.func14, Try.ntmps14
      go_wp2_with (first
        | (go_at_call 27
           (with_reducible refine (G1 _).out.mono ?_); rintro e w1 ⟨rfl, rfl⟩)
        | (refine wpList_fop _ rfl .quo (.inr (.inr (.inr rfl))) _ _ _ _ rfl (by rfl) (by rfl) ?_))
      intro r1 v1 h1 l1 hw1
      go_wp2_with (refine wpList_fop _ rfl .mul (.inr (.inr (.inl rfl))) _ _ _ _ rfl (by rfl) (by rfl) ?_)
      intro r2 v2 h2 l2 hw2
      go_wp2_with (refine wpList_fop _ rfl .sub (.inr (.inl rfl)) _ _ _ _ rfl (by rfl) (by rfl) ?_)
      intro r3 v3 h3 l3 hw3
      go_wp2_with fail
      (with_reducible refine (GB _ _).out.mono ?_); rintro e w4 ⟨rfl, rfl⟩
      go_wp2
      go_ret
      exact ⟨by rw [← h3, (HV r1 r2 r3 (by rw [e.out]; exact h1) h2 h3).out]; rfl, below_or (below_or (below_or HR.out hw1) hw2) hw3⟩

set_option maxRecDepth 100000 in
set_option maxHeartbeats 800000 in
theorem refOff_any (t : Nat) (h : Int) (w : World) : Calls Try.prog 15 #[.int .u64 t, .int .i64 h] w fun e w' => e = .returned (.int .u64 (offV t (clampH h))) ∧ Below w.heap.size w w' := by
  have H1 := fun w' => Lib.hid (float_any t w')
  have HB := fun x w' => Lib.hid (refBits_any x w')
  have HR := Lib.hid (Below.refl w.heap.size w)
  obtain ⟨q, hq⟩ : ∃ q, Hid (q = clampH h) := ⟨_, Lib.hid rfl⟩
  rw [← hq.out]
  have HV := fun r1 r2 r3 h1 h2 h3 => Lib.hid (offV_of (t := t) (h := q) (r1 := r1) (r2 := r2) (r3 := r3) h1 h2 h3)
  rcases Int.lt_trichotomy h 0 with hh | hh | hh
  · -- below
    have c0 : ¬ (h > 0) := by omega
    have c1 : ¬ (h > 100) := by omega
    have c2 : ¬ (100 < h) := by omega
    have c3 : ¬ (0 < h) := by omega
    have c4 : h < 100 := by omega
    have c5 : 0 > h := by omega
    have c6 : 100 > h := by omega
    have c7 : h < 0 := by omega
    have e : Hid (q = 0) := Lib.hid (by rw [hq.out]; unfold clampH; rw [if_pos (by omega)])
    have G1 := H1
    have GB := HB
    clear hh hq H1 HB
    go_enter Try.func15, Try.ntmps15
    go_wp2_with (first
      | (go_at_call 36
         (with_reducible refine (G1 _).out.mono ?_); rintro e w1 ⟨rfl, rfl⟩)
      | (refine wpList_fop _ rfl .quo (.inr (.inr (.inr rfl))) _ _ _ _ rfl (by rfl) (by rfl) ?_))
    intro r1 v1 h1 l1 hw1
    go_wp2_with (refine wpList_fop _ rfl .mul (.inr (.inr (.inl rfl))) _ _ _ _ rfl (by rfl) (by rfl) ?_)
    intro r2 v2 h2 l2 hw2
    go_wp2_with (refine wpList_fop _ rfl .sub (.inr (.inl rfl)) _ _ _ _ rfl (by rfl) (by rfl) ?_)
    intro r3 v3 h3 l3 hw3
    go_wp2_with fail
    (with_reducible refine (GB _ _).out.mono ?_); rintro e w4 ⟨rfl, rfl⟩
    go_wp2
    go_ret
    exact ⟨by rw [← h3, (HV r1 r2 r3 (by rw [e.out]; exact h1) h2 h3).out]; rfl, below_or (below_or (below_or HR.out hw1) hw2) hw3⟩
  · subst hh
    have e : Hid (q = 0) := Lib.hid (by rw [hq.out]; rfl)
    have G1 := H1
    have GB := HB
    clear hq H1 HB
    go_enter Try.func15, Try.ntmps15
    go_wp2_with (first
      | (go_at_call 36
         (with_reducible refine (G1 _).out.mono ?_); rintro e w1 ⟨rfl, rfl⟩)
      | (refine wpList_fop _ rfl .quo (.inr (.inr (.inr rfl))) _ _ _ _ rfl (by rfl) (by rfl) ?_))
    intro r1 v1 h1 l1 hw1
    go_wp2_with (refine wpList_fop _ rfl .mul (.inr (.inr (.inl rfl))) _ _ _ _ rfl (by rfl) (by rfl) ?_)
    intro r2 v2 h2 l2 hw2
    go_wp2_with (refine wpList_fop _ rfl .sub (.inr (.inl rfl)) _ _ _ _ rfl (by rfl) (by rfl) ?_)
    intro r3 v3 h3 l3 hw3
    go_wp2_with fail
    (with_reducible refine (GB _ _).out.mono ?_); rintro e w4 ⟨rfl, rfl⟩
    go_wp2
    go_ret
    exact ⟨by rw [← h3, (HV r1 r2 r3 (by rw [e.out]; exact h1) h2 h3).out]; rfl, below_or (below_or (below_or HR.out hw1) hw2) hw3⟩
  · rcases Int.lt_trichotomy h 100 with hg | hg | hg
    · -- between
      have c0 : h > 0 := by omega
      have c1 : ¬ (h > 100) := by omega
      have c2 : ¬ (100 < h) := by omega
      have c3 : 0 < h := by omega
      have c4 : h < 100 := by omega
      have c5 : ¬ (0 > h) := by omega
      have c6 : 100 > h := by omega
      have c7 : ¬ (h < 0) := by omega
      have e : Hid (q = h) := Lib.hid (by rw [hq.out]; unfold clampH; rw [if_neg (by omega), if_neg (by omega)])
      have G1 := H1
      have GB := HB
      clear hg hh hq H1 HB
      go_enter Try.func15, Try.ntmps15
      go_wp2_with (first
        | (go_at_call 36
           (with_reducible refine (G1 _).out.mono ?_); rintro e w1 ⟨rfl, rfl⟩)
        | (refine wpList_fop _ rfl .quo (.inr (.inr (.inr rfl))) _ _ _ _ rfl (by rfl) (by rfl) ?_))
      intro r1 v1 h1 l1 hw1
      go_wp2_with (refine wpList_fop _ rfl .mul (.inr (.inr (.inl rfl))) _ _ _ _ rfl (by rfl) (by rfl) ?_)
      intro r2 v2 h2 l2 hw2
      go_wp2_with (refine wpList_fop _ rfl .sub (.inr (.inl rfl)) _ _ _ _ rfl (by rfl) (by rfl) ?_)
      intro r3 v3 h3 l3 hw3
      go_wp2_with fail
      (with_reducible refine (GB _ _).out.mono ?_); rintro e w4 ⟨rfl, rfl⟩
      go_wp2
      go_ret
      exact ⟨by rw [← h3, (HV r1 r2 r3 (by rw [e.out]; exact h1) h2 h3).out]; rfl, below_or (below_or (below_or HR.out hw1) hw2) hw3⟩
    · subst hg
      have e : Hid (q = 100) := Lib.hid (by rw [hq.out]; rfl)
      have G1 := H1
      have GB := HB
      clear hh hq H1 HB
      go_enter Try.func15, Try.ntmps15
      go_wp2_with (first
        | (go_at_call 36
           (with_reducible refine (G1 _).out.mono ?_); rintro e w1 ⟨rfl, rfl⟩)
        | (refine wpList_fop _ rfl .quo (.inr (.inr (.inr rfl))) _ _ _ _ rfl (by rfl) (by rfl) ?_))
      intro r1 v1 h1 l1 hw1
      go_wp2_with (refine wpList_fop _ rfl .mul (.inr (.inr (.inl rfl))) _ _ _ _ rfl (by rfl) (by rfl) ?_)
      intro r2 v2 h2 l2 hw2
      go_wp2_with (refine wpList_fop _ rfl .sub (.inr (.inl rfl)) _ _ _ _ rfl (by rfl) (by rfl) ?_)
      intro r3 v3 h3 l3 hw3
      go_wp2_with fail
      (with_reducible refine (GB _ _).out.mono ?_); rintro e w4 ⟨rfl, rfl⟩
      go_wp2
      go_ret
      exact ⟨by rw [← h3, (HV r1 r2 r3 (by rw [e.out]; exact h1) h2 h3).out]; rfl, below_or (below_or (below_or HR.out hw1) hw2) hw3⟩
    · -- above
      have c0 : h > 0 := by omega
      have c1 : h > 100 := by omega
      have c2 : 100 < h := by omega
      have c3 : 0 < h := by omega
      have c4 : ¬ (h < 100) := by omega
      have c5 : ¬ (0 > h) := by omega
      have c6 : ¬ (100 > h) := by omega
      have c7 : ¬ (h < 0) := by omega
      have e : Hid (q = 100) := Lib.hid (by rw [hq.out]; unfold clampH; rw [if_neg (by omega), if_pos (by omega)])
      have G1 := H1
      have GB := HB
      clear hg hh hq H1 HB
      go_enter Try.func15, Try.ntmps15
      go_wp2_with (first
        | (go_at_call 36
           (with_reducible refine (G1 _).out.mono ?_); rintro e w1 ⟨rfl, rfl⟩)
        | (refine wpList_fop _ rfl .quo (.inr (.inr (.inr rfl))) _ _ _ _ rfl (by rfl) (by rfl) ?_))
      intro r1 v1 h1 l1 hw1
      go_wp2_with (refine wpList_fop _ rfl .mul (.inr (.inr (.inl rfl))) _ _ _ _ rfl (by rfl) (by rfl) ?_)
      intro r2 v2 h2 l2 hw2
      go_wp2_with (refine wpList_fop _ rfl .sub (.inr (.inl rfl)) _ _ _ _ rfl (by rfl) (by rfl) ?_)
      intro r3 v3 h3 l3 hw3
      go_wp2_with fail
      (with_reducible refine (GB _ _).out.mono ?_); rintro e w4 ⟨rfl, rfl⟩
      go_wp2
      go_ret
      exact ⟨by rw [← h3, (HV r1 r2 r3 (by rw [e.out]; exact h1) h2 h3).out]; rfl, below_or (below_or (below_or HR.out hw1) hw2) hw3⟩

/-- Is a word finite? By its bits, as the law asks. -/
theorem mask_u64 (t : Nat) (ht : t < 18446744073709551616) : (bits .and .u64 (t : Int) 9218868437227405312 == 9218868437227405312) = decide (9218868437227405312 ≤ rung t) := by
  have e := u64_and_nat t 9218868437227405312 ht (by decide)
  have h : t &&& 9218868437227405312 = (t / 4503599627370496 % 2048) * 4503599627370496 := by
    have e1 : (9218868437227405312 : Nat) = (2 ^ 11 - 1) <<< 52 := by decide
    apply Nat.eq_of_testBit_eq
    intro i
    rw [e1, Nat.testBit_and, Nat.testBit_shiftLeft, Nat.testBit_two_pow_sub_one]
    rw [show (t / 4503599627370496 % 2048) * 4503599627370496 = (t / 2 ^ 52 % 2 ^ 11) <<< 52 by rw [Nat.shiftLeft_eq], Nat.testBit_shiftLeft, Nat.testBit_mod_two_pow]
    by_cases hi : 52 ≤ i
    · rw [Nat.testBit_div_two_pow, show i - 52 + 52 = i by omega]
      cases t.testBit i <;> simp [hi]
    · simp [hi]
  rw [h] at e
  rw [show (9218868437227405312 : Int) = ((9218868437227405312 : Nat) : Int) from rfl, e]
  have h2 : t / 4503599627370496 % 2048 = rung t / 4503599627370496 := by unfold rung; omega
  have h3 : rung t < 9223372036854775808 := by unfold rung; omega
  rw [h2]
  by_cases hc : 9218868437227405312 ≤ rung t
  · rw [decide_eq_true hc]
    rw [beq_iff_eq]
    omega
  · rw [decide_eq_false hc]
    rw [beq_eq_false_iff_ne]
    intro hx
    omega

set_option maxRecDepth 100000 in
set_option maxHeartbeats 800000 in
/-- TillOff. -/
theorem off_walk (t : Nat) (ht : t < 18446744073709551616) (w : World) :
    Calls Try.prog 8 #[.int .u64 t] w fun e w' => e = .returned (.bool true) ∧ Below w.heap.size w w' := by
  have HM := mask_u64 t ht
  by_cases hc : 9218868437227405312 ≤ rung t
  · rw [decide_eq_true hc] at HM
    have H1 := fun w' => Lib.hid (off_any t 50 w')
    have H2 := fun w' => Lib.hid (refOff_any t 50 w')
    generalize offV t (clampH 50) = x at H1 H2
    clear hc ht
    go_enter Try.func8, Try.ntmps8
    go_wp2_with (first
      | (go_at_call 14
         (with_reducible refine (H1 _).out.mono ?_); rintro e w1 ⟨rfl, hb1⟩)
      | (go_at_call 15
         (with_reducible refine (H2 _).out.mono ?_); rintro e w2 ⟨rfl, hb2⟩))
    go_ret
    exact ⟨rfl, hb1.trans (hb2.mono hb1.size)⟩
  · rw [decide_eq_false hc] at HM
    have hr : rung t < 9218868437227405312 := by omega
    have q0 := offV_zero hr ht
    have q1 := offV_all hr ht
    have H1 := fun w' => Lib.hid (off_any t 0 w')
    have H2 := fun w' => Lib.hid (off_any t (-5) w')
    have H3 := fun w' => Lib.hid (off_any t 100 w')
    have H4 := fun w' => Lib.hid (off_any t 1000 w')
    rw [show clampH 0 = 0 from rfl, q0] at H1
    rw [show clampH (-5) = 0 from rfl, q0] at H2
    rw [show clampH 100 = 100 from rfl, q1] at H3
    rw [show clampH 1000 = 100 from rfl, q1] at H4
    have key : ∀ s : Nat, Hid ((if rung t = 0 then 0 else t) = s) → ∀ b : Bool, Hid (((t : Int) == 9223372036854775808) = b) → (b = true → s = 0) → (b = false → s = t) →
        Calls Try.prog 8 #[.int .u64 t] w fun e w' => e = .returned (.bool true) ∧ Below w.heap.size w w' := by
      intro s hs b hb hb1 hb2
      rw [hs.out] at H1 H2
      have HE := hb.out
      cases b
      · obtain rfl := hb2 rfl
        clear hs hb hb1 hb2 q0 q1 hr hc ht
        go_enter Try.func8, Try.ntmps8
        go_wp2_with (first
          | (go_at_call 14
             (with_reducible refine (H1 _).out.mono ?_); rintro e w1 ⟨rfl, hb1⟩)
          | (go_at_call 14
             (with_reducible refine (H2 _).out.mono ?_); rintro e w2 ⟨rfl, hb2⟩)
          | (go_at_call 14
             (with_reducible refine (H3 _).out.mono ?_); rintro e w3 ⟨rfl, hb3⟩)
          | (go_at_call 14
             (with_reducible refine (H4 _).out.mono ?_); rintro e w4 ⟨rfl, hb4⟩))
        go_ret
        exact ⟨rfl, ((hb1.trans (hb2.mono hb1.size)).trans (hb3.mono (Nat.le_trans hb1.size hb2.size))).trans (hb4.mono (Nat.le_trans (Nat.le_trans hb1.size hb2.size) hb3.size))⟩
      · obtain rfl := hb1 rfl
        clear hs hb hb1 hb2 q0 q1 hr hc ht
        go_enter Try.func8, Try.ntmps8
        go_wp2_with (first
          | (go_at_call 14
             (with_reducible refine (H1 _).out.mono ?_); rintro e w1 ⟨rfl, hb1⟩)
          | (go_at_call 14
             (with_reducible refine (H2 _).out.mono ?_); rintro e w2 ⟨rfl, hb2⟩)
          | (go_at_call 14
             (with_reducible refine (H3 _).out.mono ?_); rintro e w3 ⟨rfl, hb3⟩)
          | (go_at_call 14
             (with_reducible refine (H4 _).out.mono ?_); rintro e w4 ⟨rfl, hb4⟩))
        go_ret
        exact ⟨rfl, ((hb1.trans (hb2.mono hb1.size)).trans (hb3.mono (Nat.le_trans hb1.size hb2.size))).trans (hb4.mono (Nat.le_trans (Nat.le_trans hb1.size hb2.size) hb3.size))⟩
    by_cases h1 : t = 9223372036854775808
    · refine key 0 (Lib.hid ?_) true (Lib.hid (by rw [h1]; rfl)) (fun _ => rfl) (fun h => by cases h)
      rw [h1]; rfl
    · refine key t (Lib.hid ?_) false (Lib.hid ?_) (fun h => by cases h) (fun _ => rfl)
      · by_cases h2 : rung t = 0
        · rw [if_pos h2]; unfold rung at h2; omega
        · rw [if_neg h2]
      · rw [beq_eq_false_iff_ne]; omega
end Go.Proofs.Ytaihkehbpppngaa
