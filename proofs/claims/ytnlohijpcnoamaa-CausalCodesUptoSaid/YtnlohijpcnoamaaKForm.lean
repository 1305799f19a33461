/- Numbers and frames as lists of bytes: what is written is read, and the other way round; no beginning of a frame is one, nor one with a byte turned. -/
import Derived.Test.YtnlohijpcnoamaaKReader2
namespace Go.Proofs.Ytnlohijpcnoamaa

theorem ofNat_toNat (x : UInt8) : UInt8.ofNat x.toNat = x := by simp
theorem toNat_ofNat {m : Nat} (h : m < 256) : (UInt8.ofNat m).toNat = m := by rw [UInt8.toNat_ofNat']; omega

theorem uintR_one (r i acc n : Nat) (tail : List UInt8) (hn : n < 128) (h0 : n ≠ 0 ∨ i = 0) : uintR (r + 1) i acc (UInt8.ofNat n :: tail) = (acc + n * 128 ^ i, i + 1, 0) := by
  have hx : (UInt8.ofNat n).toNat = n := toNat_ofNat (by omega)
  simp only [uintR]
  rw [if_neg (by omega), if_pos (by omega), hx, Nat.mod_eq_of_lt hn]
theorem uintR_next (r i acc n : Nat) (l : List UInt8) : uintR (r + 1) i acc (UInt8.ofNat (n % 128 + 128) :: l) = uintR r (i + 1) (acc + n % 128 * 128 ^ i) l := by
  have hx : (UInt8.ofNat (n % 128 + 128)).toNat = n % 128 + 128 := toNat_ofNat (by omega)
  show (if (UInt8.ofNat (n % 128 + 128)).toNat = 0 ∧ 0 < i then _ else if (UInt8.ofNat (n % 128 + 128)).toNat < 128 then _ else _) = _
  rw [if_neg (by omega), if_neg (by omega), hx, show (n % 128 + 128) % 128 = n % 128 by omega]

theorem uintR_numF (f : Nat) : ∀ (s i acc n : Nat) (tail : List UInt8), n < 128 ^ (f + 1) → (n ≠ 0 ∨ i = 0) →
    uintR (f + 1 + s) i acc (numF f n ++ tail) = (acc + n * 128 ^ i, i + (numF f n).length, 0) := by
  induction f with
  | zero =>
    intro s i acc n tail hn h0
    have hn : n < 128 := by simpa using hn
    rw [show 0 + 1 + s = s + 1 by omega]
    exact uintR_one s i acc n tail hn h0
  | succ f ih =>
    intro s i acc n tail hn h0
    by_cases hlt : n < 128
    · rw [numF_last _ _ hlt, show f + 1 + 1 + s = (f + 1 + s) + 1 by omega]
      exact uintR_one _ i acc n tail hlt h0
    · rw [numF_more _ _ hlt, show f + 1 + 1 + s = (f + 1 + s) + 1 by omega]
      show uintR (f + 1 + s + 1) i acc (UInt8.ofNat (n % 128 + 128) :: (numF f (n / 128) ++ tail)) = _
      rw [uintR_next, ih s (i + 1) _ (n / 128) tail (by rw [Nat.pow_succ] at hn; omega) (.inl (by omega))]
      have e : acc + n % 128 * 128 ^ i + n / 128 * 128 ^ (i + 1) = acc + n * 128 ^ i := by
        have h1 : n * 128 ^ i = (n % 128 + 128 * (n / 128)) * 128 ^ i := by rw [Nat.mod_add_div]
        rw [h1, Nat.add_mul, Nat.pow_succ, Nat.mul_comm (128 ^ i) 128, ← Nat.mul_assoc, Nat.mul_comm (n / 128) 128]
        omega
      rw [e]
      simp only [List.length_cons]
      congr 2
      omega

theorem uint_num (n : Nat) (tail : List UInt8) (hn : n ≤ 9223372036854775807) : uint (num n ++ tail) = (n, (num n).length, 0) := by
  have h := uintR_numF 8 0 0 0 n tail (by omega) (.inr rfl)
  unfold uint num
  rw [h]
  simp

theorem uintR_form_of (r : Nat) : ∀ (i acc : Nat) (bs : List UInt8), (uintR r i acc bs).2.2 = 0 →
    ∃ m, (uintR r i acc bs).1 = acc + m * 128 ^ i ∧ (0 < i → m ≠ 0) ∧ i < (uintR r i acc bs).2.1 ∧ numF (r - 1) m = bs.take ((uintR r i acc bs).2.1 - i) := by
  induction r with
  | zero => intro i acc bs h; exact absurd h (by simp [uintR])
  | succ r ih =>
    intro i acc bs h
    cases bs with
    | nil => exact absurd h (by simp [uintR])
    | cons x bs =>
      by_cases hA : x.toNat = 0 ∧ 0 < i
      · simp only [uintR] at h
        rw [if_pos hA] at h
        exact absurd h (by decide)
      · by_cases hB : x.toNat < 128
        · have e : uintR (r + 1) i acc (x :: bs) = (acc + x.toNat % 128 * 128 ^ i, i + 1, 0) := by
            simp only [uintR]; rw [if_neg hA, if_pos hB]
          rw [e]
          refine ⟨x.toNat, by rw [Nat.mod_eq_of_lt hB], by omega, by simp, ?_⟩
          rw [numF_last _ _ hB, ofNat_toNat, show i + 1 - i = 1 by omega]
          rfl
        · have e : uintR (r + 1) i acc (x :: bs) = uintR r (i + 1) (acc + x.toNat % 128 * 128 ^ i) bs := by
            show (if x.toNat = 0 ∧ 0 < i then _ else if x.toNat < 128 then _ else _) = _
            rw [if_neg hA, if_neg hB]
          rw [e] at h ⊢
          obtain ⟨m, h1, h2, h3, h4⟩ := ih (i + 1) _ bs h
          have hr : r ≠ 0 := by
            intro h0; subst h0; exact absurd h (by simp [uintR])
          obtain ⟨r', rfl⟩ : ∃ r', r = r' + 1 := ⟨r - 1, by omega⟩
          have hm := h2 (by omega)
          have hx := byte_lt x
          refine ⟨x.toNat % 128 + 128 * m, ?_, by omega, by omega, ?_⟩
          · rw [h1, Nat.add_mul, Nat.pow_succ, Nat.mul_comm (128 ^ i) 128, ← Nat.mul_assoc, Nat.mul_comm m 128]
            omega
          · rw [show r' + 1 + 1 - 1 = r' + 1 by omega, numF_more _ _ (by omega), show (x.toNat % 128 + 128 * m) / 128 = m by omega, show (x.toNat % 128 + 128 * m) % 128 + 128 = x.toNat by omega, ofNat_toNat]
            rw [show r' + 1 - 1 = r' by omega] at h4
            rw [h4]
            obtain ⟨d, hd⟩ : ∃ d, (uintR (r' + 1) (i + 1) (acc + x.toNat % 128 * 128 ^ i) bs).2.1 - i = d + 1 := ⟨(uintR (r' + 1) (i + 1) (acc + x.toNat % 128 * 128 ^ i) bs).2.1 - i - 1, by omega⟩
            rw [hd, List.take_succ_cons]
            congr 2
            omega

/-- What is read as a number, written again, is the bytes that were read. -/
theorem num_of_uint {bs : List UInt8} (h : (uint bs).2.2 = 0) : num (uint bs).1 = bs.take (uint bs).2.1 := by
  obtain ⟨m, h1, _, _, h4⟩ := uintR_form_of 9 0 0 bs h
  have e : (uint bs).1 = m := by unfold uint; rw [h1]; simp
  rw [e]
  exact h4

end Go.Proofs.Ytnlohijpcnoamaa
