/- What is read of a context is written back as the same bytes. -/
import Derived.Test.YtnlohijpcnoamaaKBackM
namespace Go.Proofs.Ytnlohijpcnoamaa
open Go.RowKit

/-- The bytes from p to below q. -/
def seg (bs : List UInt8) (p q : Nat) : List UInt8 := (bs.drop p).take (q - p)
theorem seg_append {bs : List UInt8} {p q r : Nat} (h : p ≤ q) (h2 : q ≤ r) : seg bs p q ++ seg bs q r = seg bs p r := by
  unfold seg
  rw [show r - p = (q - p) + (r - q) by omega, List.take_add, List.drop_drop, show p + (q - p) = q by omega]
theorem seg_none (bs : List UInt8) (p : Nat) : seg bs p p = [] := by unfold seg; simp

theorem numS_back {bs : List UInt8} {p : Nat} {y : Int} (h : (numS bs p y).2.2 = 0) : y = 0 ∧ p ≤ (numS bs p y).2.1 ∧ 0 ≤ (numS bs p y).1 ∧ num (numS bs p y).1.toNat = seg bs p (numS bs p y).2.1 := by
  unfold numS at h ⊢
  by_cases hy : y = 0
  · rw [if_pos hy] at h ⊢
    refine ⟨hy, by simp, by simp, ?_⟩
    have := num_of_uint h
    simp only [Int.toNat_natCast, seg]
    rw [this]
    congr 1; omega
  · rw [if_neg hy] at h
    exact absurd h hy
theorem lenS_back {bs : List UInt8} {p : Nat} {y : Int} (h : (lenS bs 64 p y).2.2 = 0) : y = 0 ∧ p ≤ (lenS bs 64 p y).2.1 ∧ (lenS bs 64 p y).1.toNat ≤ 64 ∧ num (lenS bs 64 p y).1.toNat = seg bs p (lenS bs 64 p y).2.1 := by
  unfold lenS at h ⊢
  by_cases hm : (numS bs p y).1 > 64
  · rw [if_pos hm] at h; cases h
  · rw [if_neg hm] at h ⊢
    obtain ⟨a, b, c, d⟩ := numS_back h
    exact ⟨a, b, by omega, d⟩
theorem dotS_back {bs : List UInt8} {p : Nat} {y : Int} (h : (dotS bs p y).2.2 = 0) : y = 0 ∧ p ≤ (dotS bs p y).2.1 ∧ nums (dotN (dotS bs p y).1) = seg bs p (dotS bs p y).2.1 := by
  unfold dotS at h ⊢
  dsimp only at h ⊢
  obtain ⟨a3, b3, _, d3⟩ := numS_back h
  obtain ⟨a2, b2, _, d2⟩ := numS_back a3
  obtain ⟨a1, b1, _, d1⟩ := numS_back a2
  refine ⟨a1, by omega, ?_⟩
  rw [nums_dotN, d1, d2, d3, seg_append b2 b3, seg_append b1 (by omega)]
theorem dotsS_back {bs : List UInt8} (k : Nat) : ∀ {p : Nat} {y : Int}, (dotsS bs k p y).2.2 = 0 → y = 0 ∧ p ≤ (dotsS bs k p y).2.1 ∧ (dotsS bs k p y).1.length = k ∧ nums (dotsN (dotsS bs k p y).1) = seg bs p (dotsS bs k p y).2.1 := by
  induction k with
  | zero => intro p y h; exact ⟨h, Nat.le_refl _, rfl, by simp [dotsS, dotsN, nums, seg_none]⟩
  | succ k ih =>
    intro p y h
    unfold dotsS at h ⊢
    dsimp only at h ⊢
    obtain ⟨a2, b2, d2⟩ := dotS_back h
    obtain ⟨a1, b1, c1, d1⟩ := ih a2
    refine ⟨a1, by omega, by rw [List.length_append, c1]; rfl, ?_⟩
    rw [dotsN_snoc, nums_append, d1, d2, seg_append b1 b2]
theorem dotsS_length {bs : List UInt8} (k : Nat) (p : Nat) (y : Int) : (dotsS bs k p y).1.length = k := by
  induction k with
  | zero => rfl
  | succ k ih => unfold dotsS; dsimp only; rw [List.length_append, ih]; rfl

/-- What is read is written back as it stood. -/
theorem readS_back {bs : List UInt8} {p : Nat} {y : Int} (h : (readS bs p y).2.2.2 = 0) :
    y = 0 ∧ p ≤ (readS bs p y).2.2.1 ∧ codeC (readS bs p y).1 (readS bs p y).2.1 = seg bs p (readS bs p y).2.2.1 := by
  unfold readS at h ⊢
  dsimp only at h ⊢
  obtain ⟨a4, b4, c4, d4⟩ := dotsS_back _ h
  obtain ⟨a3, b3, c3, d3⟩ := lenS_back a4
  obtain ⟨a2, b2, c2, d2⟩ := dotsS_back _ a3
  obtain ⟨a1, b1, c1, d1⟩ := lenS_back a2
  refine ⟨a1, by omega, ?_⟩
  unfold codeC
  rw [c2, c4, d1, d2, d3, d4, seg_append b1 b2, seg_append (by omega) b3, seg_append (by omega) b4]
end Go.Proofs.Ytnlohijpcnoamaa
