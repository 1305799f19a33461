/- Slices of numbers, as lists. -/
import Derived.Test.YtefciibkcafbiaaWRow
namespace Go.Proofs.Ytefciibkcafbiaa
open Go.RowKit Go.Sort Go.BigFrame

/-- A slice of numbers of a kind, whatever they are. -/
def RdN (kd : IntKind) (w : World) (A : Option Addr) (n : Nat) : Prop := ∀ j, j < n → ∃ ad : Addr, A = some ad ∧ ad.block < w.heap.size ∧ ∃ z, w.cell? (ad.add j) = some (.int kd z) ∧ kd.min ≤ z ∧ z ≤ kd.max
/-- A slice whose numbers are these. -/
def RdZ (w : World) (A : Option Addr) (zs : List Int) : Prop := ∀ (j : Nat) (z : Int), zs[j]? = some z → ∃ ad : Addr, A = some ad ∧ ad.block < w.heap.size ∧ w.cell? (ad.add j) = some (.int .i64 z) ∧ -9223372036854775808 ≤ z ∧ z ≤ 9223372036854775807
theorem RdZ.below {w w' : World} {A : Option Addr} {zs : List Int} (h : RdZ w A zs) (hb : Below w.heap.size w w') : RdZ w' A zs := fun j z hz => by
  obtain ⟨ad, e, hlt, hc, hw⟩ := h j z hz
  exact ⟨ad, e, Nat.lt_of_lt_of_le hlt hb.size, (hb.cell (by rw [add_block]; exact hlt)).trans hc, hw⟩
theorem rdZ_ne {w : World} {A : Option Addr} {z : Int} {zs : List Int} (h : RdZ w A (z :: zs)) : ∃ ad, A = some ad := by
  obtain ⟨ad, e, _⟩ := h 0 z rfl
  exact ⟨ad, e⟩
theorem RdN.list {w : World} {A : Option Addr} : ∀ {n : Nat}, RdN .i64 w A n → ∃ zs : List Int, zs.length = n ∧ RdZ w A zs
  | 0, _ => ⟨[], rfl, fun j z hz => by simp at hz⟩
  | n + 1, h => by
    obtain ⟨zs, hl, hz⟩ := RdN.list (n := n) fun j hj => h j (by omega)
    obtain ⟨ad, e, hlt, z, hc, h0, h1⟩ := h n (by omega)
    refine ⟨zs ++ [z], by simp [hl], fun j y hy => ?_⟩
    by_cases hj : j < zs.length
    · rw [List.getElem?_append_left hj] at hy
      exact hz j y hy
    · have hj2 : j = n := by
        have := (List.getElem?_eq_some_iff.1 hy).1
        simp at this
        omega
      subst hj2
      rw [List.getElem?_append_right (by omega)] at hy
      simp [hl] at hy
      subst hy
      have e0 : IntKind.i64.min = -9223372036854775808 := by decide
      have e1 : IntKind.i64.max = 9223372036854775807 := by decide
      rw [e0] at h0
      rw [e1] at h1
      exact ⟨ad, e, hlt, hc, h0, h1⟩
end Go.Proofs.Ytefciibkcafbiaa
