/- bytes.Equal and bytes.HasPrefix: their contracts. -/
import Derived.Test.YtaignkjcogmcjaaDStays
import Derived.Lib.SmallJoins
namespace Go.Proofs.Ytaignkjcogmcjaa
open Go.RowKit
open Go.Lib (byteCells byteCells_length)

theorem convert_rd {A : Option Addr} {c lo hi : Nat} {bs : List UInt8} {w : World} (h : RdA w lo hi A bs) : (convert 31 9 (.slice A bs.length c)).run Try.prog w = .ok (.string ⟨bs.toArray⟩) w := by
  by_cases h0 : bs = []
  · subst h0
    cases A with
    | none => rw [show ([] : List UInt8).length = 0 from rfl, run_convert_bytes_string w _ _ 5 none 0 c Try.underlying31 Try.underlying5 Try.underlying9]; rfl
    | some ad => exact run_convert_bytes_back (P := Try.prog) w _ _ 5 ad c [] Try.underlying31 Try.underlying5 Try.underlying9 (fun j hj => absurd hj (by simp))
  · obtain ⟨ad, rfl, _, _, hc⟩ := h (List.length_pos_iff.2 h0)
    exact run_convert_bytes_back (P := Try.prog) w _ _ 5 ad c bs Try.underlying31 Try.underlying5 Try.underlying9 (fun j hj => hc j _ (byteCells_at bs j hj))

set_option maxHeartbeats 800000 in
theorem equalB_any (v1 v2 : Value) (xs ys : List UInt8) (lo1 hi1 lo2 hi2 : Nat) (w : World) (h1 : Rd w lo1 hi1 v1 xs) (h2 : Rd w lo2 hi2 v2 ys) :
    Calls Try.prog 34 #[v1, v2] w fun e w' => e = .returned (.bool (xs == ys)) ∧ ∃ n, w' = w.drewN n := by
  obtain ⟨A, c, rfl, hc, hx⟩ := h1
  obtain ⟨B, d, rfl, hd, hy⟩ := h2
  have e1 := convert_rd (c := c) hx
  have e2 := convert_rd (c := d) hy
  go_enter Try.func34, Try.ntmps34
  go_wp2
  go_ret
  exact ⟨rfl, 0, rfl⟩


theorem RdA.take {w : World} {lo hi : Nat} {A : Option Addr} {xs : List UInt8} (h : RdA w lo hi A xs) (k : Nat) : RdA w lo hi A (xs.take k) := fun h0 => by
  obtain ⟨ad, e, h1, h2, h3⟩ := h (by rw [List.length_take] at h0; omega)
  refine ⟨ad, e, h1, h2, fun j u hu => h3 j u ?_⟩
  have e2 : byteCells (xs.take k) = (byteCells xs).take k := by simp [byteCells, List.map_take]
  rw [e2, List.getElem?_take] at hu
  split at hu
  · exact hu
  · cases hu

/-- Does the first begin with the second? -/
def startsB (xs ys : List UInt8) : Bool := decide (ys.length ≤ xs.length) && (xs.take ys.length == ys)
theorem starts_of {xs ys : List UInt8} (h : ys <+: xs) : startsB xs ys = true := by
  unfold startsB
  rw [Bool.and_eq_true, decide_eq_true_eq, beq_iff_eq]
  exact ⟨h.length_le, (List.prefix_iff_eq_take.1 h).symm⟩

set_option maxHeartbeats 800000 in
theorem hasPrefix_any (v1 v2 : Value) (xs ys : List UInt8) (lo1 hi1 lo2 hi2 : Nat) (w : World) (h1 : Rd w lo1 hi1 v1 xs) (h2 : Rd w lo2 hi2 v2 ys) :
    Calls Try.prog 31 #[v1, v2] w fun e w' => e = .returned (.bool (startsB xs ys)) ∧ ∃ n, w' = w.drewN n := by
  obtain ⟨A, c, rfl, hc, hrx⟩ := h1
  obtain ⟨B, d, rfl, hd, hry⟩ := h2
  by_cases hl : ys.length ≤ xs.length
  · have hl1 : (ys.length : Int) ≤ (xs.length : Int) := by omega
    have hl2 : (ys.length : Int) ≤ (c : Int) := by omega
    have hlt : (xs.take ys.length).length = ys.length := by rw [List.length_take]; omega
    have HE : Hid (Calls Try.prog 34 #[.slice A ys.length c, .slice B ys.length d] w fun e w' => e = .returned (.bool (xs.take ys.length == ys)) ∧ ∃ n, w' = w.drewN n) := Lib.hid (by
      refine equalB_any _ _ (xs.take ys.length) ys lo1 hi1 lo2 hi2 w ⟨A, c, by rw [hlt], by omega, hrx.take _⟩ ⟨B, d, rfl, hd, hry⟩)
    have e : Hid (startsB xs ys = (xs.take ys.length == ys)) := Lib.hid (by unfold startsB; simp [hl])
    rw [e.out]
    obtain ⟨q, hq⟩ : ∃ q, (xs.take ys.length == ys) = q := ⟨_, rfl⟩
    rw [hq]
    rw [hq] at HE
    clear hl hlt hrx hry
    go_enter Try.func31, Try.ntmps31
    go_wp2_with fail
    (with_reducible refine HE.out.mono ?_); rintro e w1 ⟨rfl, k, rfl⟩
    go_wp2
    go_ret
    exact ⟨rfl, k, rfl⟩
  · have hl1 : ¬ (ys.length : Int) ≤ (xs.length : Int) := by omega
    have e : Hid (startsB xs ys = false) := Lib.hid (by unfold startsB; simp [hl])
    rw [e.out]
    clear hl hrx hry
    go_enter Try.func31, Try.ntmps31
    go_wp2
    go_ret
    exact ⟨rfl, 0, rfl⟩
end Go.Proofs.Ytaignkjcogmcjaa
