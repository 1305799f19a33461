/- Numbers of parts. -/
import Derived.Test.YtmgobekdlgogmaaDoorIBase
namespace Go.Proofs.YtmgobekdlgogmaaDoor
open Go.RowKit

set_option maxHeartbeats 400000 in
theorem canParts_no (m : Int) (h : isPow m = false) (h1 : -9223372036854775808 ≤ m) (h2 : m ≤ 9223372036854775807) (w : World) :
    Calls Tryd.prog 55 #[.int .i64 m] w fun e w' => e = .returned (.bool false) ∧ w = w' := by
  by_cases hlo : 1 ≤ m
  · by_cases hhi : m ≤ 64
    · obtain ⟨n, rfl⟩ := Int.eq_ofNat_of_zero_le (show 0 ≤ m by omega)
      have hp : (pop n == 1) = false := (pop_is n (by omega)).trans h
      have H := Lib.hid h
      clear h
      go_enter Tryd.func55, Tryd.ntmps55
      go_wp2_with fail
      refine (ones_any n w).mono ?_
      rintro e w' ⟨rfl, rfl⟩
      go_wp2
      go_ret
      exact ⟨rfl, rfl⟩
    · have hd : decide (m ≤ 64) = false := by simpa using hhi
      have H := Lib.hid h
      clear h
      go_enter Tryd.func55, Tryd.ntmps55
      go_wp2
      go_ret
      exact ⟨rfl, rfl⟩
  · have hd : decide (1 ≤ m) = false := by simpa using hlo
    have H := Lib.hid h
    clear h
    go_enter Tryd.func55, Tryd.ntmps55
    go_wp2
    go_ret
    exact ⟨rfl, rfl⟩

set_option maxHeartbeats 400000 in
theorem canParts_yes (m : Int) (h : isPow m = true) (w : World) :
    Calls Tryd.prog 55 #[.int .i64 m] w fun e w' => e = .returned (.bool true) ∧ w = w' := by
  have hb : 1 ≤ m ∧ m ≤ 64 := by have := isPow_cases h; omega
  obtain ⟨hlo, hhi⟩ := hb
  obtain ⟨n, rfl⟩ := Int.eq_ofNat_of_zero_le (show 0 ≤ m by omega)
  have hp : (pop n == 1) = true := (pop_is n (by omega)).trans h
  have H := Lib.hid h
  clear h
  go_enter Tryd.func55, Tryd.ntmps55
  go_wp2_with fail
  refine (ones_any n w).mono ?_
  rintro e w' ⟨rfl, rfl⟩
  go_wp2
  go_ret
  exact ⟨rfl, rfl⟩
end Go.Proofs.YtmgobekdlgogmaaDoor
