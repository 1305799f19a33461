/- The walk of IdentHalves. -/
import Derived.Test.YtokhmfdfigbbeaaDoorAwake
namespace Go.Proofs.YtokhmfdfigbbeaaDoor
open Go.RowKit

set_option maxRecDepth 100000 in
set_option maxHeartbeats 800000 in
theorem identHalves_walk (x : Int) (hx0 : 0 ≤ x) (hx1 : x ≤ 18446744073709551615) (m : Int) (hm0 : -9223372036854775808 ≤ m) (hm1 : m ≤ 9223372036854775807) (w : World) (ht : Tabs w) :
    Calls Tryd.prog 8 #[.int .u64 x, .int .i64 m] w fun e w' => e = .returned (.bool true) ∧ Below w.heap.size w w' := by
  have HA := Lib.hid (awake_any w ht)
  by_cases hm : isPow m = true
  · have h1 := partition_yes x hx0 hx1 m hm w ht
    have hp := pos_bd hx0 hx1 hm
    have hm64 : m ≤ 64 := by have := isPow_cases hm; omega
    have hm1' : 1 ≤ m := by have := isPow_cases hm; omega
    by_cases h2 : 2 ≤ m
    · obtain ⟨hh1, hh2⟩ := pow_half hm h2
      have h3 := partition_yes x hx0 hx1 (m / 2) hh1 w ht
      rw [hh2] at h3
      generalize pos x m = p at hp h1 h3
      obtain ⟨hp0, hp1⟩ := hp
      have H1 := Lib.hid h1
      have H3 := Lib.hid h3
      have d1 : decide (m < 2) = false := by simpa using h2
      clear h1 h3 hm hh1 hh2
      go_enter Tryd.func8, Tryd.ntmps8
      go_wp2_with fail
      (with_reducible refine H1.out.mono ?_); rintro e w' ⟨rfl, rfl⟩
      go_wp2_with fail
      (with_reducible refine H3.out.mono ?_); rintro e w' ⟨rfl, rfl⟩
      go_wp2_with fail
      (with_reducible refine HA.out.mono ?_); rintro e w' ⟨rfl, hb⟩
      go_wp2
      go_ret
      exact ⟨rfl, hb⟩
    · generalize pos x m = p at hp h1
      have H1 := Lib.hid h1
      have d1 : decide (m < 2) = true := by simp; omega
      clear h1 hm h2 hp
      go_enter Tryd.func8, Tryd.ntmps8
      go_wp2_with fail
      (with_reducible refine H1.out.mono ?_); rintro e w' ⟨rfl, rfl⟩
      go_wp2_with fail
      (with_reducible refine HA.out.mono ?_); rintro e w' ⟨rfl, hb⟩
      go_wp2
      go_ret
      exact ⟨rfl, hb⟩
  · have hm' : isPow m = false := by simpa using hm
    have H1 := Lib.hid (partition_no x m hm' hm0 hm1 w)
    clear hm hm'
    go_enter Tryd.func8, Tryd.ntmps8
    go_wp2_with fail
    (with_reducible refine H1.out.mono ?_); rintro e w' ⟨rfl, rfl⟩
    go_wp2_with fail
    (with_reducible refine HA.out.mono ?_); rintro e w' ⟨rfl, hb⟩
    go_wp2
    go_ret
    exact ⟨rfl, hb⟩
end Go.Proofs.YtokhmfdfigbbeaaDoor
