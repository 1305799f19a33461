/- The walk of IdentBeside. -/
import Derived.Test.YtokhmfdfigbbeaaDoorAwake
namespace Go.Proofs.YtokhmfdfigbbeaaDoor
open Go.RowKit

set_option maxRecDepth 100000 in
set_option maxHeartbeats 800000 in
theorem identBeside_walk (x : Int) (hx0 : 0 ≤ x) (hx1 : x ≤ 18446744073709551615) (m : Int) (hm0 : -9223372036854775808 ≤ m) (hm1 : m ≤ 9223372036854775807) (w : World) (ht : Tabs w) :
    Calls Tryd.prog 7 #[.int .u64 x, .int .i64 m] w fun e w' => e = .returned (.bool true) ∧ Below w.heap.size w w' := by
  have HA := Lib.hid (awake_any w ht)
  by_cases hm : isPow m = true
  · have hp := pos_bd hx0 hx1 hm
    have hs := start_pos (x := x) hm
    have h1 := partition_yes x hx0 hx1 m hm w ht
    generalize pos x m = p at hp hs h1
    obtain ⟨hp0, hp1⟩ := hp
    have hm64 : m ≤ 64 := by have := isPow_cases hm; omega
    have h2 := start_yes p m hm hp0 hp1 w ht
    have hb := start_bd hp0 hp1 hm
    obtain ⟨hs1, hs2⟩ := hs
    have H1 := Lib.hid h1
    clear h1
    by_cases hq : p + 1 < m
    · have h3 := start_yes (p + 1) m hm (by omega) hq w ht
      generalize start (p + 1) m = b at h3 hs2
      generalize start p m = a at h2 hs1 hb
      have H2 := Lib.hid h2
      have H3 := Lib.hid h3
      have d1 : decide (a ≤ x) = true := by simpa using hs1
      have d2 : decide (x < b) = true := by simpa using hs2
      have d3 : decide (p + 1 < m) = true := by simpa using hq
      clear h2 h3 hm
      go_enter Tryd.func7, Tryd.ntmps7
      go_wp2_with fail
      (with_reducible refine H1.out.mono ?_); rintro e w' ⟨rfl, rfl⟩
      go_wp2_with fail
      (with_reducible refine H2.out.mono ?_); rintro e w' ⟨rfl, rfl⟩
      go_wp2_with fail
      (with_reducible refine H3.out.mono ?_); rintro e w' ⟨rfl, rfl⟩
      go_wp2_with fail
      (with_reducible refine HA.out.mono ?_); rintro e w' ⟨rfl, hb⟩
      go_wp2
      go_ret
      exact ⟨rfl, hb⟩
    · have h3 := start_out (p + 1) m hm (.inr (by omega)) w
      generalize start p m = a at h2 hs1 hb
      have H2 := Lib.hid h2
      have H3 := Lib.hid h3
      have d1 : decide (a ≤ x) = true := by simpa using hs1
      have d3 : decide (p + 1 < m) = false := by simpa using hq
      clear h2 h3 hm hs2
      go_enter Tryd.func7, Tryd.ntmps7
      go_wp2_with fail
      (with_reducible refine H1.out.mono ?_); rintro e w' ⟨rfl, rfl⟩
      go_wp2_with fail
      (with_reducible refine H2.out.mono ?_); rintro e w' ⟨rfl, rfl⟩
      go_wp2_with fail
      (with_reducible refine H3.out.mono ?_); rintro e w' ⟨rfl, rfl⟩
      go_wp2_with fail
      (with_reducible refine HA.out.mono ?_); rintro e w' ⟨rfl, hb⟩
      go_wp2
      go_ret
      exact ⟨rfl, hb⟩
  · have hm' : isPow m = false := by simpa using hm
    have H1 := Lib.hid (partition_no x m hm' hm0 hm1 w)
    clear hm hm'
    go_enter Tryd.func7, Tryd.ntmps7
    go_wp2_with fail
    (with_reducible refine H1.out.mono ?_); rintro e w' ⟨rfl, rfl⟩
    go_wp2_with fail
    (with_reducible refine HA.out.mono ?_); rintro e w' ⟨rfl, hb⟩
    go_wp2
    go_ret
    exact ⟨rfl, hb⟩
end Go.Proofs.YtokhmfdfigbbeaaDoor
