/- The walk of IdentParts. -/
import Derived.Test.YtokhmfdfigbbeaaDoorAwake
namespace Go.Proofs.YtokhmfdfigbbeaaDoor
open Go.RowKit

set_option maxHeartbeats 800000 in
theorem identParts_walk (x : Int) (hx0 : 0 ≤ x) (hx1 : x ≤ 18446744073709551615) (k : Int) (_hk0 : -9223372036854775808 ≤ k) (_hk1 : k ≤ 9223372036854775807) (m : Int) (hm0 : -9223372036854775808 ≤ m) (hm1 : m ≤ 9223372036854775807) (w : World) (ht : Tabs w) :
    Calls Tryd.prog 5 #[.int .u64 x, .int .i64 k, .int .i64 m] w fun e w' => e = .returned (.bool true) ∧ Below w.heap.size w w' := by
  have HA := Lib.hid (awake_any w ht)
  by_cases hm : isPow m = true
  · have H1 := Lib.hid (partition_yes x hx0 hx1 m hm w ht)
    have H2 := Lib.hid (refPartition_yes x hx0 hx1 m hm w)
    by_cases hk : 0 ≤ k ∧ k < m
    · have H3 := Lib.hid (start_yes k m hm hk.1 hk.2 w ht)
      have H4 := Lib.hid (refStart_yes k m hm hk.1 hk.2 w)
      clear hm hk
      go_enter Tryd.func5, Tryd.ntmps5
      go_wp2_with fail
      (with_reducible refine H1.out.mono ?_); rintro e w' ⟨rfl, rfl⟩
      go_wp2_with fail
      (with_reducible refine H2.out.mono ?_); rintro e w' ⟨rfl, rfl⟩
      go_wp2_with fail
      (with_reducible refine H3.out.mono ?_); rintro e w' ⟨rfl, rfl⟩
      go_wp2_with fail
      (with_reducible refine H4.out.mono ?_); rintro e w' ⟨rfl, rfl⟩
      go_wp2_with fail
      (with_reducible refine HA.out.mono ?_); rintro e w' ⟨rfl, hb⟩
      go_wp2
      go_ret
      exact ⟨rfl, hb⟩
    · have hk' : k < 0 ∨ m ≤ k := by omega
      have H3 := Lib.hid (start_out k m hm hk' w)
      have H4 := Lib.hid (refStart_out k m hm hk' w)
      clear hm hk hk'
      go_enter Tryd.func5, Tryd.ntmps5
      go_wp2_with fail
      (with_reducible refine H1.out.mono ?_); rintro e w' ⟨rfl, rfl⟩
      go_wp2_with fail
      (with_reducible refine H2.out.mono ?_); rintro e w' ⟨rfl, rfl⟩
      go_wp2_with fail
      (with_reducible refine H3.out.mono ?_); rintro e w' ⟨rfl, rfl⟩
      go_wp2_with fail
      (with_reducible refine H4.out.mono ?_); rintro e w' ⟨rfl, rfl⟩
      go_wp2_with fail
      (with_reducible refine HA.out.mono ?_); rintro e w' ⟨rfl, hb⟩
      go_wp2
      go_ret
      exact ⟨rfl, hb⟩
  · have hm' : isPow m = false := by simpa using hm
    have H1 := Lib.hid (partition_no x m hm' hm0 hm1 w)
    have H2 := Lib.hid (refPartition_no x m hm' w)
    have H3 := Lib.hid (start_no k m hm' hm0 hm1 w)
    have H4 := Lib.hid (refStart_no k m hm' w)
    clear hm hm'
    go_enter Tryd.func5, Tryd.ntmps5
    go_wp2_with fail
    (with_reducible refine H1.out.mono ?_); rintro e w' ⟨rfl, rfl⟩
    go_wp2_with fail
    (with_reducible refine H2.out.mono ?_); rintro e w' ⟨rfl, rfl⟩
    go_wp2_with fail
    (with_reducible refine H3.out.mono ?_); rintro e w' ⟨rfl, rfl⟩
    go_wp2_with fail
    (with_reducible refine H4.out.mono ?_); rintro e w' ⟨rfl, rfl⟩
    go_wp2_with fail
    (with_reducible refine HA.out.mono ?_); rintro e w' ⟨rfl, hb⟩
    go_wp2
    go_ret
    exact ⟨rfl, hb⟩
end Go.Proofs.YtokhmfdfigbbeaaDoor
