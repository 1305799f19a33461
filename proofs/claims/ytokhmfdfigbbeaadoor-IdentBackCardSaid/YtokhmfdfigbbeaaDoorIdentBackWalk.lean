/- The walk of IdentBack. -/
import Derived.Test.YtokhmfdfigbbeaaDoorNode
namespace Go.Proofs.YtokhmfdfigbbeaaDoor
open Go.RowKit

/-- From the second half on: a part's beginning lies in the part. -/
theorem back_pos (k m : Int) (hk0 : 0 ≤ k) (hk1 : k < m) (hm : isPow m = true) (w : World) (ht : Tabs w) :
    Calls Tryd.prog 25 #[.int .u64 (start k m), .int .i64 m] w fun e w' => e = .returned (.tuple #[.int .i64 k, .bool true]) ∧ w = w' := by
  have hb := start_bd hk0 hk1 hm
  have h := partition_yes (start k m) hb.1 hb.2 m hm w ht
  rwa [pos_start hm] at h

set_option maxRecDepth 100000 in
set_option maxHeartbeats 1600000 in
theorem identBack_walk (n : Int) (_hn0 : -9223372036854775808 ≤ n) (_hn1 : n ≤ 9223372036854775807) (k : Int) (_hk0 : -9223372036854775808 ≤ k) (_hk1 : k ≤ 9223372036854775807) (m : Int) (hm0 : -9223372036854775808 ≤ m) (hm1 : m ≤ 9223372036854775807) (w : World) (ht : Tabs w) :
    Calls Tryd.prog 6 #[.int .i64 n, .int .i64 k, .int .i64 m] w fun e w' => e = .returned (.bool true) ∧ Below w.heap.size w w' := by
  have HA := Lib.hid (awake_any w ht)
  have starts : (∃ a : Int, 0 ≤ a ∧ a ≤ 18446744073709551615 ∧ Hid (Calls Tryd.prog 27 #[.int .i64 k, .int .i64 m] w fun e w' => e = .returned (.tuple #[.int .u64 a, .bool true]) ∧ w = w') ∧ Hid (Calls Tryd.prog 25 #[.int .u64 a, .int .i64 m] w fun e w' => e = .returned (.tuple #[.int .i64 k, .bool true]) ∧ w = w')) ∨
      Hid (Calls Tryd.prog 27 #[.int .i64 k, .int .i64 m] w fun e w' => e = .returned (.tuple #[.int .u64 0, .bool false]) ∧ w = w') := by
    by_cases hm : isPow m = true
    · by_cases hk : 0 ≤ k ∧ k < m
      · have hb := start_bd hk.1 hk.2 hm
        exact .inl ⟨start k m, hb.1, hb.2, Lib.hid (start_yes k m hm hk.1 hk.2 w ht), Lib.hid (back_pos k m hk.1 hk.2 hm w ht)⟩
      · exact .inr (Lib.hid (start_out k m hm (by omega) w))
    · exact .inr (Lib.hid (start_no k m (by simpa using hm) hm0 hm1 w))
  by_cases hn : 0 ≤ n ∧ n < 8
  · obtain ⟨hn0, hn8⟩ := hn
    obtain ⟨j, rfl⟩ := Int.eq_ofNat_of_zero_le hn0
    have HN := Lib.hid (name_yes j (by omega) w)
    have HO := Lib.hid (node_yes j (by omega) w)
    have d1 : decide ((j : Int) < 8) = true := by simpa using hn8
    have d2 : decide (0 ≤ (j : Int)) = true := by simp
    rcases starts with ⟨a, ha0, ha1, H3, H4⟩ | H3
    · go_enter Tryd.func6, Tryd.ntmps6
      go_wp2_with fail
      (with_reducible refine HN.out.mono ?_); rintro e w' ⟨rfl, rfl⟩
      go_wp2_with fail
      (with_reducible refine HO.out.mono ?_); rintro e w' ⟨rfl, rfl⟩
      go_wp2_with fail
      (with_reducible refine H3.out.mono ?_); rintro e w' ⟨rfl, rfl⟩
      go_wp2_with fail
      (with_reducible refine H4.out.mono ?_); rintro e w' ⟨rfl, rfl⟩
      go_wp2_with fail
      (with_reducible refine HA.out.mono ?_); rintro e w' ⟨rfl, hb⟩
      go_wp2
      go_ret
      exact ⟨rfl, hb⟩
    · go_enter Tryd.func6, Tryd.ntmps6
      go_wp2_with fail
      (with_reducible refine HN.out.mono ?_); rintro e w' ⟨rfl, rfl⟩
      go_wp2_with fail
      (with_reducible refine HO.out.mono ?_); rintro e w' ⟨rfl, rfl⟩
      go_wp2_with fail
      (with_reducible refine H3.out.mono ?_); rintro e w' ⟨rfl, rfl⟩
      go_wp2_with fail
      (with_reducible refine HA.out.mono ?_); rintro e w' ⟨rfl, hb⟩
      go_wp2
      go_ret
      exact ⟨rfl, hb⟩
  · have hn' : n < 0 ∨ 8 ≤ n := by omega
    have HN := Lib.hid (name_no n hn' w)
    have HO := Lib.hid (node_no .empty (fun k _ => name_ne_empty k) w)
    have d3 : (decide (0 ≤ n) && decide (n < 8)) = false := by simp; omega
    clear hn
    by_cases hneg : n < 0
    · have d1 : decide (0 ≤ n) = false := by simpa using hneg
      clear hn' d3
      rcases starts with ⟨a, ha0, ha1, H3, H4⟩ | H3
      · go_enter Tryd.func6, Tryd.ntmps6
        go_wp2_with fail
        (with_reducible refine HN.out.mono ?_); rintro e w' ⟨rfl, rfl⟩
        go_wp2_with fail
        (with_reducible refine HO.out.mono ?_); rintro e w' ⟨rfl, rfl⟩
        go_wp2_with fail
        (with_reducible refine H3.out.mono ?_); rintro e w' ⟨rfl, rfl⟩
        go_wp2_with fail
        (with_reducible refine H4.out.mono ?_); rintro e w' ⟨rfl, rfl⟩
        go_wp2_with fail
        (with_reducible refine HA.out.mono ?_); rintro e w' ⟨rfl, hb⟩
        go_wp2
        go_ret
        exact ⟨rfl, hb⟩
      · go_enter Tryd.func6, Tryd.ntmps6
        go_wp2_with fail
        (with_reducible refine HN.out.mono ?_); rintro e w' ⟨rfl, rfl⟩
        go_wp2_with fail
        (with_reducible refine HO.out.mono ?_); rintro e w' ⟨rfl, rfl⟩
        go_wp2_with fail
        (with_reducible refine H3.out.mono ?_); rintro e w' ⟨rfl, rfl⟩
        go_wp2_with fail
        (with_reducible refine HA.out.mono ?_); rintro e w' ⟨rfl, hb⟩
        go_wp2
        go_ret
        exact ⟨rfl, hb⟩
    · have d1 : decide (0 ≤ n) = true := by simpa using hneg
      have d2 : decide (n < 8) = false := by simp; omega
      clear hn' d3
      rcases starts with ⟨a, ha0, ha1, H3, H4⟩ | H3
      · go_enter Tryd.func6, Tryd.ntmps6
        go_wp2_with fail
        (with_reducible refine HN.out.mono ?_); rintro e w' ⟨rfl, rfl⟩
        go_wp2_with fail
        (with_reducible refine HO.out.mono ?_); rintro e w' ⟨rfl, rfl⟩
        go_wp2_with fail
        (with_reducible refine H3.out.mono ?_); rintro e w' ⟨rfl, rfl⟩
        go_wp2_with fail
        (with_reducible refine H4.out.mono ?_); rintro e w' ⟨rfl, rfl⟩
        go_wp2_with fail
        (with_reducible refine HA.out.mono ?_); rintro e w' ⟨rfl, hb⟩
        go_wp2
        go_ret
        exact ⟨rfl, hb⟩
      · go_enter Tryd.func6, Tryd.ntmps6
        go_wp2_with fail
        (with_reducible refine HN.out.mono ?_); rintro e w' ⟨rfl, rfl⟩
        go_wp2_with fail
        (with_reducible refine HO.out.mono ?_); rintro e w' ⟨rfl, rfl⟩
        go_wp2_with fail
        (with_reducible refine H3.out.mono ?_); rintro e w' ⟨rfl, rfl⟩
        go_wp2_with fail
        (with_reducible refine HA.out.mono ?_); rintro e w' ⟨rfl, hb⟩
        go_wp2
        go_ret
        exact ⟨rfl, hb⟩
end Go.Proofs.YtokhmfdfigbbeaaDoor
