/- Where a node lies: the program's. -/
import Derived.Test.YtmgobekdlgogmaaDoorMix
import Derived.Test.YtmgobekdlgogmaaDoorNames
namespace Go.Proofs.YtmgobekdlgogmaaDoor
open Go.RowKit

/-- Where a node lies, the so manieth time. -/
def pointOf (n i : Int) : Nat := if 0 ≤ n ∧ n < 8 ∧ 0 ≤ i ∧ i < 16 then mix (n.toNat + 1) i.toNat else 0

set_option maxHeartbeats 800000 in
theorem point_any (n i : Int) (w : World) (ht : Tabs w) :
    Calls Tryd.prog 80 #[.int .i64 n, .int .i64 i] w fun e w' => e = .returned (.int .u64 (pointOf n i : Int)) ∧ Below w.heap.size w w' := by
  by_cases hn : 0 ≤ n ∧ n < 8
  · obtain ⟨hn0, hn8⟩ := hn
    obtain ⟨k, rfl⟩ := Int.eq_ofNat_of_zero_le hn0
    have HN := Lib.hid (isNode_yes k (by omega) w)
    by_cases hi : 0 ≤ i ∧ i < 16
    · obtain ⟨hi0, hi16⟩ := hi
      obtain ⟨j, rfl⟩ := Int.eq_ofNat_of_zero_le hi0
      have hp : pointOf (k : Int) (j : Int) = mix (k + 1) j := by
        unfold pointOf
        rw [if_pos ⟨hn0, hn8, hi0, hi16⟩]
        simp
      have hm := mix_any (k + 1) j (by omega) (by omega) w ht
      rw [← hp] at hm
      generalize pointOf (k : Int) (j : Int) = r at hm
      rw [show (((k + 1 : Nat)) : Int) = (k : Int) + 1 by omega] at hm
      have HM := Lib.hid hm
      have d1 : decide ((j : Int) < 0) = false := by simp
      have d2 : decide (16 ≤ (j : Int)) = false := by simp; omega
      clear hp hm
      go_enter Tryd.func80, Tryd.ntmps80
      go_wp2_with fail
      (with_reducible refine HN.out.mono ?_); rintro e w' ⟨rfl, rfl⟩
      go_wp2_with fail
      (with_reducible refine HM.out.mono ?_); rintro e w' ⟨rfl, hb⟩
      go_wp2
      go_ret
      exact ⟨rfl, hb⟩
    · have hp : pointOf (k : Int) i = 0 := by unfold pointOf; rw [if_neg (by omega)]
      rw [hp]
      by_cases h0 : i < 0
      · have d1 : decide (i < 0) = true := by simpa using h0
        clear hi hp
        go_enter Tryd.func80, Tryd.ntmps80
        go_wp2_with fail
        (with_reducible refine HN.out.mono ?_); rintro e w' ⟨rfl, rfl⟩
        go_wp2
        go_ret
        exact ⟨rfl, Below.refl _ _⟩
      · have d1 : decide (i < 0) = false := by simpa using h0
        have d2 : decide (16 ≤ i) = true := by simp; omega
        clear hi hp
        go_enter Tryd.func80, Tryd.ntmps80
        go_wp2_with fail
        (with_reducible refine HN.out.mono ?_); rintro e w' ⟨rfl, rfl⟩
        go_wp2
        go_ret
        exact ⟨rfl, Below.refl _ _⟩
  · have hp : pointOf n i = 0 := by unfold pointOf; rw [if_neg (by omega)]
    have HN := Lib.hid (isNode_no n (by omega) w)
    rw [hp]
    clear hp hn
    go_enter Tryd.func80, Tryd.ntmps80
    go_wp2_with fail
    (with_reducible refine HN.out.mono ?_); rintro e w' ⟨rfl, rfl⟩
    go_wp2
    go_ret
    exact ⟨rfl, Below.refl _ _⟩

end Go.Proofs.YtmgobekdlgogmaaDoor
