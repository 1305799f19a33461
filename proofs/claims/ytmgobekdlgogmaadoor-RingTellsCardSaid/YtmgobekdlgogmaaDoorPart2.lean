/- Partition and Start: the program's answers. -/
import Derived.Test.YtmgobekdlgogmaaDoorPos
namespace Go.Proofs.YtmgobekdlgogmaaDoor
open Go.RowKit

/-- The partition of a position; where a part begins. -/
def pos (x m : Int) : Int := x / 2 ^ (sh m).toNat
def start (k m : Int) : Int := k * 2 ^ (sh m).toNat
theorem pos_bd {x m : Int} (h0 : 0 ≤ x) (h1 : x ≤ 18446744073709551615) (hm : isPow m = true) : 0 ≤ pos x m ∧ pos x m < m := by
  rcases isPow_cases hm with rfl | rfl | rfl | rfl | rfl | rfl | rfl <;> simp [pos, sh] <;> omega
theorem start_bd {k m : Int} (h0 : 0 ≤ k) (h1 : k < m) (hm : isPow m = true) : 0 ≤ start k m ∧ start k m ≤ 18446744073709551615 := by
  rcases isPow_cases hm with rfl | rfl | rfl | rfl | rfl | rfl | rfl <;> simp [start, sh] <;> omega
theorem pos_start {k m : Int} (hm : isPow m = true) : pos (start k m) m = k := by
  rcases isPow_cases hm with rfl | rfl | rfl | rfl | rfl | rfl | rfl <;> simp [pos, start, sh]
theorem start_pos {x m : Int} (hm : isPow m = true) : start (pos x m) m ≤ x ∧ x < start (pos x m + 1) m := by
  rcases isPow_cases hm with rfl | rfl | rfl | rfl | rfl | rfl | rfl <;> simp [pos, start, sh] <;> omega
theorem pow_half {m : Int} (hm : isPow m = true) (h2 : 2 ≤ m) : isPow (m / 2) = true ∧ ∀ x, pos x (m / 2) = pos x m / 2 := by
  rcases isPow_cases hm with rfl | rfl | rfl | rfl | rfl | rfl | rfl
  · omega
  all_goals
    refine ⟨by decide, fun x => ?_⟩
    simp [pos, sh]
    omega
theorem wrap64_small {x : Int} (h0 : 0 ≤ x) (h1 : x ≤ 64) : wrap64 x = x := by unfold wrap64; omega
theorem u64_small {x : Int} (h0 : 0 ≤ x) (h1 : x ≤ 18446744073709551615) : IntKind.u64.wrap x = x := by rw [IntKind.wrap_u64]; omega
theorem ret_pair {k : IntKind} {a b : Int} {c : Bool} (h : a = b) : Ending.returned (.tuple #[.int k a, .bool c]) = .returned (.tuple #[.int k b, .bool c]) := by rw [h]

set_option maxHeartbeats 400000 in
theorem partition_yes (x : Int) (h0 : 0 ≤ x) (hx : x ≤ 18446744073709551615) (m : Int) (hm : isPow m = true) (w : World) (h : Tabs w) :
    Calls Tryd.prog 39 #[.int .u64 x, .int .i64 m] w fun e w' => e = .returned (.tuple #[.int .i64 (pos x m), .bool true]) ∧ w = w' := by
  have HC := Lib.hid (canParts_yes m hm w)
  have HT := Lib.hid (partBits_any m hm w h)
  have HP := Lib.hid (pos_bd h0 hx hm)
  have hb : 1 ≤ m ∧ m ≤ 64 := by have := isPow_cases hm; omega
  obtain ⟨hlo, hhi⟩ := hb
  have hs := sh_bd m
  obtain ⟨slo, shi⟩ := hs
  clear hm
  go_enter Tryd.func39, Tryd.ntmps39
  go_wp2_with fail
  refine HC.out.mono ?_
  rintro e w' ⟨rfl, rfl⟩
  go_wp2_with fail
  refine HT.out.mono ?_
  rintro e w' ⟨rfl, rfl⟩
  go_wp2
  go_ret2
  exact ⟨ret_pair (wrap64_small HP.out.1 (Int.le_trans (Int.le_of_lt HP.out.2) hhi)), rfl⟩

set_option maxHeartbeats 400000 in
theorem partition_no (x m : Int) (hm : isPow m = false) (h1 : -9223372036854775808 ≤ m) (h2 : m ≤ 9223372036854775807) (w : World) :
    Calls Tryd.prog 39 #[.int .u64 x, .int .i64 m] w fun e w' => e = .returned (.tuple #[.int .i64 0, .bool false]) ∧ w = w' := by
  have HC := Lib.hid (canParts_no m hm h1 h2 w)
  clear hm
  go_enter Tryd.func39, Tryd.ntmps39
  go_wp2_with fail
  refine HC.out.mono ?_
  rintro e w' ⟨rfl, rfl⟩
  go_wp2
  go_ret2
  exact ⟨rfl, rfl⟩

set_option maxHeartbeats 400000 in
theorem start_yes (k : Int) (m : Int) (hm : isPow m = true) (h0 : 0 ≤ k) (h1 : k < m) (w : World) (h : Tabs w) :
    Calls Tryd.prog 52 #[.int .i64 k, .int .i64 m] w fun e w' => e = .returned (.tuple #[.int .u64 (start k m), .bool true]) ∧ w = w' := by
  have HC := Lib.hid (canParts_yes m hm w)
  have HT := Lib.hid (partBits_any m hm w h)
  have HP := Lib.hid (start_bd h0 h1 hm)
  have hb : 1 ≤ m ∧ m ≤ 64 := by have := isPow_cases hm; omega
  obtain ⟨hlo, hhi⟩ := hb
  have hs := sh_bd m
  obtain ⟨slo, shi⟩ := hs
  clear hm
  go_enter Tryd.func52, Tryd.ntmps52
  go_wp2_with fail
  refine HC.out.mono ?_
  rintro e w' ⟨rfl, rfl⟩
  go_wp2_with fail
  refine HT.out.mono ?_
  rintro e w' ⟨rfl, rfl⟩
  go_wp2
  go_ret2
  exact ⟨ret_pair (u64_small HP.out.1 HP.out.2), rfl⟩

set_option maxHeartbeats 400000 in
theorem start_out (k : Int) (m : Int) (hm : isPow m = true) (h0 : k < 0 ∨ m ≤ k) (w : World) :
    Calls Tryd.prog 52 #[.int .i64 k, .int .i64 m] w fun e w' => e = .returned (.tuple #[.int .u64 0, .bool false]) ∧ w = w' := by
  have HC := Lib.hid (canParts_yes m hm w)
  have hb : 1 ≤ m ∧ m ≤ 64 := by have := isPow_cases hm; omega
  obtain ⟨hlo, hhi⟩ := hb
  clear hm
  by_cases hk : k < 0
  · clear h0
    go_enter Tryd.func52, Tryd.ntmps52
    go_wp2_with fail
    refine HC.out.mono ?_
    rintro e w' ⟨rfl, rfl⟩
    go_wp2
    go_ret2
    exact ⟨rfl, rfl⟩
  · have hk2 : m ≤ k := by omega
    clear h0
    go_enter Tryd.func52, Tryd.ntmps52
    go_wp2_with fail
    refine HC.out.mono ?_
    rintro e w' ⟨rfl, rfl⟩
    go_wp2
    go_ret2
    exact ⟨rfl, rfl⟩

set_option maxHeartbeats 400000 in
theorem start_no (k : Int) (m : Int) (hm : isPow m = false) (h1 : -9223372036854775808 ≤ m) (h2 : m ≤ 9223372036854775807) (w : World) :
    Calls Tryd.prog 52 #[.int .i64 k, .int .i64 m] w fun e w' => e = .returned (.tuple #[.int .u64 0, .bool false]) ∧ w = w' := by
  have HC := Lib.hid (canParts_no m hm h1 h2 w)
  clear hm
  go_enter Tryd.func52, Tryd.ntmps52
  go_wp2_with fail
  refine HC.out.mono ?_
  rintro e w' ⟨rfl, rfl⟩
  go_wp2
  go_ret2
  exact ⟨rfl, rfl⟩

/-- The document's own: by how many bits. -/
def shiftOf (m : Int) : Int := if isPow m then sh m else -1
def ShRel (m : Int) (n p : Value) : Prop := (n = .int .i64 64 ∧ p = .int .i64 1) ∨ (n = .int .i64 63 ∧ p = .int .i64 2 ∧ m ≠ 1) ∨ (n = .int .i64 62 ∧ p = .int .i64 4 ∧ m ≠ 1 ∧ m ≠ 2) ∨ (n = .int .i64 61 ∧ p = .int .i64 8 ∧ m ≠ 1 ∧ m ≠ 2 ∧ m ≠ 4) ∨ (n = .int .i64 60 ∧ p = .int .i64 16 ∧ m ≠ 1 ∧ m ≠ 2 ∧ m ≠ 4 ∧ m ≠ 8) ∨ (n = .int .i64 59 ∧ p = .int .i64 32 ∧ m ≠ 1 ∧ m ≠ 2 ∧ m ≠ 4 ∧ m ≠ 8 ∧ m ≠ 16) ∨ (n = .int .i64 58 ∧ p = .int .i64 64 ∧ m ≠ 1 ∧ m ≠ 2 ∧ m ≠ 4 ∧ m ≠ 8 ∧ m ≠ 16 ∧ m ≠ 32) ∨ (n = .int .i64 57 ∧ p = .int .i64 128 ∧ m ≠ 1 ∧ m ≠ 2 ∧ m ≠ 4 ∧ m ≠ 8 ∧ m ≠ 16 ∧ m ≠ 32 ∧ m ≠ 64)
def leftOf (p : Int) : Nat := if p = 1 then 7 else if p = 2 then 6 else if p = 4 then 5 else if p = 8 then 4 else if p = 16 then 3 else if p = 32 then 2 else if p = 64 then 1 else 0

set_option maxRecDepth 100000 in
set_option maxHeartbeats 1600000 in
theorem shift_any (m : Int) (w : World) :
    Calls Tryd.prog 58 #[.int .i64 m] w fun e w' => e = .returned (.int .i64 (shiftOf m)) ∧ w = w' := by
  go_enter Tryd.func58, Tryd.ntmps58
  go_wp2
  go_loop [3, 4] (fun n p => ShRel m n p) (fun _ p => leftOf (intOf p))
  case atStart => exact .inl ⟨rfl, rfl⟩
  case round =>
    rcases hrel with ⟨rfl, rfl⟩ | ⟨rfl, rfl, h1⟩ | ⟨rfl, rfl, h1, h2⟩ | ⟨rfl, rfl, h1, h2, h4⟩ | ⟨rfl, rfl, h1, h2, h4, h8⟩ | ⟨rfl, rfl, h1, h2, h4, h8, h16⟩ | ⟨rfl, rfl, h1, h2, h4, h8, h16, h32⟩ | ⟨rfl, rfl, h1, h2, h4, h8, h16, h32, h64⟩
    · by_cases h1 : m = 1
      · subst h1
        go_wp2
        go_ret
        exact ⟨rfl, rfl⟩
      · have hq : ((1 : Int) == m) = false := beq_eq_false_iff_ne.2 (fun e => h1 e.symm)
        go_wp2
        go_round
        case rel => exact .inr (.inl ⟨rfl, rfl, h1⟩)
        case measure => simp [intOf, leftOf]
    · by_cases h2 : m = 2
      · subst h2
        go_wp2
        go_ret
        exact ⟨rfl, rfl⟩
      · have hq : ((2 : Int) == m) = false := beq_eq_false_iff_ne.2 (fun e => h2 e.symm)
        go_wp2
        go_round
        case rel => exact .inr (.inr (.inl ⟨rfl, rfl, h1, h2⟩))
        case measure => simp [intOf, leftOf]
    · by_cases h4 : m = 4
      · subst h4
        go_wp2
        go_ret
        exact ⟨rfl, rfl⟩
      · have hq : ((4 : Int) == m) = false := beq_eq_false_iff_ne.2 (fun e => h4 e.symm)
        go_wp2
        go_round
        case rel => exact .inr (.inr (.inr (.inl ⟨rfl, rfl, h1, h2, h4⟩)))
        case measure => simp [intOf, leftOf]
    · by_cases h8 : m = 8
      · subst h8
        go_wp2
        go_ret
        exact ⟨rfl, rfl⟩
      · have hq : ((8 : Int) == m) = false := beq_eq_false_iff_ne.2 (fun e => h8 e.symm)
        go_wp2
        go_round
        case rel => exact .inr (.inr (.inr (.inr (.inl ⟨rfl, rfl, h1, h2, h4, h8⟩))))
        case measure => simp [intOf, leftOf]
    · by_cases h16 : m = 16
      · subst h16
        go_wp2
        go_ret
        exact ⟨rfl, rfl⟩
      · have hq : ((16 : Int) == m) = false := beq_eq_false_iff_ne.2 (fun e => h16 e.symm)
        go_wp2
        go_round
        case rel => exact .inr (.inr (.inr (.inr (.inr (.inl ⟨rfl, rfl, h1, h2, h4, h8, h16⟩)))))
        case measure => simp [intOf, leftOf]
    · by_cases h32 : m = 32
      · subst h32
        go_wp2
        go_ret
        exact ⟨rfl, rfl⟩
      · have hq : ((32 : Int) == m) = false := beq_eq_false_iff_ne.2 (fun e => h32 e.symm)
        go_wp2
        go_round
        case rel => exact .inr (.inr (.inr (.inr (.inr (.inr (.inl ⟨rfl, rfl, h1, h2, h4, h8, h16, h32⟩))))))
        case measure => simp [intOf, leftOf]
    · by_cases h64 : m = 64
      · subst h64
        go_wp2
        go_ret
        exact ⟨rfl, rfl⟩
      · have hq : ((64 : Int) == m) = false := beq_eq_false_iff_ne.2 (fun e => h64 e.symm)
        go_wp2
        go_round
        case rel => exact .inr (.inr (.inr (.inr (.inr (.inr (.inr (⟨rfl, rfl, h1, h2, h4, h8, h16, h32, h64⟩)))))))
        case measure => simp [intOf, leftOf]
    · have hs : shiftOf m = -1 := by
        unfold shiftOf
        rw [if_neg]
        intro hm
        have := isPow_cases hm
        omega
      have HS := Lib.hid hs
      clear hs
      go_wp2
      go_ret
      exact ⟨ret_int HS.out.symm, rfl⟩

set_option maxHeartbeats 400000 in
theorem refPartition_yes (x : Int) (h0 : 0 ≤ x) (hx : x ≤ 18446744073709551615) (m : Int) (hm : isPow m = true) (w : World) :
    Calls Tryd.prog 41 #[.int .u64 x, .int .i64 m] w fun e w' => e = .returned (.tuple #[.int .i64 (pos x m), .bool true]) ∧ w = w' := by
  have e0 : shiftOf m = sh m := by unfold shiftOf; rw [if_pos hm]
  have HT := shift_any m w
  rw [e0] at HT
  have HT := Lib.hid HT
  have HP := Lib.hid (pos_bd h0 hx hm)
  have HM := Lib.hid hm
  have hb : 1 ≤ m ∧ m ≤ 64 := by have := isPow_cases hm; omega
  obtain ⟨hlo, hhi⟩ := hb
  have hs := sh_bd m
  obtain ⟨slo, shi⟩ := hs
  have hneg : decide (sh m < 0) = false := by simp; omega
  clear hm e0
  go_enter Tryd.func41, Tryd.ntmps41
  go_wp2_with fail
  refine HT.out.mono ?_
  rintro e w' ⟨rfl, rfl⟩
  go_wp2
  go_ret2
  exact ⟨ret_pair (wrap64_small HP.out.1 (Int.le_trans (Int.le_of_lt HP.out.2) hhi)), rfl⟩

set_option maxHeartbeats 400000 in
theorem refPartition_no (x m : Int) (hm : isPow m = false) (w : World) :
    Calls Tryd.prog 41 #[.int .u64 x, .int .i64 m] w fun e w' => e = .returned (.tuple #[.int .i64 0, .bool false]) ∧ w = w' := by
  have e0 : shiftOf m = -1 := by unfold shiftOf; rw [hm]; rfl
  have HT := shift_any m w
  rw [e0] at HT
  have HT := Lib.hid HT
  clear hm e0
  go_enter Tryd.func41, Tryd.ntmps41
  go_wp2_with fail
  refine HT.out.mono ?_
  rintro e w' ⟨rfl, rfl⟩
  go_wp2
  go_ret2
  exact ⟨rfl, rfl⟩

end Go.Proofs.YtmgobekdlgogmaaDoor
