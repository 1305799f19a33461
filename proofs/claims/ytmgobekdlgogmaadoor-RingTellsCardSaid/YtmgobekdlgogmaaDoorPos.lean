/- Where a position lies: the program's answers. -/
import Derived.Test.YtmgobekdlgogmaaDoorParts
namespace Go.Proofs.YtmgobekdlgogmaaDoor
open Go.RowKit

/-- By how many bits a position is shifted, of so many parts. -/
def sh (m : Int) : Int := if m = 1 then 64 else if m = 2 then 63 else if m = 4 then 62 else if m = 8 then 61 else if m = 16 then 60 else if m = 32 then 59 else 58


set_option maxHeartbeats 400000 in
theorem tz_1 (w : World) (h : Tabs w) :
    Calls Tryd.prog 79 #[.int .u64 1] w fun e w' => e = .returned (.int .i64 0) ∧ w = w' := by
  have hc := h.b0
  have e : IntKind.u64.wrap (bits BinOp.and IntKind.u64 1 (IntKind.u64.wrap (-1)) * 285870213051353865) / 288230376151711744 = 0 := by decide +kernel
  go_enter Tryd.func79, Tryd.ntmps79
  go_wp2
  go_ret
  exact ⟨rfl, rfl⟩

set_option maxHeartbeats 400000 in
theorem tz_2 (w : World) (h : Tabs w) :
    Calls Tryd.prog 79 #[.int .u64 2] w fun e w' => e = .returned (.int .i64 1) ∧ w = w' := by
  have hc := h.b1
  have e : IntKind.u64.wrap (bits BinOp.and IntKind.u64 2 (IntKind.u64.wrap (-2)) * 285870213051353865) / 288230376151711744 = 1 := by decide +kernel
  go_enter Tryd.func79, Tryd.ntmps79
  go_wp2
  go_ret
  exact ⟨rfl, rfl⟩

set_option maxHeartbeats 400000 in
theorem tz_4 (w : World) (h : Tabs w) :
    Calls Tryd.prog 79 #[.int .u64 4] w fun e w' => e = .returned (.int .i64 2) ∧ w = w' := by
  have hc := h.b2
  have e : IntKind.u64.wrap (bits BinOp.and IntKind.u64 4 (IntKind.u64.wrap (-4)) * 285870213051353865) / 288230376151711744 = 3 := by decide +kernel
  go_enter Tryd.func79, Tryd.ntmps79
  go_wp2
  go_ret
  exact ⟨rfl, rfl⟩

set_option maxHeartbeats 400000 in
theorem tz_8 (w : World) (h : Tabs w) :
    Calls Tryd.prog 79 #[.int .u64 8] w fun e w' => e = .returned (.int .i64 3) ∧ w = w' := by
  have hc := h.b3
  have e : IntKind.u64.wrap (bits BinOp.and IntKind.u64 8 (IntKind.u64.wrap (-8)) * 285870213051353865) / 288230376151711744 = 7 := by decide +kernel
  go_enter Tryd.func79, Tryd.ntmps79
  go_wp2
  go_ret
  exact ⟨rfl, rfl⟩

set_option maxHeartbeats 400000 in
theorem tz_16 (w : World) (h : Tabs w) :
    Calls Tryd.prog 79 #[.int .u64 16] w fun e w' => e = .returned (.int .i64 4) ∧ w = w' := by
  have hc := h.b4
  have e : IntKind.u64.wrap (bits BinOp.and IntKind.u64 16 (IntKind.u64.wrap (-16)) * 285870213051353865) / 288230376151711744 = 15 := by decide +kernel
  go_enter Tryd.func79, Tryd.ntmps79
  go_wp2
  go_ret
  exact ⟨rfl, rfl⟩

set_option maxHeartbeats 400000 in
theorem tz_32 (w : World) (h : Tabs w) :
    Calls Tryd.prog 79 #[.int .u64 32] w fun e w' => e = .returned (.int .i64 5) ∧ w = w' := by
  have hc := h.b5
  have e : IntKind.u64.wrap (bits BinOp.and IntKind.u64 32 (IntKind.u64.wrap (-32)) * 285870213051353865) / 288230376151711744 = 31 := by decide +kernel
  go_enter Tryd.func79, Tryd.ntmps79
  go_wp2
  go_ret
  exact ⟨rfl, rfl⟩

set_option maxHeartbeats 400000 in
theorem tz_64 (w : World) (h : Tabs w) :
    Calls Tryd.prog 79 #[.int .u64 64] w fun e w' => e = .returned (.int .i64 6) ∧ w = w' := by
  have hc := h.b6
  have e : IntKind.u64.wrap (bits BinOp.and IntKind.u64 64 (IntKind.u64.wrap (-64)) * 285870213051353865) / 288230376151711744 = 63 := by decide +kernel
  go_enter Tryd.func79, Tryd.ntmps79
  go_wp2
  go_ret
  exact ⟨rfl, rfl⟩

/-- The seven numbers of parts, each with what is known of it. -/
theorem tz_any (m : Int) (hm : isPow m = true) (w : World) (h : Tabs w) :
    Calls Tryd.prog 79 #[.int .u64 m] w fun e w' => e = .returned (.int .i64 (64 - sh m)) ∧ w = w' := by
  rcases isPow_cases hm with rfl | rfl | rfl | rfl | rfl | rfl | rfl
  · exact tz_1 w h
  · exact tz_2 w h
  · exact tz_4 w h
  · exact tz_8 w h
  · exact tz_16 w h
  · exact tz_32 w h
  · exact tz_64 w h
theorem sh_bd (m : Int) : 58 ≤ sh m ∧ sh m ≤ 64 := by unfold sh; repeat' split <;> omega
theorem zeros_any (m : Int) (hm : isPow m = true) (w : World) (h : Tabs w) :
    Calls Tryd.prog 67 #[.int .u64 m] w fun e w' => e = .returned (.int .i64 (64 - sh m)) ∧ w = w' := by
  have HT := Lib.hid (tz_any m hm w h)
  have HM := Lib.hid hm
  have hb : 1 ≤ m ∧ m ≤ 64 := by have := isPow_cases hm; omega
  obtain ⟨hlo, hhi⟩ := hb
  clear hm
  go_enter Tryd.func67, Tryd.ntmps67
  go_wp2_with fail
  refine HT.out.mono ?_
  rintro e w' ⟨rfl, rfl⟩
  go_wp2
  go_ret
  exact ⟨rfl, rfl⟩
theorem partBits_any (m : Int) (hm : isPow m = true) (w : World) (h : Tabs w) :
    Calls Tryd.prog 56 #[.int .i64 m] w fun e w' => e = .returned (.int .i64 (sh m)) ∧ w = w' := by
  have HT := Lib.hid (zeros_any m hm w h)
  have HM := Lib.hid hm
  have hb : 1 ≤ m ∧ m ≤ 64 := by have := isPow_cases hm; omega
  obtain ⟨hlo, hhi⟩ := hb
  have hs := sh_bd m
  obtain ⟨slo, shi⟩ := hs
  clear hm
  go_enter Tryd.func56, Tryd.ntmps56
  go_wp2_with fail
  refine HT.out.mono ?_
  rintro e w' ⟨rfl, rfl⟩
  go_wp2
  go_ret
  exact ⟨ret_int (by omega), rfl⟩
end Go.Proofs.YtmgobekdlgogmaaDoor
