/- A log that no call made; the opening of a disk that none made. -/
import Derived.Test.YtakmndfcelghfaaGreatDoorDNone
import Derived.Test.YtakmndfcelghfaaGreatDoorDRemove
import Derived.Test.YtakmndfcelghfaaGreatDoorBase
import Derived.Deep.RegionLaw
namespace Go.Proofs.YtakmndfcelghfaaGreatDoor
open Go.RowKit

/-- A log that no call made: nil, or a plain one. -/
def UnmL (w : World) (v : Value) : Prop := v = .pointer none ∨ ∃ g, v = .pointer (some ⟨g, 0, none⟩) ∧ w.cell? ⟨g, 0, none⟩ = some .nilIface
theorem UnmL.below {w w' : World} {d : Value} (h : UnmL w d) (hb : Below w.heap.size w w') : UnmL w' d := by
  rcases h with rfl | ⟨g, rfl, h0⟩
  · exact .inl rfl
  · have := World.block_lt_of_cell? w _ h0
    exact .inr ⟨g, rfl, (hb.cell this).trans h0⟩

set_option maxRecDepth 100000 in
theorem madeL_no (d : Value) (w : World) (h : UnmL w d) : Calls Tryz.prog 12 #[d] w fun e w' => e = .returned (.bool false) ∧ w' = w := by
  have hm : ∀ w : World, (binOp .neq 25 .nilIface .nilIface).run Tryz.prog w = .ok (.bool false) w := fun w => by kernel_rfl
  rcases h with rfl | ⟨g, rfl, h0⟩
  all_goals
    go_enter Tryz.func12, Tryz.ntmps12
    go_wp2
    go_ret
    exact ⟨rfl, rfl⟩

set_option maxRecDepth 100000 in
theorem appendL_no (d v : Value) (w : World) (h : UnmL w d) : Calls Tryz.prog 4 #[d, v] w fun e w' => e = .returned (.int .i64 8) ∧ w' = w := by
  have HM := Lib.hid (madeL_no d w h)
  clear h
  go_enter Tryz.func4, Tryz.ntmps4
  go_wp2_with fail
  (with_reducible refine HM.out.mono ?_); rintro e w1 ⟨rfl, rfl⟩
  go_wp2
  go_ret
  exact ⟨rfl, rfl⟩
set_option maxRecDepth 100000 in
theorem syncL_no (d : Value) (w : World) (h : UnmL w d) : Calls Tryz.prog 6 #[d] w fun e w' => e = .returned (.int .i64 8) ∧ w' = w := by
  have HM := Lib.hid (madeL_no d w h)
  clear h
  go_enter Tryz.func6, Tryz.ntmps6
  go_wp2_with fail
  (with_reducible refine HM.out.mono ?_); rintro e w1 ⟨rfl, rfl⟩
  go_wp2
  go_ret
  exact ⟨rfl, rfl⟩
set_option maxRecDepth 100000 in
theorem replaceL_no (d v : Value) (w : World) (h : UnmL w d) : Calls Tryz.prog 7 #[d, v] w fun e w' => e = .returned (.int .i64 8) ∧ w' = w := by
  have HM := Lib.hid (madeL_no d w h)
  clear h
  go_enter Tryz.func7, Tryz.ntmps7
  go_wp2_with fail
  (with_reducible refine HM.out.mono ?_); rintro e w1 ⟨rfl, rfl⟩
  go_wp2
  go_ret
  exact ⟨rfl, rfl⟩
set_option maxRecDepth 100000 in
theorem segmentsL_no (d : Value) (w : World) (h : UnmL w d) : Calls Tryz.prog 8 #[d] w fun e w' => e = .returned (.slice none 0 0) ∧ w' = w := by
  have HM := Lib.hid (madeL_no d w h)
  clear h
  go_enter Tryz.func8, Tryz.ntmps8
  go_wp2_with fail
  (with_reducible refine HM.out.mono ?_); rintro e w1 ⟨rfl, rfl⟩
  go_wp2
  go_ret
  exact ⟨rfl, rfl⟩
set_option maxRecDepth 100000 in
theorem bytesL_no (d : Value) (w : World) (h : UnmL w d) : Calls Tryz.prog 9 #[d] w fun e w' => e = .returned (.int .i64 0) ∧ Below w.heap.size w w' := by
  have HM := Lib.hid (segmentsL_no d w h)
  clear h
  go_enter Tryz.func9, Tryz.ntmps9
  go_wp2_with fail
  (with_reducible refine HM.out.mono ?_); rintro e w1 ⟨rfl, rfl⟩
  go_wp2
  go_loopw [9, 3] (fun i n wr => (i = .int .i64 0 ∧ n = .int .i64 0) ∧ Below w1.heap.size w1 wr) (fun _ _ _ => 0)
  case atStart => exact ⟨⟨rfl, rfl⟩, Below.refl _ _⟩
  case round =>
    obtain ⟨⟨rfl, rfl⟩, hb⟩ := hrel
    go_wp2
    go_ret
    exact ⟨rfl, hb⟩

set_option maxRecDepth 100000 in
theorem runU_any (d : Value) (g : Nat) (w : World) (h : Unm w d) (c0 : w.cell? ⟨g, 0, none⟩ = some (.iface 39 d)) : Calls Tryz.prog 21 #[.pointer (some ⟨g, 0, none⟩)] w fun e w' => e = .returned (.int .i64 8) ∧ Below w.heap.size w w' := by
  have HM := Lib.hid (remove_no d ⟨#[108, 111, 103, 46, 110, 101, 119]⟩ w h)
  clear h
  go_enter Tryz.func21, Tryz.ntmps21
  go_wp2_with fail
  (with_reducible refine HM.out.mono ?_); rintro e w1 ⟨rfl, hb⟩
  go_wp2
  go_ret
  exact ⟨rfl, hb⟩
set_option maxRecDepth 100000 in
theorem openU_any (d : Value) (w : World) (h : Unm w d) : Calls Tryz.prog 10 #[d] w fun e w' => e = .returned (.tuple #[.pointer none, .slice none 0 0, .int .i64 8]) ∧ Below w.heap.size w w' := by
  have hb : Below w.heap.size w (w.alloc (.cells #[.iface 39 d, .slice none 0 0] 61)) := (Below.refl _ _).alloc (Nat.le_refl _) _
  have HB := Lib.hid hb
  have HM := Lib.hid (runU_any d w.heap.size _ (h.below hb) (World.cell?_alloc_at _ _ _ _ rfl))
  clear h hb
  go_enter Tryz.func10, Tryz.ntmps10
  go_wp2_with fail
  (with_reducible refine HM.out.mono ?_); rintro e w1 ⟨rfl, hb⟩
  go_wp2
  refine bodyPost_ret (results_tmp3 rfl _ _ _) rfl ?_
  exact ⟨rfl, HB.out.trans (hb.mono HB.out.size)⟩
end Go.Proofs.YtakmndfcelghfaaGreatDoor
