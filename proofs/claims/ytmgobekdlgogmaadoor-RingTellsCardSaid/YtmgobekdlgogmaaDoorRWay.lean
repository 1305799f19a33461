/- How far behind a position a node's first place is: a number. -/
import Derived.Test.YtmgobekdlgogmaaDoorRSort1
import Derived.Test.YtmgobekdlgogmaaDoorRPoint
namespace Go.Proofs.YtmgobekdlgogmaaDoor
open Go.RowKit Go.Sort Go.BigFrame
open Go.Lib (byteCells byteCells_length)

/-- Some number. -/
def SomeU (w : World) (e : Ending) (w' : World) : Prop := ∃ u : Int, e = .returned (.int .u64 u) ∧ Below w.heap.size w w'

set_option maxRecDepth 100000 in
set_option maxHeartbeats 3200000 in
theorem wayTo_any (p c node q : Int) (n : Nat) (hn : n ≤ 16) (A : Option Addr) (m cap : Nat) (w : World) (hT : Tabs w) :
    Calls Tryd.prog 68 #[.agg #[.int .i64 p, .int .i64 c, .int .i64 (n : Int), .slice A m cap], .int .i64 node, .int .u64 q] w (SomeU w) := by
  obtain ⟨W, hW⟩ : ∃ W, Hid (W = w.alloc (.cells #[.int .i64 p, .int .i64 c, .int .i64 (n : Int), .slice A m cap] 24)) := ⟨_, Lib.hid rfl⟩
  have HB : Hid (Below w.heap.size w W) := Lib.hid (by rw [hW.out]; exact (Below.refl _ _).alloc (Nat.le_refl _) _)
  have k2 : W.cell? ⟨w.heap.size, 2, none⟩ = some (.int .i64 (n : Int)) := by rw [hW.out]; exact box_cellR _ _ _ 2
  have HT := Lib.hid (hT.below HB.out hT.big)
  clear hT
  go_enter Tryd.func68, Tryd.ntmps68
  go_upto_region 1 with fail
  rw [← hW.out]
  go_wp2
  go_loopw [7, 11] (fun x i wr => ∃ (k : Nat) (u : Int), k ≤ n ∧ x = .int .u64 u ∧ i = .int .i64 k ∧ Below W.heap.size W wr) (fun _ i _ => n - (intOf i).toNat)
  case atStart => exact ⟨0, _, Nat.zero_le _, rfl, rfl, Below.refl _ _⟩
  case round =>
    obtain ⟨k, u, hk, rfl, rfl, hb⟩ := hrel
    have HBR := Lib.hid hb
    by_cases hlt : k < n
    · have HP := Lib.hid (point_any node k wr (HT.out.below hb HT.out.big))
      clear hb
      go_wp2_with fail
      (with_reducible refine HP.out.mono ?_); rintro e w1 ⟨rfl, hb1⟩
      have HB1 : Hid (Below W.heap.size W w1) := Lib.hid (HBR.out.trans (hb1.mono HBR.out.size))
      clear hb1
      go_wp2
      go_roundw
      case rel => exact ⟨k + 1, _, by omega, rfl, by go_num, HB1.out⟩
      case measure => simp [intOf]; omega
    · clear hb
      go_wp2
      go_ret
      exact ⟨_, rfl, HB.out.trans (HBR.out.mono HB.out.size)⟩
end Go.Proofs.YtmgobekdlgogmaaDoor
