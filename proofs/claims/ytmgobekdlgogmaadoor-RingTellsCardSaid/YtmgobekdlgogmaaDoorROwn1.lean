/- Owners of one member. -/
import Derived.Test.YtmgobekdlgogmaaDoorRWalk1
namespace Go.Proofs.YtmgobekdlgogmaaDoor
open Go.RowKit Go.Sort Go.BigFrame
open Go.Lib (byteCells byteCells_length)

theorem ok_one : OkR 2 1 1 [(4, 1, 1, 1)] := by
  refine ⟨by decide, fun j d hd => ?_, fun j a b ha hb => ?_⟩
  · cases j with
    | zero =>
      have e : ((4, 1, 1, 1) : MemA) = d := by simpa using hd
      subst e
      decide
    | succ j => simp at hd
  · simp at hb

set_option maxRecDepth 100000 in
set_option maxHeartbeats 3200000 in
theorem owners_one (v : Value) (w : World) (hT : Tabs w) (h : RdM w v [(4, 1, 1, 1)]) :
    Calls Tryd.prog 43 #[.agg #[.int .i64 2, .int .i64 1, .int .i64 1, v], .int .i64 1] w (GivesI [4] w) := by
  have HV := Lib.hid h
  obtain ⟨A, cap, rfl, _, _⟩ := h
  obtain ⟨m, hm⟩ : ∃ m, Hid (m = [((4, 1, 1, 1) : MemA)].length) := ⟨_, Lib.hid rfl⟩
  rw [← hm.out] at HV ⊢
  obtain ⟨W, hW⟩ : ∃ W, Hid (W = w.alloc (.cells #[.int .i64 2, .int .i64 1, .int .i64 1, .slice A m cap] 24)) := ⟨_, Lib.hid rfl⟩
  have HB : Hid (Below w.heap.size w W) := Lib.hid (by rw [hW.out]; exact (Below.refl _ _).alloc (Nat.le_refl _) _)
  have HZ : Hid (W.heap.size = w.heap.size + 1) := Lib.hid (by rw [hW.out]; simp)
  have b0 : BoxR W w.heap.size 2 1 1 (.slice A m cap) := by rw [hW.out]; exact boxR_new _ _ _ _ _ _
  have B0 := Lib.hid b0
  have HTW := Lib.hid (hT.below HB.out hT.big)
  have HBIG : Hid (3 ≤ W.heap.size) := Lib.hid (Nat.le_trans hT.big HB.out.size)
  have HST := Lib.hid (start_yes 1 2 (by decide) (by decide) (by decide) W HTW.out)
  obtain ⟨st, hst⟩ : ∃ st, Hid (st = start 1 2) := ⟨_, Lib.hid rfl⟩
  rw [← hst.out] at HST
  have HC := Lib.hid (can_any 2 1 1 (.slice A m cap) [(4, 1, 1, 1)] W HTW.out (by decide) (by decide) (HV.out.below HB.out) (by simp))
  obtain ⟨k0, k1, k2, k3⟩ := b0
  clear hT
  go_enter Tryd.func43, Tryd.ntmps43
  go_upto_region 1 with fail
  rw [← hW.out]
  go_wp2_with fail
  (with_reducible refine HST.out.mono ?_); rintro e w1 ⟨rfl, rfl⟩
  go_wp2_with fail
  (with_reducible refine HC.out.mono ?_); rintro e w2 ⟨b, rfl, hbi, hb2⟩
  cases b with
  | false => exact absurd (hbi.2 ok_one) (by decide)
  | true =>
    rw [show canN true = 0 from rfl]
    have HB2 : Hid (Below W.heap.size W w2) := Lib.hid hb2
    have HB02 : Hid (Below w.heap.size w w2) := Lib.hid (HB.out.trans (hb2.mono HB.out.size))
    obtain ⟨j0, j1, j2, j3⟩ : BoxR w2 w.heap.size 2 1 1 (.slice A m cap) := B0.out.below hb2 (by have := HZ.out; omega)
    have HW : Hid (Calls Tryd.prog 60 #[.agg #[.int .i64 2, .int .i64 1, .int .i64 1, .slice A m cap], .int .u64 st] w2 (GivesI [4] w2)) := Lib.hid (walk_one 2 1 4 st 1 (.slice A m cap) w2 ok_one (by decide) (HTW.out.below hb2 HBIG.out) (by decide) (by decide) (HV.out.below HB02.out))
    have HB2B := Lib.hid (B0.out.below hb2 (by have := HZ.out; omega))
    clear hb2 hbi k0 k1 k2 k3
    go_wp2_with fail
    (with_reducible refine HW.out.mono ?_); rintro e w3 ⟨A3, n3, c3, rfl, ho3, hn3, hb3⟩
    have e3 : n3 = 1 := hn3
    subst e3
    have HO3 := Lib.hid ho3
    obtain ⟨q0, q1, q2, q3⟩ : BoxR w3 w.heap.size 2 1 1 (.slice A m cap) := HB2B.out.below hb3 (by have := HB2.out.size; have := HZ.out; omega)
    have HB03 : Hid (Below w.heap.size w w3) := Lib.hid (HB02.out.trans (hb3.mono HB02.out.size))
    obtain ⟨_, c3', e4, hc3, _⟩ := ho3.rd
    have hcap : 1 ≤ c3 := by injection e4 with _ _ e4; rw [e4]; exact hc3
    clear ho3 hn3 hb3 e4 hc3 j0 j1 j2 j3
    go_wp2
    go_ret
    exact ⟨A3, 1, c3, rfl, HO3.out.base_le (by have := HB2.out.size; have := HZ.out; omega), rfl, HB03.out⟩
end Go.Proofs.YtmgobekdlgogmaaDoor
