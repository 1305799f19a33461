/- awake: a program that joins nobody is told. -/
import Derived.Test.YtmgobekdlgogmaaDoorROwn1
namespace Go.Proofs.YtmgobekdlgogmaaDoor
open Go.RowKit Go.Sort Go.BigFrame
open Go.Lib (byteCells byteCells_length)

theorem rdI_lit (w : World) (x : Int) : RdI (w.alloc (.cells #[.int .i64 x] 3)) (.slice (some ⟨w.heap.size, 0, none⟩) 1 1) [x] := by
  refine ⟨some ⟨w.heap.size, 0, none⟩, 1, rfl, Nat.le_refl _, fun j d hd => ?_⟩
  cases j with
  | zero =>
    have e : x = d := by simpa using hd
    subst e
    exact ⟨_, rfl, by simp, box_cellR w _ _ 0⟩
  | succ j => simp at hd

set_option maxRecDepth 100000 in
set_option maxHeartbeats 6400000 in
theorem awake_ring : AwakeSpec := by
  intro w hT
  have HT := Lib.hid hT
  have HN : Hid (Calls Tryd.prog 8 #[.int .i64 2, .int .i64 1, .int .i64 1] w fun e w' => e = .returned (.tuple #[.agg #[.int .i64 2, .int .i64 1, .int .i64 1, .slice none 0 0], .int .i64 0]) ∧ Below w.heap.size w w') := Lib.hid (new_any 2 1 1 w hT (by decide) (by decide))
  clear hT
  go_enter Tryd.func21, Tryd.ntmps21
  go_wp2_with fail
  (with_reducible refine HN.out.mono ?_); rintro e w1 ⟨rfl, hb1⟩
  obtain ⟨W1, hW1⟩ : ∃ W1, Hid (W1 = w1.alloc (.cells #[.int .i64 2, .int .i64 1, .int .i64 1, .slice none 0 0] 24)) := ⟨_, Lib.hid rfl⟩
  have HBA : Hid (Below w1.heap.size w1 W1) := Lib.hid (by rw [hW1.out]; exact (Below.refl _ _).alloc (Nat.le_refl _) _)
  have HB1 : Hid (Below w.heap.size w W1) := Lib.hid (hb1.trans (HBA.out.mono hb1.size))
  have HS1 : Hid (w.heap.size ≤ w1.heap.size) := Lib.hid hb1.size
  have HZ1 : Hid (W1.heap.size = w1.heap.size + 1) := Lib.hid (by rw [hW1.out]; simp)
  have HR1 : Hid (W1.heap[w1.heap.size]? = some (.cells #[.int .i64 2, .int .i64 1, .int .i64 1, .slice none 0 0] 24 (0, 0))) := Lib.hid (by rw [hW1.out]; exact heap_alloc_new w1 _)
  have k0 := cell_of_row W1 _ 0 _ _ (0, 0) HR1.out
  have k1 := cell_of_row W1 _ 1 _ _ (0, 0) HR1.out
  have k2 := cell_of_row W1 _ 2 _ _ (0, 0) HR1.out
  have k3 := cell_of_row W1 _ 3 _ _ (0, 0) HR1.out
  have HJ := Lib.hid (join_first 2 1 1 4 W1 (by decide) (by decide) (by decide) (HT.out.below HB1.out HT.out.big) (by decide) (by decide))
  clear hb1
  go_upto_region 2 with fail
  rw [← hW1.out]
  go_wp2_with fail
  (with_reducible refine HJ.out.mono ?_); rintro e w2 ⟨A2, n2, c2, rfl, ho2, hb2⟩
  have r2 := (hb2.block w1.heap.size (by have := HZ1.out; omega)).trans HR1.out
  have R2 := Lib.hid r2
  have f0 := frozen_of_row w2 _ 0 _ _ r2
  have f1 := frozen_of_row w2 _ 1 _ _ r2
  have f2 := frozen_of_row w2 _ 2 _ _ r2
  have f3 := frozen_of_row w2 _ 3 _ _ r2
  have m0 := cell_of_row w2 _ 0 _ _ (0, 0) r2
  have m1 := cell_of_row w2 _ 1 _ _ (0, 0) r2
  have m2 := cell_of_row w2 _ 2 _ _ (0, 0) r2
  have m3 := cell_of_row w2 _ 3 _ _ (0, 0) r2
  obtain ⟨U, hU⟩ : ∃ U, Hid (U = (((w2.setCell ⟨w1.heap.size, 0, none⟩ (.int .i64 2)).setCell ⟨w1.heap.size, 1, none⟩ (.int .i64 1)).setCell ⟨w1.heap.size, 2, none⟩ (.int .i64 1)).setCell ⟨w1.heap.size, 3, none⟩ (.slice A2 n2 c2)) := ⟨_, Lib.hid rfl⟩
  have HRU : Hid (U.heap[w1.heap.size]? = some (.cells #[.int .i64 2, .int .i64 1, .int .i64 1, .slice A2 n2 c2] 24 (0, 0))) := Lib.hid (by rw [hU.out]; exact set4 R2.out _ _ _ _)
  have HOU : Hid (OwnM 40 U W1.heap.size (.slice A2 n2 c2) [(4, 1, 1, 1)]) := Lib.hid (by rw [hU.out]; exact ownM_set4 ho2 (by have := HZ1.out; omega) _ _ _ _)
  have HBU : Hid (Below w.heap.size w U) := Lib.hid (by rw [hU.out]; exact below_set4 (HB1.out.trans (hb2.mono HB1.out.size)) HS1.out _ _ _ _)
  have HTU := Lib.hid (HT.out.below HBU.out HT.out.big)
  have HBIG : Hid (3 ≤ U.heap.size) := Lib.hid (Nat.le_trans HT.out.big HBU.out.size)
  have HLU : Hid (w1.heap.size < U.heap.size) := Lib.hid (Array.getElem?_eq_some_iff.1 HRU.out).1
  have BU : BoxR U w1.heap.size 2 1 1 (.slice A2 n2 c2) := ⟨cell_of_row U _ 0 _ _ (0, 0) HRU.out, cell_of_row U _ 1 _ _ (0, 0) HRU.out, cell_of_row U _ 2 _ _ (0, 0) HRU.out, cell_of_row U _ 3 _ _ (0, 0) HRU.out⟩
  have HBX := Lib.hid BU
  have HI := Lib.hid (in_yes 2 1 1 (.slice A2 n2 c2) [(4, 1, 1, 1)] U ok_one HTU.out (by decide) (by decide) HOU.out.rd (by simp))
  rw [show inOf [((4, 1, 1, 1) : MemA)] = [4] from rfl] at HI
  obtain ⟨u0, u1, u2, u3⟩ := BU
  clear r2 ho2 hb2 k0 k1 k2 k3
  go_upto_region 5 with fail
  rw [← hU.out]
  clear f0 f1 f2 f3 m0 m1 m2 m3
  go_wp2_with fail
  (with_reducible refine HI.out.mono ?_); rintro e w3 ⟨A3, n3, c3, rfl, ho3, hn3, hb3⟩
  have e3 : n3 = 1 := hn3
  subst e3
  have HB3 : Hid (Below U.heap.size U w3) := Lib.hid hb3
  obtain ⟨W3, hW3⟩ : ∃ W3, Hid (W3 = w3.alloc (.cells #[.int .i64 4] 3)) := ⟨_, Lib.hid rfl⟩
  have HBW3 : Hid (Below w3.heap.size w3 W3) := Lib.hid (by rw [hW3.out]; exact (Below.refl _ _).alloc (Nat.le_refl _) _)
  have HU3 : Hid (Below U.heap.size U W3) := Lib.hid (hb3.trans (HBW3.out.mono hb3.size))
  have HE := Lib.hid (equalInt_any (.slice A3 1 c3) (.slice (some ⟨w3.heap.size, 0, none⟩) 1 1) [4] [4] W3 (ho3.rd.below HBW3.out) (by rw [hW3.out]; exact rdI_lit w3 4) (by simp))
  clear hb3 ho3 hn3 u0 u1 u2 u3
  rw [hW3.out] at HE
  go_wp2_with fail
  (with_reducible refine HE.out.mono ?_); rintro e w5 ⟨b5, rfl, hbi5, hb5⟩
  obtain rfl : b5 = true := hbi5.2 (by simp)
  rw [← hW3.out] at hb5
  have HU5 : Hid (Below U.heap.size U w5) := Lib.hid (HU3.out.trans (hb5.mono HU3.out.size))
  obtain ⟨j0, j1, j2, j3⟩ : BoxR w5 w1.heap.size 2 1 1 (.slice A2 n2 c2) := HBX.out.below HU5.out HLU.out
  have HO := Lib.hid (owners_one (.slice A2 n2 c2) w5 (HTU.out.below HU5.out HBIG.out) (HOU.out.rd.below HU5.out))
  clear hb5 hbi5
  go_wp2_with fail
  (with_reducible refine HO.out.mono ?_); rintro e w6 ⟨A6, n6, c6, rfl, ho6, hn6, hb6⟩
  have e6 : n6 = 1 := hn6
  subst e6
  obtain ⟨W6, hW6⟩ : ∃ W6, Hid (W6 = w6.alloc (.cells #[.int .i64 4] 3)) := ⟨_, Lib.hid rfl⟩
  have HBW6 : Hid (Below w6.heap.size w6 W6) := Lib.hid (by rw [hW6.out]; exact (Below.refl _ _).alloc (Nat.le_refl _) _)
  have HU6 : Hid (Below U.heap.size U W6) := Lib.hid ((HU5.out.trans (hb6.mono HU5.out.size)).trans (HBW6.out.mono (HU5.out.trans (hb6.mono HU5.out.size)).size))
  have HE6 := Lib.hid (equalInt_any (.slice A6 1 c6) (.slice (some ⟨w6.heap.size, 0, none⟩) 1 1) [4] [4] W6 (ho6.rd.below HBW6.out) (by rw [hW6.out]; exact rdI_lit w6 4) (by simp))
  clear hb6 ho6 hn6 j0 j1 j2 j3
  rw [hW6.out] at HE6
  go_wp2_with fail
  (with_reducible refine HE6.out.mono ?_); rintro e w8 ⟨b8, rfl, hbi8, hb8⟩
  obtain rfl : b8 = true := hbi8.2 (by simp)
  rw [← hW6.out] at hb8
  have HU8 : Hid (Below U.heap.size U w8) := Lib.hid (HU6.out.trans (hb8.mono HU6.out.size))
  clear hb8 hbi8
  go_wp2
  go_ret
  exact ⟨rfl, HBU.out.trans (HU8.out.mono HBU.out.size)⟩
end Go.Proofs.YtmgobekdlgogmaaDoor
