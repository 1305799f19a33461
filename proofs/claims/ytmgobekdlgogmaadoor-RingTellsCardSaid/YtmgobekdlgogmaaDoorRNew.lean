/- New: the program's and the document's. -/
import Derived.Test.YtmgobekdlgogmaaDoorRRefCan
import Derived.Lib.SmallJoins
import Derived.Laws.NewBlocks
import Derived.Laws.Rows
namespace Go.Proofs.YtmgobekdlgogmaaDoor
open Go.RowKit Go.Sort Go.BigFrame
open Go.Lib (byteCells byteCells_length)

theorem cell_upR {w : World} {a : Addr} {v : Value} (o : Obj) (h : w.cell? a = some v) : (w.alloc o).cell? a = some v := Go.Lib.cell?_alloc_some o h
theorem okShape_R (p c s : Int) (b : Bool) (h : b = true ↔ OkR p c s []) : okShape p c s = b := by
  have : OkR p c s [] ↔ okShape p c s = true := ⟨fun h => h.1, fun h => ⟨h, OkMs.nil⟩⟩
  rw [this] at h
  cases b <;> cases hx : okShape p c s <;> simp_all
/-- What New answers: three numbers and an error. -/
def newA (p c s : Int) : Int × Int × Int × Int := if okShape p c s then (p, c, s, 0) else (0, 0, 0, 1)
def newV (x : Int × Int × Int × Int) : Value := .tuple #[.agg #[.int .i64 x.1, .int .i64 x.2.1, .int .i64 x.2.2.1, .slice none 0 0], .int .i64 x.2.2.2]

set_option maxRecDepth 100000 in
set_option maxHeartbeats 1600000 in
theorem new_any (p c s : Int) (w : World) (hT : Tabs w) (h1 : -9223372036854775808 ≤ p) (h2 : p ≤ 9223372036854775807) :
    Calls Tryd.prog 8 #[.int .i64 p, .int .i64 c, .int .i64 s] w fun e w' => e = .returned (newV (newA p c s)) ∧ Below w.heap.size w w' := by
  obtain ⟨W, hW⟩ : ∃ W, Hid (W = (w.alloc (.cells #[.int .i64 0, .int .i64 0, .int .i64 0, .slice none 0 0] 24)).alloc (.cells #[.int .i64 p, .int .i64 c, .int .i64 s, .slice none 0 0] 24)) := ⟨_, Lib.hid rfl⟩
  have HB : Hid (Below w.heap.size w W) := Lib.hid (by rw [hW.out]; exact below_allocR (below_allocR (Below.refl _ _)))
  have hz : W.heap.size = w.heap.size + 2 := by rw [hW.out]; simp
  have hTW : Tabs W := hT.below HB.out hT.big
  have hrow0 : W.heap[w.heap.size]? = some (.cells #[.int .i64 0, .int .i64 0, .int .i64 0, .slice none 0 0] 24 (0, 0)) := by
    rw [hW.out]
    exact (Below.heap_alloc _ _ _ (Array.getElem?_eq_some_iff.1 (heap_alloc_new w _)).1).trans (heap_alloc_new w _)
  have hrow1 : W.heap[w.heap.size + 1]? = some (.cells #[.int .i64 p, .int .i64 c, .int .i64 s, .slice none 0 0] 24 (0, 0)) := by
    have := heap_alloc_new (w.alloc (.cells #[.int .i64 0, .int .i64 0, .int .i64 0, .slice none 0 0] 24)) (.cells #[.int .i64 p, .int .i64 c, .int .i64 s, .slice none 0 0] 24)
    rw [← hW.out, show (w.alloc (.cells #[.int .i64 0, .int .i64 0, .int .i64 0, .slice none 0 0] 24)).heap.size = w.heap.size + 1 by simp] at this
    exact this
  have k0 := cell_of_row _ _ 0 _ _ (0, 0) hrow1
  have k1 := cell_of_row _ _ 1 _ _ (0, 0) hrow1
  have k2 := cell_of_row _ _ 2 _ _ (0, 0) hrow1
  have k3 := cell_of_row _ _ 3 _ _ (0, 0) hrow1
  have HC := Lib.hid (can_any p c s (.slice none 0 0) [] W hTW h1 h2 (RdM.nil W) (Nat.zero_le _))
  obtain ⟨r, hr⟩ : ∃ r, Hid (r = newA p c s) := ⟨_, Lib.hid rfl⟩
  rw [← hr.out]
  have R0 := Lib.hid hrow0
  have R1 := Lib.hid hrow1
  clear hTW hT hrow0 hrow1 h1 h2
  go_enter Tryd.func8, Tryd.ntmps8
  go_upto_region 2 with fail
  rw [← hW.out]
  go_wp2_with fail
  (with_reducible refine HC.out.mono ?_); rintro e w1 ⟨b, rfl, hbi, hb1⟩
  have HB1 : Hid (Below w.heap.size w w1) := Lib.hid (HB.out.trans (hb1.mono HB.out.size))
  have E := Lib.hid (okShape_R p c s b hbi)
  have hl0 : w.heap.size < W.heap.size := by omega
  have hl1 : w.heap.size + 1 < W.heap.size := by omega
  have r0 := (hb1.block _ hl0).trans R0.out
  have r1 := (hb1.block _ hl1).trans R1.out
  have q0 := cell_of_row w1 _ 0 _ _ (0, 0) r1
  have q1 := cell_of_row w1 _ 1 _ _ (0, 0) r1
  have q2 := cell_of_row w1 _ 2 _ _ (0, 0) r1
  have q3 := cell_of_row w1 _ 3 _ _ (0, 0) r1
  have f0 := frozen_of_row w1 _ 0 _ _ r0
  have f1 := frozen_of_row w1 _ 1 _ _ r0
  have f2 := frozen_of_row w1 _ 2 _ _ r0
  have f3 := frozen_of_row w1 _ 3 _ _ r0
  have m0 := cell_of_row w1 _ 0 _ _ (0, 0) r0
  have m1 := cell_of_row w1 _ 1 _ _ (0, 0) r0
  have m2 := cell_of_row w1 _ 2 _ _ (0, 0) r0
  have m3 := cell_of_row w1 _ 3 _ _ (0, 0) r0
  have RR := Lib.hid r0
  clear hb1 r0 r1 k0 k1 k2 k3 hbi
  cases b with
  | false =>
    have Q : Hid (r = (0, 0, 0, 1)) := Lib.hid (by rw [hr.out]; unfold newA; rw [E.out]; rfl)
    go_wp2
    have hr := Joins.block_setCell (Joins.block_setCell (Joins.block_setCell (Joins.block_setCell RR.out (i := 0) (.int .i64 0)) (i := 1) (.int .i64 0)) (i := 2) (.int .i64 0)) (i := 3) (.slice none 0 0)
    have p0 := cell_of_row _ _ 0 _ _ (0, 0) hr
    have p1 := cell_of_row _ _ 1 _ _ (0, 0) hr
    have p2 := cell_of_row _ _ 2 _ _ (0, 0) hr
    have p3 := cell_of_row _ _ 3 _ _ (0, 0) hr
    refine bodyPost_ret (v := newV (0, 0, 0, 1)) (by simp [newV, results, Tryd.results8, go_sem, p0, p1, p2, p3]) rfl ⟨by rw [Q.out], ?_⟩
    exact (((HB1.out.setCell (Nat.le_refl _) _).setCell (Nat.le_refl _) _).setCell (Nat.le_refl _) _).setCell (Nat.le_refl _) _
  | true =>
    have Q : Hid (r = (p, c, s, 0)) := Lib.hid (by rw [hr.out]; unfold newA; rw [E.out]; rfl)
    go_wp2
    have hr := Joins.block_setCell (Joins.block_setCell (Joins.block_setCell (Joins.block_setCell RR.out (i := 0) (.int .i64 p)) (i := 1) (.int .i64 c)) (i := 2) (.int .i64 s)) (i := 3) (.slice none 0 0)
    have p0 := cell_of_row _ _ 0 _ _ (0, 0) hr
    have p1 := cell_of_row _ _ 1 _ _ (0, 0) hr
    have p2 := cell_of_row _ _ 2 _ _ (0, 0) hr
    have p3 := cell_of_row _ _ 3 _ _ (0, 0) hr
    refine bodyPost_ret (v := newV (p, c, s, 0)) (by simp [newV, results, Tryd.results8, go_sem, p0, p1, p2, p3]) rfl ⟨by rw [Q.out], ?_⟩
    exact (((HB1.out.setCell (Nat.le_refl _) _).setCell (Nat.le_refl _) _).setCell (Nat.le_refl _) _).setCell (Nat.le_refl _) _
end Go.Proofs.YtmgobekdlgogmaaDoor
