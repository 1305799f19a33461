/- A ring's copy in memory of its own; two rings are the same: the document's. -/
import Derived.Test.YtmgobekdlgogmaaDoorRRow
namespace Go.Proofs.YtmgobekdlgogmaaDoor
open Go.RowKit Go.Sort Go.BigFrame
open Go.Lib (byteCells byteCells_length)

theorem ownM_setOther {T : TypeId} {w : World} {base : Nat} {v : Value} {ds : List MemA} (h : OwnM T w base v ds) {g i : Nat} (hg : g < base) (u : Value) : OwnM T (w.setCell ⟨g, i, none⟩ u) base v ds :=
  ownsRow_setCell_below h hg u
theorem set4 {w : World} {g : Nat} {a b c d : Value} {t : TypeId} (h : w.heap[g]? = some (.cells #[a, b, c, d] t (0, 0))) (x0 x1 x2 x3 : Value) :
    ((((w.setCell ⟨g, 0, none⟩ x0).setCell ⟨g, 1, none⟩ x1).setCell ⟨g, 2, none⟩ x2).setCell ⟨g, 3, none⟩ x3).heap[g]? = some (.cells #[x0, x1, x2, x3] t (0, 0)) :=
  Joins.block_setCell (Joins.block_setCell (Joins.block_setCell (Joins.block_setCell h (i := 0) x0) (i := 1) x1) (i := 2) x2) (i := 3) x3
theorem ownM_set4 {T : TypeId} {w : World} {base : Nat} {v : Value} {ds : List MemA} (h : OwnM T w base v ds) {g : Nat} (hg : g < base) (x0 x1 x2 x3 : Value) :
    OwnM T ((((w.setCell ⟨g, 0, none⟩ x0).setCell ⟨g, 1, none⟩ x1).setCell ⟨g, 2, none⟩ x2).setCell ⟨g, 3, none⟩ x3) base v ds :=
  ownM_setOther (ownM_setOther (ownM_setOther (ownM_setOther h hg _) hg _) hg _) hg _
theorem below_set4 {B : Nat} {w w' : World} (h : Below B w w') {g : Nat} (hg : B ≤ g) (x0 x1 x2 x3 : Value) :
    Below B w ((((w'.setCell ⟨g, 0, none⟩ x0).setCell ⟨g, 1, none⟩ x1).setCell ⟨g, 2, none⟩ x2).setCell ⟨g, 3, none⟩ x3) :=
  (((h.setCell (show B ≤ g from hg) _).setCell (show B ≤ g from hg) _).setCell (show B ≤ g from hg) _).setCell (show B ≤ g from hg) _
/-- A ring whose members lie in memory of the call's own. -/
def GivesR (p c s : Int) (ms : List MemA) (w : World) (e : Ending) (w' : World) : Prop :=
  ∃ A n cap, e = .returned (.agg #[.int .i64 p, .int .i64 c, .int .i64 s, .slice A n cap]) ∧ OwnM 40 w' w.heap.size (.slice A n cap) ms ∧ n = ms.length ∧ Below w.heap.size w w'

set_option maxRecDepth 100000 in
set_option maxHeartbeats 1600000 in
theorem copied_any (p c s : Int) (v : Value) (ms : List MemA) (w : World) (h : RdM w v ms) (hl : ms.length ≤ 4398046511104) :
    Calls Tryd.prog 11 #[.agg #[.int .i64 p, .int .i64 c, .int .i64 s, v]] w (GivesR p c s ms w) := by
  have HV := Lib.hid h
  obtain ⟨A, cap, rfl, hc, hx⟩ := h
  obtain ⟨n, hn⟩ : ∃ n, Hid (n = ms.length) := ⟨_, Lib.hid rfl⟩
  have HN := hn
  rw [← hn.out] at HV ⊢
  obtain ⟨W, hW⟩ : ∃ W, Hid (W = (w.alloc (.cells #[.int .i64 p, .int .i64 c, .int .i64 s, .slice A n cap] 24)).alloc (.cells #[.int .i64 0, .int .i64 0, .int .i64 0, .slice none 0 0] 24)) := ⟨_, Lib.hid rfl⟩
  have HB : Hid (Below w.heap.size w W) := Lib.hid (by rw [hW.out]; exact below_allocR (below_allocR (Below.refl _ _)))
  have hz : W.heap.size = w.heap.size + 2 := by rw [hW.out]; simp
  have hrow0 : W.heap[w.heap.size]? = some (.cells #[.int .i64 p, .int .i64 c, .int .i64 s, .slice A n cap] 24 (0, 0)) := by
    rw [hW.out]
    exact (Below.heap_alloc _ _ _ (Array.getElem?_eq_some_iff.1 (heap_alloc_new w _)).1).trans (heap_alloc_new w _)
  have hrow1 : W.heap[w.heap.size + 1]? = some (.cells #[.int .i64 0, .int .i64 0, .int .i64 0, .slice none 0 0] 24 (0, 0)) := by
    have := heap_alloc_new (w.alloc (.cells #[.int .i64 p, .int .i64 c, .int .i64 s, .slice A n cap] 24)) (.cells #[.int .i64 0, .int .i64 0, .int .i64 0, .slice none 0 0] 24)
    rw [← hW.out, show (w.alloc (.cells #[.int .i64 p, .int .i64 c, .int .i64 s, .slice A n cap] 24)).heap.size = w.heap.size + 1 by simp] at this
    exact this
  have k3 := cell_of_row _ _ 3 _ _ (0, 0) hrow0
  have HC := Lib.hid (cloneMember_any (.slice A n cap) ms W (HV.out.below HB.out) hl)
  have R0 := Lib.hid hrow0
  have R1 := Lib.hid hrow1
  clear hrow0 hrow1 hx hc hl
  go_enter Tryd.func11, Tryd.ntmps11
  go_upto_region 1 with fail
  rw [← hW.out]
  go_wp2_with fail
  (with_reducible refine HC.out.mono ?_); rintro e w1 ⟨v1, rfl, ho1, hb1⟩
  obtain ⟨A1, c1, rfl⟩ := ownM_slice ho1
  obtain ⟨n1, hn1⟩ : ∃ n1, Hid (n1 = ms.length) := ⟨_, Lib.hid rfl⟩
  rw [← hn1.out] at ho1 ⊢
  have HO1 := Lib.hid ho1
  have hl0 : w.heap.size < W.heap.size := by omega
  have hl1 : w.heap.size + 1 < W.heap.size := by omega
  have r0 := (hb1.block _ hl0).trans R0.out
  have r1 := (hb1.block _ hl1).trans R1.out
  have q0 := cell_of_row w1 _ 0 _ _ (0, 0) r0
  have q1 := cell_of_row w1 _ 1 _ _ (0, 0) r0
  have q2 := cell_of_row w1 _ 2 _ _ (0, 0) r0
  have q3 := cell_of_row w1 _ 3 _ _ (0, 0) r0
  have f3 := frozen_of_row w1 _ 3 _ _ r0
  have HB1 : Hid (Below w.heap.size w w1) := Lib.hid (HB.out.trans (hb1.mono HB.out.size))
  obtain ⟨U, hU⟩ : ∃ U, Hid (U = w1.setCell ⟨w.heap.size, 3, none⟩ (.slice A1 n1 c1)) := ⟨_, Lib.hid rfl⟩
  have u0 : U.heap[w.heap.size]? = some (.cells #[.int .i64 p, .int .i64 c, .int .i64 s, .slice A1 n1 c1] 24 (0, 0)) := by rw [hU.out]; exact Joins.block_setCell r0 (i := 3) _
  have u1 : U.heap[w.heap.size + 1]? = some (.cells #[.int .i64 0, .int .i64 0, .int .i64 0, .slice none 0 0] 24 (0, 0)) := by rw [hU.out]; exact (Below.heap_setCell w1 ⟨w.heap.size, 3, none⟩ _ _ (show w.heap.size + 1 ≠ w.heap.size by omega)).trans r1
  have HOU : Hid (OwnM 40 U W.heap.size (.slice A1 n1 c1) ms) := Lib.hid (by rw [hU.out]; exact ownM_setOther ho1 hl0 _)
  have HBU : Hid (Below w.heap.size w U) := Lib.hid (by rw [hU.out]; exact HB1.out.setCell (Nat.le_refl _) _)
  have y0 := cell_of_row U _ 0 _ _ (0, 0) u0
  have y1 := cell_of_row U _ 1 _ _ (0, 0) u0
  have y2 := cell_of_row U _ 2 _ _ (0, 0) u0
  have y3 := cell_of_row U _ 3 _ _ (0, 0) u0
  have z0 := cell_of_row U _ 0 _ _ (0, 0) u1
  have z1 := cell_of_row U _ 1 _ _ (0, 0) u1
  have z2 := cell_of_row U _ 2 _ _ (0, 0) u1
  have z3 := cell_of_row U _ 3 _ _ (0, 0) u1
  have g0 := frozen_of_row U _ 0 _ _ u1
  have g1 := frozen_of_row U _ 1 _ _ u1
  have g2 := frozen_of_row U _ 2 _ _ u1
  have g3 := frozen_of_row U _ 3 _ _ u1
  have HR := Lib.hid (set4 u1 (.int .i64 p) (.int .i64 c) (.int .i64 s) (.slice A1 n1 c1))
  clear r0 r1 u0 u1 ho1 hb1 k3
  go_upto_region 2 with fail
  rw [← hU.out]
  go_wp2
  have p0 := cell_of_row _ _ 0 _ _ (0, 0) HR.out
  have p1 := cell_of_row _ _ 1 _ _ (0, 0) HR.out
  have p2 := cell_of_row _ _ 2 _ _ (0, 0) HR.out
  have p3 := cell_of_row _ _ 3 _ _ (0, 0) HR.out
  refine bodyPost_ret (v := .agg #[.int .i64 p, .int .i64 c, .int .i64 s, .slice A1 n1 c1]) (by simp [results, Tryd.results11, go_sem, p0, p1, p2, p3]) rfl ⟨A1, n1, c1, rfl, ?_, hn1.out, ?_⟩
  · exact (ownM_set4 HOU.out hl1 _ _ _ _).base_le (by omega)
  · exact below_set4 HBU.out (by omega) _ _ _ _
end Go.Proofs.YtmgobekdlgogmaaDoor
