/- one; Covers, Top. -/
import Derived.Test.YtnlohijpcnoamaaCNormal
import Derived.Laws.StructEq
namespace Go.Proofs.Ytnlohijpcnoamaa
open Go.RowKit Go.Sort Go.BigFrame
open Go.Lib (byteCells byteCells_length)

theorem OkC.nil : OkC [] [] := ⟨by simp, by simp, OkM.nil, OkD.nil []⟩
/-- A context that a call made. -/
def MadeC (ms ds : List DotA) (w : World) (e : Ending) (w' : World) : Prop :=
  ∃ mv dv, e = .returned (.agg #[mv, dv]) ∧ OwnD 53 w' w.heap.size mv ms ∧ OwnD 55 w' w.heap.size dv ds ∧ Below w.heap.size w w'
def OnePost (w : World) (e : Ending) (w' : World) : Prop := ∃ ms ds, OkC ms ds ∧ MadeC ms ds w e w'
theorem OwnD.rdC {w : World} {b b1 : Nat} {T T1 : TypeId} {mv dv : Value} {ms ds : List DotA} (h : OwnD T w b mv ms) (h1 : OwnD T1 w b1 dv ds) : RdC w (.agg #[mv, dv]) ms ds := ⟨mv, dv, rfl, h.rd, h1.rd⟩
theorem norm_ans {marks dots : List DotA} {w : World} {e : Ending} {w' : World} (h : NormPost marks dots w e w') :
    ∃ (ms ds : List DotA) (A A1 : Option Addr) (n n1 c c1 : Nat) (er : Int), e = .returned (.tuple #[.agg #[.slice A n c, .slice A1 n1 c1], .int .i64 er]) ∧ OwnD 53 w' w.heap.size (.slice A n c) ms ∧ OwnD 55 w' w.heap.size (.slice A1 n1 c1) ds ∧ OkC ms ds ∧ Below w.heap.size w w' := by
  obtain ⟨hb, h | ⟨_, _, ms, ds, hc, _, h | ⟨h1, h2, mv, dv, rfl, hm, hd⟩⟩⟩ := h
  · exact ⟨[], [], none, none, 0, 0, 0, 0, 1, h.2, ownD_nil _ _ _, ownD_nil _ _ _, OkC.nil, hb⟩
  · exact ⟨[], [], none, none, 0, 0, 0, 0, 4, h.2, ownD_nil _ _ _, ownD_nil _ _ _, OkC.nil, hb⟩
  · obtain ⟨A, c, rfl⟩ := ownD_slice hm
    obtain ⟨A1, c1, rfl⟩ := ownD_slice hd
    exact ⟨ms, ds, A, A1, _, _, c, c1, 0, rfl, hm, hd, hc.ok h1 h2, hb⟩

set_option maxRecDepth 100000 in
set_option maxHeartbeats 3200000 in
theorem one_ref (v vd : Value) (ms ds : List DotA) (w : World) (hm : RdD w v ms) (hd : RdD w vd ds) (hlm : ms.length ≤ 1048576) (hld : ds.length ≤ 1048576) :
    Calls Try.prog 17 #[v, vd] w (OnePost w) := by
  obtain ⟨W, hW⟩ : ∃ W, Hid (W = w.alloc (.cells #[.slice none 0 0, .slice none 0 0] 25)) := ⟨_, Lib.hid rfl⟩
  have hb0 : Below w.heap.size w W := by rw [hW.out]; exact (Below.refl _ _).alloc (Nat.le_refl _) _
  have hlt0 : w.heap.size < W.heap.size := by rw [hW.out]; simp
  have hrow : W.heap[w.heap.size]? = some (.cells #[.slice none 0 0, .slice none 0 0] 25 (0, 0)) := by rw [hW.out]; exact heap_alloc_new w _
  have HROW := Lib.hid hrow
  have HB0 := Lib.hid hb0
  have HN := Lib.hid (normal_ref v vd ms ds W (hm.below hb0) (hd.below hb0) hlm hld)
  have hsW : w.heap.size ≤ W.heap.size := Nat.le_of_lt hlt0
  have hWe := hW.out.symm
  clear hb0 hrow hm hd
  go_enter Try.func17, Try.ntmps17
  go_upto_region 1 with fail
  clear hWe
  go_wp2_with fail
  (with_reducible refine HN.out.mono ?_); rintro e w1 hp
  obtain ⟨ms1, ds1, A, A1, n, n1, c, c1, er, rfl, hom, hod, hok, hb1⟩ := norm_ans hp
  obtain ⟨W3, hW3⟩ : ∃ W3, Hid (W3 = w1.alloc (.cells #[.slice A n c, .slice A1 n1 c1] 25)) := ⟨_, Lib.hid rfl⟩
  have hb3 : Below w1.heap.size w1 W3 := by rw [hW3.out]; exact (Below.refl _ _).alloc (Nat.le_refl _) _
  have g0 : W3.cell? ⟨w1.heap.size, 0, none⟩ = some (.slice A n c) := by rw [hW3.out]; exact box_cell _ _ _ 0
  have g1 : W3.cell? ⟨w1.heap.size, 1, none⟩ = some (.slice A1 n1 c1) := by rw [hW3.out]; exact box_cell _ _ _ 1
  have HB3 := Lib.hid (hb1.trans (hb3.mono hb1.size))
  have HM3 := Lib.hid (hom.below hb3)
  have HD3 := Lib.hid (hod.below hb3)
  have HOK := Lib.hid hok
  have r1 := (HB3.out.block _ hlt0).trans HROW.out
  have q0 : W3.cell? ⟨w.heap.size, 0, none⟩ = some (.slice none 0 0) := cell_of_row W3 _ 0 _ _ (0, 0) r1
  have q1 : W3.cell? ⟨w.heap.size, 1, none⟩ = some (.slice none 0 0) := cell_of_row W3 _ 1 _ _ (0, 0) r1
  have f0 : W3.frozen? ⟨w.heap.size, 0, none⟩ = false := frozen_of_row W3 _ 0 _ _ r1
  have f1 : W3.frozen? ⟨w.heap.size, 1, none⟩ = false := frozen_of_row W3 _ 1 _ _ r1
  have hr := Joins.block_setCell (Joins.block_setCell r1 (i := 0) (.slice A n c)) (i := 1) (.slice A1 n1 c1)
  have HR1 := Lib.hid hr
  have hWe3 := hW3.out.symm
  clear hp hom hod hok hb1 hb3 hr r1 HN
  go_upto_region 2 with fail
  clear hWe3
  go_wp2
  have p0 := cell_of_row _ _ 0 _ _ (0, 0) HR1.out
  have p1 := cell_of_row _ _ 1 _ _ (0, 0) HR1.out
  have ap2 : Apart w.heap.size (.slice A n c) := fun g e => by have := (World.ownsRow.lt HM3.out g e).1; omega
  have ap3 : Apart w.heap.size (.slice A1 n1 c1) := fun g e => by have := (World.ownsRow.lt HD3.out g e).1; omega
  refine bodyPost_ret (v := .agg #[.slice A n c, .slice A1 n1 c1]) (by simp [results, Try.results17, go_sem, p0, p1]) rfl ⟨ms1, ds1, HOK.out, _, _, rfl, ?_, ?_, ?_⟩
  · exact ((HM3.out.setOther ap2 _).setOther ap2 _).base_le hsW
  · exact ((HD3.out.setOther ap3 _).setOther ap3 _).base_le hsW
  · exact ((HB0.out.trans (HB3.out.mono hsW)).setCell (Nat.le_refl _) _).setCell (Nat.le_refl _) _

theorem act_eq (a b : ActA) (w : World) : (binOp .eql 93 (actV a) (actV b)).run Try.prog w = .ok (.bool (decide (a = b))) w := by
  have u3 := Try.underlying3
  have a3 := Try.isAgg3
  have z3 := Try.sizeOf3
  have hS : Try.prog.underlying 93 = some (.struct (Try.prog.fieldsOf 93)) := by kernel_rfl
  have hp : Try.prog.stoodInHeld 93 = false := by kernel_rfl
  obtain ⟨a1, a2⟩ := a
  obtain ⟨b1, b2⟩ := b
  rw [run_eql_struct, show (10000 : Nat) = 9999 + 1 from rfl, run_equalIn_agg w 9999 93 _ _ hS hp]
  simp only [Program.fieldsOf, Try.underlying93]
  go_simp
  by_cases h1 : a1 = b1 <;> by_cases h2 : a2 = b2 <;> simp [h1, h2]

def topF (a : ActA) (t : Int) (d : DotA) : Int := if actOf d = a then max t d.2.2 else t
/-- An actor's greatest count. -/
def topOf (ms ds : List DotA) (a : ActA) : Int := ds.foldl (topF a) (markOf ms a)

end Go.Proofs.Ytnlohijpcnoamaa
