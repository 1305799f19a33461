/- one; Covers, Top. -/
import Derived.Test.YtfplblhmeohhmaaCNormal
import Derived.Laws.StructEq
namespace Go.Proofs.Ytfplblhmeohhmaa
open Go.RowKit Go.Sort Go.BigFrame
open Go.Lib (byteCells byteCells_length)

theorem OkC.nil : OkC [] [] := ⟨by simp, by simp, OkM.nil, OkD.nil []⟩
/-- A context that a call made. -/
def MadeC (ms ds : List DotA) (w : World) (e : Ending) (w' : World) : Prop :=
  ∃ mv dv, e = .returned (.agg #[mv, dv]) ∧ OwnD 55 w' w.heap.size mv ms ∧ OwnD 44 w' w.heap.size dv ds ∧ Below w.heap.size w w'
def OnePost (w : World) (e : Ending) (w' : World) : Prop := ∃ ms ds, OkC ms ds ∧ MadeC ms ds w e w'
theorem OwnD.rdC {w : World} {b b1 : Nat} {T T1 : TypeId} {mv dv : Value} {ms ds : List DotA} (h : OwnD T w b mv ms) (h1 : OwnD T1 w b1 dv ds) : RdC w (.agg #[mv, dv]) ms ds := ⟨mv, dv, rfl, h.rd, h1.rd⟩
theorem norm_ans {marks dots : List DotA} {w : World} {e : Ending} {w' : World} (h : NormPost marks dots w e w') :
    ∃ (ms ds : List DotA) (A A1 : Option Addr) (n n1 c c1 : Nat) (er : Int), e = .returned (.tuple #[.agg #[.slice A n c, .slice A1 n1 c1], .int .i64 er]) ∧ OwnD 55 w' w.heap.size (.slice A n c) ms ∧ OwnD 44 w' w.heap.size (.slice A1 n1 c1) ds ∧ OkC ms ds ∧ Below w.heap.size w w' := by
  obtain ⟨hb, h | ⟨_, _, ms, ds, hc, _, h | ⟨h1, h2, mv, dv, rfl, hm, hd⟩⟩⟩ := h
  · exact ⟨[], [], none, none, 0, 0, 0, 0, 1, h.2, ownD_nil _ _ _, ownD_nil _ _ _, OkC.nil, hb⟩
  · exact ⟨[], [], none, none, 0, 0, 0, 0, 4, h.2, ownD_nil _ _ _, ownD_nil _ _ _, OkC.nil, hb⟩
  · obtain ⟨A, c, rfl⟩ := ownD_slice hm
    obtain ⟨A1, c1, rfl⟩ := ownD_slice hd
    exact ⟨ms, ds, A, A1, _, _, c, c1, 0, rfl, hm, hd, hc.ok h1 h2, hb⟩

set_option maxRecDepth 100000 in
set_option maxHeartbeats 3200000 in
theorem one_ref (v vd : Value) (ms ds : List DotA) (w : World) (hm : RdD w v ms) (hd : RdD w vd ds) (hlm : ms.length ≤ 1048576) (hld : ds.length ≤ 1048576) :
    Calls Try.prog 18 #[v, vd] w (OnePost w) := by
  obtain ⟨W, hW⟩ : ∃ W, Hid (W = w.alloc (.cells #[.slice none 0 0, .slice none 0 0] 48)) := ⟨_, Lib.hid rfl⟩
  have hb0 : Below w.heap.size w W := by rw [hW.out]; exact (Below.refl _ _).alloc (Nat.le_refl _) _
  have hlt0 : w.heap.size < W.heap.size := by rw [hW.out]; simp
  have hrow : W.heap[w.heap.size]? = some (.cells #[.slice none 0 0, .slice none 0 0] 48 (0, 0)) := by rw [hW.out]; exact heap_alloc_new w _
  have HROW := Lib.hid hrow
  have HB0 := Lib.hid hb0
  have HN := Lib.hid (normal_ref v vd ms ds W (hm.below hb0) (hd.below hb0) hlm hld)
  have hsW : w.heap.size ≤ W.heap.size := Nat.le_of_lt hlt0
  have hWe := hW.out.symm
  clear hb0 hrow hm hd
  go_enter Try.func18, Try.ntmps18
  go_upto_region 1 with fail
  clear hWe
  go_wp2_with fail
  (with_reducible refine HN.out.mono ?_); rintro e w1 hp
  obtain ⟨ms1, ds1, A, A1, n, n1, c, c1, er, rfl, hom, hod, hok, hb1⟩ := norm_ans hp
  obtain ⟨W3, hW3⟩ : ∃ W3, Hid (W3 = w1.alloc (.cells #[.slice A n c, .slice A1 n1 c1] 48)) := ⟨_, Lib.hid rfl⟩
  have hb3 : Below w1.heap.size w1 W3 := by rw [hW3.out]; exact (Below.refl _ _).alloc (Nat.le_refl _) _
  have g0 : W3.cell? ⟨w1.heap.size, 0, none⟩ = some (.slice A n c) := by rw [hW3.out]; exact box_cell _ _ _ 0
  have g1 : W3.cell? ⟨w1.heap.size, 1, none⟩ = some (.slice A1 n1 c1) := by rw [hW3.out]; exact box_cell _ _ _ 1
  have HB3 := Lib.hid (hb1.trans (hb3.mono hb1.size))
  have HM3 := Lib.hid (hom.below hb3)
  have HD3 := Lib.hid (hod.below hb3)
  have HOK := Lib.hid hok
  have r1 := (HB3.out.block _ hlt0).trans HROW.out
  have q0 : W3.cell? ⟨w.heap.size, 0, none⟩ = some (.slice none 0 0) := cell_of_row W3 _ 0 _ _ (0, 0) r1
  have q1 : W3.cell? ⟨w.heap.size, 1, none⟩ = some (.slice none 0 0) := cell_of_row W3 _ 1 _ _ (0, 0) r1
  have f0 : W3.frozen? ⟨w.heap.size, 0, none⟩ = false := frozen_of_row W3 _ 0 _ _ r1
  have f1 : W3.frozen? ⟨w.heap.size, 1, none⟩ = false := frozen_of_row W3 _ 1 _ _ r1
  have hr := Joins.block_setCell (Joins.block_setCell r1 (i := 0) (.slice A n c)) (i := 1) (.slice A1 n1 c1)
  have HR1 := Lib.hid hr
  have hWe3 := hW3.out.symm
  clear hp hom hod hok hb1 hb3 hr r1 HN
  go_upto_region 2 with fail
  clear hWe3
  go_wp2
  have p0 := cell_of_row _ _ 0 _ _ (0, 0) HR1.out
  have p1 := cell_of_row _ _ 1 _ _ (0, 0) HR1.out
  have ap2 : Apart w.heap.size (.slice A n c) := fun g e => by have := (World.ownsRow.lt HM3.out g e).1; omega
  have ap3 : Apart w.heap.size (.slice A1 n1 c1) := fun g e => by have := (World.ownsRow.lt HD3.out g e).1; omega
  refine bodyPost_ret (v := .agg #[.slice A n c, .slice A1 n1 c1]) (by simp [results, Try.results18, go_sem, p0, p1]) rfl ⟨ms1, ds1, HOK.out, _, _, rfl, ?_, ?_, ?_⟩
  · exact ((HM3.out.setOther ap2 _).setOther ap2 _).base_le hsW
  · exact ((HD3.out.setOther ap3 _).setOther ap3 _).base_le hsW
  · exact ((HB0.out.trans (HB3.out.mono hsW)).setCell (Nat.le_refl _) _).setCell (Nat.le_refl _) _

set_option maxRecDepth 100000 in
set_option maxHeartbeats 3200000 in
theorem covers_any (v : Value) (ms ds : List DotA) (d : DotA) (w : World) (h : RdC w v ms ds) (hok : OkC ms ds) : Calls Try.prog 19 #[v, dotV d] w (Tells (InC ms ds d) w) := by
  obtain ⟨mv, dv, rfl, hm, hd⟩ := h
  obtain ⟨W, hW⟩ : ∃ W, Hid (W = (w.alloc (.cells #[mv, dv] 48)).alloc (.cells #[.int .i64 d.1, .int .i64 d.2.1, .int .i64 d.2.2] 44)) := ⟨_, Lib.hid rfl⟩
  have hb0 : Below w.heap.size w W := by rw [hW.out]; exact ((Below.refl _ _).alloc (Nat.le_refl _) _).alloc (by simp) _
  have hz : W.heap.size = w.heap.size + 2 := by rw [hW.out]; simp
  have hbc : BoxC W w.heap.size mv dv := by
    rw [hW.out]
    exact (show BoxC (w.alloc (.cells #[mv, dv] 48)) w.heap.size mv dv from ⟨box_cell _ _ _ 0, box_cell _ _ _ 1⟩).below ((Below.refl _ _).alloc (Nat.le_refl _) _) (by simp)
  have hbx : BoxD W (w.heap.size + 1) d := by
    rw [hW.out]
    have := boxD (w.alloc (.cells #[mv, dv] 48)) 44 d
    simpa using this
  have hrd : RdC W (.agg #[mv, dv]) ms ds := ⟨mv, dv, rfl, hm.below hb0, hd.below hb0⟩
  obtain ⟨A, c, rfl, hc, _⟩ := hd
  obtain ⟨A1, c1, rfl, hc1, _⟩ := hm
  have HRD := Lib.hid hrd
  have HOK := Lib.hid hok
  have HCN := Lib.hid (can_any _ ms ds W hrd (by have := hok.1; omega) (by have := hok.2.1; omega))
  obtain ⟨n, hn⟩ : ∃ n, Hid (n = ds.length) := ⟨_, Lib.hid rfl⟩
  obtain ⟨n1, hn1⟩ : ∃ n1, Hid (n1 = ms.length) := ⟨_, Lib.hid rfl⟩
  have hWe := hW.out.symm
  rw [← hn.out, ← hn1.out] at hbc hWe HRD HCN ⊢
  obtain ⟨l0, l1⟩ := hbc
  obtain ⟨j0, j1, j2⟩ := hbx
  have HB0 := Lib.hid hb0
  have HL0 := Lib.hid l0
  have HL1 := Lib.hid l1
  have HJ := Lib.hid (show BoxD W (w.heap.size + 1) d from ⟨j0, j1, j2⟩)
  clear hb0 hrd hok hW
  go_enter Try.func19, Try.ntmps19
  go_upto_region 1 with fail
  clear hWe
  go_wp2_with fail
  (with_reducible refine HCN.out.mono ?_); rintro e w1 ⟨b, rfl, hbi, hb1⟩
  obtain rfl : b = true := hbi.2 HOK.out
  have k0 := (hb1.cell (p := ⟨w.heap.size, 0, none⟩) (show w.heap.size < W.heap.size by omega)).trans HL0.out
  have k1 := (hb1.cell (p := ⟨w.heap.size, 1, none⟩) (show w.heap.size < W.heap.size by omega)).trans HL1.out
  obtain ⟨i0, i1, i2⟩ := HJ.out.below hb1 (show w.heap.size + 1 < W.heap.size by omega)
  have HH := Lib.hid (has_any _ ms ds d w1 (HRD.out.below hb1) HOK.out)
  have HB1 := Lib.hid (HB0.out.trans (hb1.mono HB0.out.size))
  clear hb1 hbi l0 l1 j0 j1 j2 HCN
  go_wp2_with fail
  (with_reducible refine HH.out.mono ?_); rintro e w2 ⟨b, rfl, hbi, hb2⟩
  have HX := Lib.hid (HB1.out.trans (hb2.mono HB1.out.size))
  have HBI := Lib.hid hbi
  clear hb2 hbi HH
  go_wp2
  go_ret
  exact ⟨b, rfl, HBI.out, HX.out⟩

theorem act_eq (a b : ActA) (w : World) : (binOp .eql 46 (actV a) (actV b)).run Try.prog w = .ok (.bool (decide (a = b))) w := by
  have u3 := Try.underlying3
  have a3 := Try.isAgg3
  have z3 := Try.sizeOf3
  have hS : Try.prog.underlying 46 = some (.struct (Try.prog.fieldsOf 46)) := by kernel_rfl
  have hp : Try.prog.stoodInHeld 46 = false := by kernel_rfl
  obtain ⟨a1, a2⟩ := a
  obtain ⟨b1, b2⟩ := b
  rw [run_eql_struct, show (10000 : Nat) = 9999 + 1 from rfl, run_equalIn_agg w 9999 46 _ _ hS hp]
  simp only [Program.fieldsOf, Try.underlying46]
  go_simp
  by_cases h1 : a1 = b1 <;> by_cases h2 : a2 = b2 <;> simp [h1, h2]

def topF (a : ActA) (t : Int) (d : DotA) : Int := if actOf d = a then max t d.2.2 else t
/-- An actor's greatest count. -/
def topOf (ms ds : List DotA) (a : ActA) : Int := ds.foldl (topF a) (markOf ms a)

set_option maxRecDepth 100000 in
set_option maxHeartbeats 6400000 in
theorem top_any (v : Value) (ms ds : List DotA) (a : ActA) (w : World) (h : RdC w v ms ds) (hok : OkC ms ds) : Calls Try.prog 21 #[v, actV a] w (fun e w' => e = .returned (.int .i64 (topOf ms ds a)) ∧ Below w.heap.size w w') := by
  obtain ⟨mv, dv, rfl, hm, hd⟩ := h
  obtain ⟨r, hr⟩ : ∃ r, Hid (r = topOf ms ds a) := ⟨_, Lib.hid rfl⟩
  rw [← hr.out]
  obtain ⟨W, hW⟩ : ∃ W, Hid (W = (w.alloc (.cells #[mv, dv] 48)).alloc (.cells #[.int .i64 a.1, .int .i64 a.2] 46)) := ⟨_, Lib.hid rfl⟩
  have hb0 : Below w.heap.size w W := by rw [hW.out]; exact ((Below.refl _ _).alloc (Nat.le_refl _) _).alloc (by simp) _
  have hz : W.heap.size = w.heap.size + 2 := by rw [hW.out]; simp
  have hbc : BoxC W w.heap.size mv dv := by
    rw [hW.out]
    exact (show BoxC (w.alloc (.cells #[mv, dv] 48)) w.heap.size mv dv from ⟨box_cell _ _ _ 0, box_cell _ _ _ 1⟩).below ((Below.refl _ _).alloc (Nat.le_refl _) _) (by simp)
  have hba : BoxC W (w.heap.size + 1) (.int .i64 a.1) (.int .i64 a.2) := by
    rw [hW.out]
    have : BoxC ((w.alloc (.cells #[mv, dv] 48)).alloc (.cells #[.int .i64 a.1, .int .i64 a.2] 46)) (w.alloc (.cells #[mv, dv] 48)).heap.size (.int .i64 a.1) (.int .i64 a.2) := ⟨box_cell _ _ _ 0, box_cell _ _ _ 1⟩
    simpa using this
  have hm0 := hm.below hb0
  have hd0 := hd.below hb0
  have hrd : RdC W (.agg #[mv, dv]) ms ds := ⟨mv, dv, rfl, hm0, hd0⟩
  obtain ⟨A, c, rfl, hc, hx⟩ := hd
  obtain ⟨A1, c1, rfl, hc1, _⟩ := hm
  have HM := Lib.hid hm0
  have HX := Lib.hid (hx.below hb0 (Nat.le_refl _))
  have HOK := Lib.hid hok
  have HCN := Lib.hid (can_any _ ms ds W hrd (by have := hok.1; omega) (by have := hok.2.1; omega))
  obtain ⟨n, hn⟩ : ∃ n, Hid (n = ds.length) := ⟨_, Lib.hid rfl⟩
  obtain ⟨n1, hn1⟩ : ∃ n1, Hid (n1 = ms.length) := ⟨_, Lib.hid rfl⟩
  have hn64 : n ≤ 64 := by rw [hn.out]; exact hok.2.1
  have hWe := hW.out.symm
  rw [← hn.out] at hbc hWe HCN hc ⊢
  rw [← hn1.out] at hbc hWe HCN HM hc1 ⊢
  have HC := Lib.hid hbc
  have HA := Lib.hid hba
  obtain ⟨l0, l1⟩ := hbc
  obtain ⟨j0, j1⟩ := hba
  have HB0 := Lib.hid hb0
  have hlt0 : w.heap.size < W.heap.size := by omega
  have hlt1 : w.heap.size + 1 < W.heap.size := by omega
  have hsW : w.heap.size ≤ W.heap.size := by omega
  clear hb0 hrd hok hW hx hm0 hd0
  go_enter Try.func21, Try.ntmps21
  go_upto_region 1 with fail
  clear hWe
  go_wp2_with fail
  (with_reducible refine HCN.out.mono ?_); rintro e w1 ⟨b, rfl, hbi, hb1⟩
  obtain rfl : b = true := hbi.2 HOK.out
  have HB1 := Lib.hid hb1
  obtain ⟨k0, k1⟩ := HC.out.below hb1 hlt0
  obtain ⟨i0, i1⟩ := HA.out.below hb1 hlt1
  have HU := Lib.hid (upTo_any _ ms a w1 (HM.out.below hb1) (by have := HOK.out.1; omega) HOK.out.2.2.1)
  obtain ⟨u, hu⟩ : ∃ u, Hid (u = markOf ms a) := ⟨_, Lib.hid rfl⟩
  rw [← hu.out] at HU
  clear hb1 hbi l0 l1 j0 j1 HCN
  go_wp2_with fail
  (with_reducible refine HU.out.mono ?_); rintro e w2 ⟨rfl, hb2⟩
  have HB2 := Lib.hid (HB1.out.trans (hb2.mono HB1.out.size))
  obtain ⟨l0, l1⟩ := HC.out.below HB2.out hlt0
  clear k0 k1 i0 i1 hb2 HU
  go_wp2
  go_loopw [18, 5] (fun i t wr => ∃ (k : Nat) (tv : Int), k ≤ n ∧ i = .int .i64 k ∧ t = .int .i64 tv ∧ Hid (tv = (ds.take k).foldl (topF a) u) ∧ Below W.heap.size W wr) (fun i _ _ => n - (intOf i).toNat)
  case atStart => exact ⟨0, u, Nat.zero_le _, rfl, rfl, Lib.hid (by simp), HB2.out⟩
  case round =>
    obtain ⟨k, tv, hk, rfl, rfl, HT, hb⟩ := hrel
    have HB := Lib.hid hb
    have hbs := hb.size
    have hxr := HX.out.below hb hsW
    by_cases hlt : k < n
    · obtain ⟨x, hd⟩ : ∃ x, ds[k]? = some x := ⟨ds[k]'(by have := hn.out; omega), List.getElem?_eq_getElem _⟩
      obtain ⟨ad, rfl, hadlt, hda⟩ := hxr k x hd
      obtain ⟨d0, d1, d2⟩ := hda
      have HTK := Lib.hid (take_at hd)
      obtain ⟨W1, hW1⟩ : ∃ W1, Hid (W1 = wr.alloc (.cells #[.int .i64 x.1, .int .i64 x.2.1, .int .i64 x.2.2] 44)) := ⟨_, Lib.hid rfl⟩
      have hbA : Below wr.heap.size wr W1 := by rw [hW1.out]; exact (Below.refl _ _).alloc (Nat.le_refl _) _
      have hzW1 : wr.heap.size < W1.heap.size := by rw [hW1.out]; simp
      have k0 : BoxD W1 wr.heap.size x := by
        have := boxD wr 44 x
        rw [← hW1.out] at this
        exact this
      have hb1 := hb.trans (hbA.mono hbs)
      have ha1 := HA.out.below hb1 hlt1
      have cO := re_of (ofDot_any x) W1
      have e0 := cell_regrown k0.1
      have e1 := cell_regrown k0.2.1
      have e2 := cell_regrown k0.2.2
      have j0 := cell_regrown ha1.1
      have j1 := cell_regrown ha1.2
      have hWe1 := hW1.out.symm
      have HBB : ∀ dq osq, Hid (Below W.heap.size W (grow (redrawn W1 dq) osq)) := fun dq osq => Lib.hid (below_re hb1 dq osq)
      have hEq := act_eq (actOf x) a
      clear hd hxr hb hbA k0 ha1 hb1
      by_cases heq : actOf x = a
      · rw [show decide (actOf x = a) = true by simpa using heq] at hEq
        have HNX : Hid (max tv x.2.2 = (ds.take (k + 1)).foldl (topF a) u) := Lib.hid (by rw [HTK.out, List.foldl_append, ← HT.out]; simp [topF, heq])
        clear heq
        rcases Int.lt_trichotomy tv x.2.2 with hx | hx | hx
        · have HN2 : Hid (x.2.2 = (ds.take (k + 1)).foldl (topF a) u) := Lib.hid (by rw [← HNX.out]; omega)
          go_upto_region 7 with fail
          clear hWe1
          refine wp_region_quiet_below (by kernel_rfl) (by kernel_rfl) ?_
          repeat (first | go_big_quiet_step (first | exact cO _ _) | quiet_step (first | exact cO _ _))
          refine wpQuiet_nil ?_
          intro _ hw'
          obtain ⟨⟨dq, osq⟩, hw''⟩ := hw'
          subst hw''
          have HX2 := HBB dq osq
          clear HBB
          go_wp2
          go_roundw
          case rel => exact ⟨k + 1, _, by omega, by go_num, rfl, HN2, HX2.out⟩
          case measure => simp [intOf]; omega
        · have HN2 : Hid (x.2.2 = (ds.take (k + 1)).foldl (topF a) u) := Lib.hid (by rw [← HNX.out]; omega)
          subst hx
          go_upto_region 7 with fail
          clear hWe1
          refine wp_region_quiet_below (by kernel_rfl) (by kernel_rfl) ?_
          repeat (first | go_big_quiet_step (first | exact cO _ _) | quiet_step (first | exact cO _ _))
          refine wpQuiet_nil ?_
          intro _ hw'
          obtain ⟨⟨dq, osq⟩, hw''⟩ := hw'
          subst hw''
          have HX2 := HBB dq osq
          clear HBB
          go_wp2
          go_roundw
          case rel => exact ⟨k + 1, _, by omega, by go_num, rfl, HN2, HX2.out⟩
          case measure => simp [intOf]; omega
        · have HN2 : Hid (tv = (ds.take (k + 1)).foldl (topF a) u) := Lib.hid (by rw [← HNX.out]; omega)
          go_upto_region 7 with fail
          clear hWe1
          refine wp_region_quiet_below (by kernel_rfl) (by kernel_rfl) ?_
          repeat (first | go_big_quiet_step (first | exact cO _ _) | quiet_step (first | exact cO _ _))
          refine wpQuiet_nil ?_
          intro _ hw'
          obtain ⟨⟨dq, osq⟩, hw''⟩ := hw'
          subst hw''
          have HX2 := HBB dq osq
          clear HBB
          go_wp2
          go_roundw
          case rel => exact ⟨k + 1, _, by omega, by go_num, rfl, HN2, HX2.out⟩
          case measure => simp [intOf]; omega
      · rw [show decide (actOf x = a) = false by simpa using heq] at hEq
        have HN2 : Hid (tv = (ds.take (k + 1)).foldl (topF a) u) := Lib.hid (by rw [HTK.out, List.foldl_append, ← HT.out]; simp [topF, heq])
        clear heq
        go_upto_region 7 with fail
        clear hWe1
        refine wp_region_quiet_below (by kernel_rfl) (by kernel_rfl) ?_
        repeat (first | go_big_quiet_step (first | exact cO _ _) | quiet_step (first | exact cO _ _))
        refine wpQuiet_nil ?_
        intro _ hw'
        obtain ⟨⟨dq, osq⟩, hw''⟩ := hw'
        subst hw''
        have HX2 := HBB dq osq
        clear HBB
        go_wp2
        go_roundw
        case rel => exact ⟨k + 1, _, by omega, by go_num, rfl, HN2, HX2.out⟩
        case measure => simp [intOf]; omega
    · have hkn : k = n := by omega
      have HE : Hid (r = tv) := Lib.hid (by
        rw [hr.out, HT.out, hkn, hn.out, List.take_length, hu.out]; rfl)
      clear hxr hb hkn
      go_wp2
      go_ret
      exact ⟨ret_int HE.out.symm, HB0.out.trans (HB.out.mono hsW)⟩
end Go.Proofs.Ytfplblhmeohhmaa
