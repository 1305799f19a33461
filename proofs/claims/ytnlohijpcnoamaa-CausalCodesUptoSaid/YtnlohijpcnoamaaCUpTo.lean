/- upTo: the count of an actor's mark. -/
import Derived.Test.YtnlohijpcnoamaaCMarks
namespace Go.Proofs.Ytnlohijpcnoamaa
open Go.RowKit Go.Sort Go.BigFrame
open Go.Lib (byteCells byteCells_length)

set_option maxRecDepth 100000 in
set_option maxHeartbeats 800000 in
theorem upTo1_any (d : DotA) (a : ActA) (w : World) : Calls Try.prog 70 #[dotV d, actV a] w fun e w' => e = .returned (.int .i64 (cmpA (actOf d) a)) ∧ Below w.heap.size w w' := by
  obtain ⟨n, l, c⟩ := d
  obtain ⟨a1, a2⟩ := a
  obtain ⟨W, hW⟩ : ∃ W, Hid (W = (w.alloc (.cells #[.int .i64 n, .int .i64 l, .int .i64 c] 53)).alloc (.cells #[.int .i64 a1, .int .i64 a2] 93)) := ⟨_, Lib.hid rfl⟩
  have hb : Below w.heap.size w W := by rw [hW.out]; exact ((Below.refl _ _).alloc (Nat.le_refl _) _).alloc (by simp) _
  have hr := heap_alloc_new (w.alloc (.cells #[.int .i64 n, .int .i64 l, .int .i64 c] 53)) (.cells #[.int .i64 a1, .int .i64 a2] 93)
  rw [← hW.out, show (w.alloc (.cells #[.int .i64 n, .int .i64 l, .int .i64 c] 53)).heap.size = w.heap.size + 1 by simp] at hr
  have hr0 : W.heap[w.heap.size]? = some (.cells #[.int .i64 n, .int .i64 l, .int .i64 c] 53 (0, 0)) := by
    rw [hW.out]
    exact (Below.heap_alloc _ _ _ (by simp)).trans (heap_alloc_new w _)
  have j0 := cell_regrown (cell_of_row W _ 0 _ _ (0, 0) hr0)
  have j1 := cell_regrown (cell_of_row W _ 1 _ _ (0, 0) hr0)
  have j2 := cell_regrown (cell_of_row W _ 2 _ _ (0, 0) hr0)
  have q0 := cell_regrown (cell_of_row W _ 0 _ _ (0, 0) hr)
  have q1 := cell_regrown (cell_of_row W _ 1 _ _ (0, 0) hr)
  have cO := re_of (ofMark_any (n, l, c)) W
  have cC := re_of (cmpA_any (actOf (n, l, c)) (a1, a2)) W
  have HBB : ∀ dq osq, Hid (Below w.heap.size w (grow (redrawn W dq) osq)) := fun dq osq => Lib.hid (below_re hb dq osq)
  obtain ⟨r, hrr⟩ : ∃ r, Hid (r = cmpA (actOf (n, l, c)) (a1, a2)) := ⟨_, Lib.hid rfl⟩
  rw [← hrr.out] at cC ⊢
  have hWe := hW.out.symm
  clear hr hr0 hb
  go_enter Try.func70, Try.ntmps70
  go_upto_region 1 with fail
  clear hWe
  refine wp_region_quiet_below (by kernel_rfl) (by kernel_rfl) ?_
  repeat (first | go_big_quiet_step (first | exact cO _ _ | exact cC _ _) | quiet_step (first | exact cO _ _ | exact cC _ _))
  refine wpQuiet_nil ?_
  intro _ hw'
  obtain ⟨⟨dq, osq⟩, hw''⟩ := hw'
  subst hw''
  have HX2 := HBB dq osq
  clear HBB
  go_wp2
  go_ret
  exact ⟨rfl, HX2.out⟩

/-- Where an actor's mark stands, or would stand. -/
def Found (ms : List DotA) (a : ActA) (i : Nat) (b : Bool) : Prop :=
  i ≤ ms.length ∧ (∀ (j : Nat) (d : DotA), j < i → ms[j]? = some d → cmpA (actOf d) a < 0) ∧ (∀ (j : Nat) (d : DotA), i ≤ j → ms[j]? = some d → 0 ≤ cmpA (actOf d) a) ∧ (b = true ↔ ∃ d, ms[i]? = some d ∧ cmpA (actOf d) a = 0)
def SearchPost (ms : List DotA) (a : ActA) (w : World) (e : Ending) (w' : World) : Prop := ∃ (i : Nat) (b : Bool), e = .returned (.tuple #[.int .i64 i, .bool b]) ∧ Found ms a i b ∧ Below w.heap.size w w'

set_option maxRecDepth 100000 in
set_option maxHeartbeats 3200000 in
theorem search_any (v : Value) (ms : List DotA) (a : ActA) (w : World) (h : RdD w v ms) (hl : ms.length ≤ 1099511627776) (hs : ∀ (i j : Nat) (x y : DotA), i ≤ j → ms[i]? = some x → ms[j]? = some y → cmpA (actOf y) a < 0 → cmpA (actOf x) a < 0) :
    Calls Try.prog 69 #[v, actV a, .func (.func 70) #[] #[]] w (SearchPost ms a w) := by
  have HR := Lib.hid h
  have HS := Lib.hid hs
  obtain ⟨A, c, rfl, hc, hx⟩ := h
  obtain ⟨n, hn⟩ : ∃ n, Hid (n = ms.length) := ⟨_, Lib.hid rfl⟩
  rw [← hn.out] at hl hc ⊢
  have HX := Lib.hid hx
  have h0 : (w.alloc (.cells #[.int .i64 a.1, .int .i64 a.2] 93)).cell? ⟨w.heap.size, 0, none⟩ = some (.int .i64 a.1) := box_cell _ _ _ 0
  have h1 : (w.alloc (.cells #[.int .i64 a.1, .int .i64 a.2] 93)).cell? ⟨w.heap.size, 1, none⟩ = some (.int .i64 a.2) := box_cell _ _ _ 1
  have hb0 : Below w.heap.size w (w.alloc (.cells #[.int .i64 a.1, .int .i64 a.2] 93)) := (Below.refl _ _).alloc (Nat.le_refl _) _
  obtain ⟨W, hW⟩ : ∃ W, Hid (W = w.alloc (.cells #[.int .i64 a.1, .int .i64 a.2] 93)) := ⟨_, Lib.hid rfl⟩
  rw [← hW.out] at h0 h1 hb0
  have H0 := Lib.hid h0
  have H1 := Lib.hid h1
  have HB0 := Lib.hid hb0
  have hlt0 : w.heap.size < W.heap.size := by rw [hW.out]; simp
  have hWe := hW.out.symm
  clear hx hs h0 h1 hb0
  go_enter Try.func69, Try.ntmps69
  go_wp2
  clear hWe
  go_loopw [9, 10] (fun s9 s10 wr => ∃ lo hi : Nat, s9 = .int .i64 lo ∧ s10 = .int .i64 hi ∧ lo ≤ hi ∧ hi ≤ n ∧ Below W.heap.size W wr ∧ Hid ((∀ (j : Nat) (d : DotA), j < lo → ms[j]? = some d → cmpA (actOf d) a < 0) ∧ (∀ (j : Nat) (d : DotA), hi ≤ j → ms[j]? = some d → 0 ≤ cmpA (actOf d) a))) (fun s9 s10 _ => (intOf s10).toNat - (intOf s9).toNat)
  case atStart => exact ⟨0, n, rfl, rfl, Nat.zero_le _, Nat.le_refl _, Below.refl _ _, Lib.hid ⟨fun j d hj => absurd hj (Nat.not_lt_zero _), fun j d hj hd => by
    rw [List.getElem?_eq_none (by have := hn.out; omega)] at hd; cases hd⟩⟩
  case round =>
    obtain ⟨lo, hi, rfl, rfl, hlh, hin, hb, HI⟩ := hrel
    have HB := Lib.hid hb
    have hbw : Below w.heap.size w wr := HB0.out.trans (hb.mono HB0.out.size)
    have hxr := HX.out.below hbw (Nat.le_refl _)
    have r0 := cell_regrown ((hb.cell (p := ⟨w.heap.size, 0, none⟩) hlt0).trans H0.out)
    have r1 := cell_regrown ((hb.cell (p := ⟨w.heap.size, 1, none⟩) hlt0).trans H1.out)
    have HBB : ∀ dq osq, Hid (Below W.heap.size W (grow (redrawn wr dq) osq)) := fun dq osq => Lib.hid (below_re hb dq osq)
    clear hb hbw
    by_cases hlt : lo < hi
    · obtain ⟨m, hm⟩ : ∃ m, Hid (m = (lo + hi) / 2) := ⟨_, Lib.hid rfl⟩
      have hm1 : lo ≤ m := by rw [hm.out]; omega
      have hm2 : m < hi := by rw [hm.out]; omega
      obtain ⟨d, hd⟩ : ∃ d, ms[m]? = some d := ⟨ms[m]'(by have := hn.out; omega), List.getElem?_eq_getElem _⟩
      obtain ⟨ad, rfl, _, hpa⟩ := hxr m d hd
      have p0 := cell_regrown hpa.1
      have p1 := cell_regrown hpa.2.1
      have p2 := cell_regrown hpa.2.2
      have cC := re_of (upTo1_any d a) wr
      obtain ⟨r, hr⟩ : ∃ r, Hid (r = cmpA (actOf d) a) := ⟨_, Lib.hid rfl⟩
      rw [← hr.out] at cC
      have HD := Lib.hid hd
      clear hd hpa hxr
      have em : ((lo : Int) + (hi : Int)) / 2 = (m : Int) := by rw [hm.out]; omega
      by_cases hneg : r < 0
      · have dr : decide (r < 0) = true := by simpa using hneg
        clear hneg
        go_upto_region 5 with fail
        clear em
        refine wp_region_quiet_below (by kernel_rfl) (by kernel_rfl) ?_
        repeat (first | go_big_quiet_step (first | exact cC _ _) | quiet_step (first | exact cC _ _))
        refine wpQuiet_nil ?_
        intro _ hw'
        obtain ⟨⟨dq, osq⟩, hw''⟩ := hw'
        subst hw''
        have HX2 := HBB dq osq
        clear HBB
        go_wp2
        go_roundw
        case rel =>
          exact ⟨m + 1, hi, by go_num, rfl, by omega, hin, HX2.out, Lib.hid ⟨fun j y hj hy => HS.out j m y d (by omega) hy HD.out (by rw [← hr.out]; simpa using dr), HI.out.2⟩⟩
        case measure => simp [intOf]; omega
      · have dr : decide (r < 0) = false := by simpa using hneg
        clear hneg
        go_upto_region 5 with fail
        clear em
        refine wp_region_quiet_below (by kernel_rfl) (by kernel_rfl) ?_
        repeat (first | go_big_quiet_step (first | exact cC _ _) | quiet_step (first | exact cC _ _))
        refine wpQuiet_nil ?_
        intro _ hw'
        obtain ⟨⟨dq, osq⟩, hw''⟩ := hw'
        subst hw''
        have HX2 := HBB dq osq
        clear HBB
        go_wp2
        go_roundw
        case rel =>
          refine ⟨lo, m, rfl, rfl, by omega, by omega, HX2.out, Lib.hid ⟨HI.out.1, fun j y hj hy => ?_⟩⟩
          by_cases h1 : 0 ≤ cmpA (actOf y) a
          · exact h1
          · have h2 := HS.out m j d y hj HD.out hy (by omega)
            rw [← hr.out] at h2
            simp at dr
            omega
        case measure => simp [intOf]; omega
    · obtain rfl : lo = hi := by omega
      by_cases hn2 : lo < n
      · obtain ⟨d, hd⟩ : ∃ d, ms[lo]? = some d := ⟨ms[lo]'(by have := hn.out; omega), List.getElem?_eq_getElem _⟩
        obtain ⟨ad, rfl, _, hpa⟩ := hxr lo d hd
        have p0 := cell_regrown hpa.1
        have p1 := cell_regrown hpa.2.1
        have p2 := cell_regrown hpa.2.2
        have cC := re_of (upTo1_any d a) wr
        obtain ⟨r, hr⟩ : ∃ r, Hid (r = cmpA (actOf d) a) := ⟨_, Lib.hid rfl⟩
        rw [← hr.out] at cC
        have HD := Lib.hid hd
        have hnl : lo ≤ ms.length := by rw [← hn.out]; omega
        have HNL := Lib.hid hnl
        clear hd hpa hxr hnl
        by_cases hz : r = 0
        · have dr : (r == 0) = true := by simpa using hz
          have HF : Hid (Found ms a lo true) := Lib.hid ⟨HNL.out, HI.out.1, HI.out.2, by simp only [true_iff]; exact ⟨d, HD.out, by rw [← hr.out]; exact hz⟩⟩
          clear hz
          go_upto_region 8 with fail
          refine wp_region_quiet_below (by kernel_rfl) (by kernel_rfl) ?_
          repeat (first | go_big_quiet_step (first | exact cC _ _) | quiet_step (first | exact cC _ _))
          refine wpQuiet_nil ?_
          intro _ hw'
          obtain ⟨⟨dq, osq⟩, hw''⟩ := hw'
          subst hw''
          have HX2 := HBB dq osq
          clear HBB
          go_wp2
          go_ret2
          exact ⟨lo, true, rfl, HF.out, HB0.out.trans (HX2.out.mono HB0.out.size)⟩
        · have dr : (r == 0) = false := by simpa using hz
          have HF : Hid (Found ms a lo false) := Lib.hid ⟨HNL.out, HI.out.1, HI.out.2, by
            simp only [Bool.false_eq_true, false_iff]
            rintro ⟨x, hx, hx0⟩
            rw [HD.out] at hx; injection hx with hx; subst hx
            exact hz (by rw [hr.out]; exact hx0)⟩
          clear hz
          go_upto_region 8 with fail
          refine wp_region_quiet_below (by kernel_rfl) (by kernel_rfl) ?_
          repeat (first | go_big_quiet_step (first | exact cC _ _) | quiet_step (first | exact cC _ _))
          refine wpQuiet_nil ?_
          intro _ hw'
          obtain ⟨⟨dq, osq⟩, hw''⟩ := hw'
          subst hw''
          have HX2 := HBB dq osq
          clear HBB
          go_wp2
          go_ret2
          exact ⟨lo, false, rfl, HF.out, HB0.out.trans (HX2.out.mono HB0.out.size)⟩
      · have HF : Hid (Found ms a lo false) := Lib.hid ⟨by rw [← hn.out]; omega, HI.out.1, HI.out.2, by
          simp only [Bool.false_eq_true, false_iff]
          rintro ⟨x, hx, hx0⟩
          rw [List.getElem?_eq_none (by rw [← hn.out]; omega)] at hx
          cases hx⟩
        clear hxr
        go_upto_region 8 with fail
        refine wp_region_quiet_below (by kernel_rfl) (by kernel_rfl) ?_
        repeat (first | go_big_quiet_step (fail) | quiet_step (fail))
        refine wpQuiet_nil ?_
        intro _ hw'
        obtain ⟨⟨dq, osq⟩, hw''⟩ := hw'
        subst hw''
        have HX2 := HBB dq osq
        clear HBB
        go_wp2
        go_ret2
        exact ⟨lo, false, rfl, HF.out, HB0.out.trans (HX2.out.mono HB0.out.size)⟩
end Go.Proofs.Ytnlohijpcnoamaa
