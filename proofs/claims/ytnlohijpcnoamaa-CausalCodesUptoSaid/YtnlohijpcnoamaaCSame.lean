/- What is asked, by the document; whether two contexts are the same. -/
import Derived.Test.YtnlohijpcnoamaaCRefPrune
import Derived.Test.YtnlohijpcnoamaaCLeq
import Derived.Laws.StructEq
namespace Go.Proofs.Ytnlohijpcnoamaa
open Go.RowKit Go.Sort Go.BigFrame
open Go.Lib (byteCells byteCells_length)

theorem neMark (a b : DotA) (w : World) : (binOp .neq 53 (dotV a) (dotV b)).run Try.prog w = .ok (.bool (!decide (a = b))) w := by
  have u3 := Try.underlying3
  have a3 := Try.isAgg3
  have z3 := Try.sizeOf3
  have hS : Try.prog.underlying 53 = some (.struct (Try.prog.fieldsOf 53)) := by kernel_rfl
  have hp : Try.prog.stoodInHeld 53 = false := by kernel_rfl
  obtain ⟨a1, a2, a4⟩ := a
  obtain ⟨b1, b2, b4⟩ := b
  rw [run_neq_struct, show (10000 : Nat) = 9999 + 1 from rfl, run_equalIn_agg w 9999 53 _ _ hS hp]
  simp only [Program.fieldsOf, Try.underlying53]
  go_simp
  by_cases h1 : a1 = b1 <;> by_cases h2 : a2 = b2 <;> by_cases h3 : a4 = b4 <;> simp [h1, h2, h3]

set_option maxRecDepth 100000 in
set_option maxHeartbeats 3200000 in
theorem equalMark_any (v v1 : Value) (ds es : List DotA) (w : World) (h : RdD w v ds) (h1 : RdD w v1 es) (hl : ds.length ≤ 1099511627776) : Calls Try.prog 36 #[v, v1] w (Tells (ds = es) w) := by
  obtain ⟨A, c, rfl, hc, hx⟩ := h
  obtain ⟨A1, c1, rfl, hc1, hx1⟩ := h1
  obtain ⟨n, hn⟩ : ∃ n, Hid (n = ds.length) := ⟨_, Lib.hid rfl⟩
  obtain ⟨n1, hn1⟩ : ∃ n1, Hid (n1 = es.length) := ⟨_, Lib.hid rfl⟩
  rw [← hn.out] at hl hc ⊢
  rw [← hn1.out] at hc1 ⊢
  have HX := Lib.hid hx
  have HX1 := Lib.hid hx1
  clear hx hx1
  by_cases hne : n = n1
  · have dn : ((n : Int) != (n1 : Int)) = false := by simp [hne]
    have HNE := Lib.hid hne
    have hk1 : n ≤ c1 := by omega
    clear hne
    go_enter Try.func36, Try.ntmps36
    go_wp2
    go_loopw [13] (fun i wr => ∃ k : Nat, k ≤ n ∧ i = .int .i64 k ∧ Hid (∀ (j : Nat) (x : DotA), j < k → ds[j]? = some x → es[j]? = some x) ∧ Below w.heap.size w wr) (fun i _ => n - (intOf i).toNat)
    case atStart => exact ⟨0, Nat.zero_le _, rfl, Lib.hid (fun j x hj => absurd hj (Nat.not_lt_zero _)), Below.refl _ _⟩
    case round =>
      obtain ⟨k, hk, rfl, HO, hb⟩ := hrel
      have HB := Lib.hid hb
      have hxr := HX.out.below hb (Nat.le_refl _)
      have hxr1 := HX1.out.below hb (Nat.le_refl _)
      have hbs := hb.size
      by_cases hlt : k < n
      · obtain ⟨x, hd⟩ : ∃ x, ds[k]? = some x := ⟨ds[k]'(by have := hn.out; omega), List.getElem?_eq_getElem _⟩
        obtain ⟨y, he⟩ : ∃ y, es[k]? = some y := ⟨es[k]'(by have := hn1.out; have := HNE.out; omega), List.getElem?_eq_getElem _⟩
        obtain ⟨ad, rfl, hadlt, hda⟩ := hxr k x hd
        obtain ⟨ad1, rfl, hadlt1, hda1⟩ := hxr1 k y he
        have p0 := cell_regrown hda.1
        have p1 := cell_regrown hda.2.1
        have p2 := cell_regrown hda.2.2
        have j0 := cell_regrown hda1.1
        have j1 := cell_regrown hda1.2.1
        have j2 := cell_regrown hda1.2.2
        have HD := Lib.hid hd
        have HE := Lib.hid he
        have hltn1 : k < n1 := by have := HNE.out; omega
        have HBB : ∀ dq osq, Hid (Below w.heap.size w (grow (redrawn wr dq) osq)) := fun dq osq => Lib.hid (below_re hb dq osq)
        have hEq := neMark x y
        clear hd he hda hda1 hb hxr hxr1
        by_cases heq : x = y
        · have HN : Hid (∀ (j : Nat) (z : DotA), j < k + 1 → ds[j]? = some z → es[j]? = some z) := Lib.hid (fun j z hj hz => by
            by_cases hjk : j = k
            · subst hjk; rw [HD.out] at hz; injection hz with hz; rw [← hz, heq]; exact HE.out
            · exact HO.out j z (by omega) hz)
          rw [show (!decide (x = y)) = false by simpa using heq] at hEq
          clear heq
          go_upto_region 6 with fail
          refine wp_region_quiet_below (by kernel_rfl) (by kernel_rfl) ?_
          repeat (first | go_big_quiet_step (fail) | quiet_step (fail))
          refine wpQuiet_nil ?_
          intro _ hw'
          obtain ⟨⟨dq, osq⟩, hw''⟩ := hw'
          subst hw''
          have HX2 := HBB dq osq
          clear HBB
          go_wp2
          go_roundw
          case rel => exact ⟨k + 1, by omega, by go_num, HN, HX2.out⟩
          case measure => simp [intOf]; omega
        · have HN : Hid (¬ ds = es) := Lib.hid (fun e => by
            have h1 := HD.out
            rw [e, HE.out] at h1
            injection h1 with h1
            exact heq h1.symm)
          rw [show (!decide (x = y)) = true by simpa using heq] at hEq
          clear heq
          go_upto_region 6 with fail
          refine wp_region_quiet_below (by kernel_rfl) (by kernel_rfl) ?_
          repeat (first | go_big_quiet_step (fail) | quiet_step (fail))
          refine wpQuiet_nil ?_
          intro _ hw'
          obtain ⟨⟨dq, osq⟩, hw''⟩ := hw'
          subst hw''
          have HX2 := HBB dq osq
          clear HBB
          go_wp2
          go_ret
          exact ⟨false, rfl, by simp [HN.out], HX2.out⟩
      · have hkn : k = n := by omega
        have HE : Hid (ds = es) := Lib.hid (by
          apply List.ext_getElem?
          intro j
          by_cases hj : j < n
          · obtain ⟨x, hd⟩ : ∃ x, ds[j]? = some x := ⟨ds[j]'(by have := hn.out; omega), List.getElem?_eq_getElem _⟩
            rw [hd, HO.out j x (by omega) hd]
          · rw [List.getElem?_eq_none (by have := hn.out; omega), List.getElem?_eq_none (by have := hn1.out; have := HNE.out; omega)])
        clear hxr hxr1 hb hkn
        go_wp2
        go_ret
        exact ⟨true, rfl, by simp [HE.out], HB.out⟩
  · have dn : ((n : Int) != (n1 : Int)) = true := by simp; omega
    have HN : Hid (¬ ds = es) := Lib.hid (fun e => hne (by rw [hn.out, hn1.out, e]))
    clear hne
    go_enter Try.func36, Try.ntmps36
    go_wp2
    go_ret
    exact ⟨false, rfl, by simp [HN.out], Below.refl _ _⟩

theorem neDot (a b : DotA) (w : World) : (binOp .neq 55 (dotV a) (dotV b)).run Try.prog w = .ok (.bool (!decide (a = b))) w := by
  have u3 := Try.underlying3
  have a3 := Try.isAgg3
  have z3 := Try.sizeOf3
  have hS : Try.prog.underlying 55 = some (.struct (Try.prog.fieldsOf 55)) := by kernel_rfl
  have hp : Try.prog.stoodInHeld 55 = false := by kernel_rfl
  obtain ⟨a1, a2, a4⟩ := a
  obtain ⟨b1, b2, b4⟩ := b
  rw [run_neq_struct, show (10000 : Nat) = 9999 + 1 from rfl, run_equalIn_agg w 9999 55 _ _ hS hp]
  simp only [Program.fieldsOf, Try.underlying55]
  go_simp
  by_cases h1 : a1 = b1 <;> by_cases h2 : a2 = b2 <;> by_cases h3 : a4 = b4 <;> simp [h1, h2, h3]

set_option maxRecDepth 100000 in
set_option maxHeartbeats 3200000 in
theorem equalDot_any (v v1 : Value) (ds es : List DotA) (w : World) (h : RdD w v ds) (h1 : RdD w v1 es) (hl : ds.length ≤ 1099511627776) : Calls Try.prog 37 #[v, v1] w (Tells (ds = es) w) := by
  obtain ⟨A, c, rfl, hc, hx⟩ := h
  obtain ⟨A1, c1, rfl, hc1, hx1⟩ := h1
  obtain ⟨n, hn⟩ : ∃ n, Hid (n = ds.length) := ⟨_, Lib.hid rfl⟩
  obtain ⟨n1, hn1⟩ : ∃ n1, Hid (n1 = es.length) := ⟨_, Lib.hid rfl⟩
  rw [← hn.out] at hl hc ⊢
  rw [← hn1.out] at hc1 ⊢
  have HX := Lib.hid hx
  have HX1 := Lib.hid hx1
  clear hx hx1
  by_cases hne : n = n1
  · have dn : ((n : Int) != (n1 : Int)) = false := by simp [hne]
    have HNE := Lib.hid hne
    have hk1 : n ≤ c1 := by omega
    clear hne
    go_enter Try.func37, Try.ntmps37
    go_wp2
    go_loopw [13] (fun i wr => ∃ k : Nat, k ≤ n ∧ i = .int .i64 k ∧ Hid (∀ (j : Nat) (x : DotA), j < k → ds[j]? = some x → es[j]? = some x) ∧ Below w.heap.size w wr) (fun i _ => n - (intOf i).toNat)
    case atStart => exact ⟨0, Nat.zero_le _, rfl, Lib.hid (fun j x hj => absurd hj (Nat.not_lt_zero _)), Below.refl _ _⟩
    case round =>
      obtain ⟨k, hk, rfl, HO, hb⟩ := hrel
      have HB := Lib.hid hb
      have hxr := HX.out.below hb (Nat.le_refl _)
      have hxr1 := HX1.out.below hb (Nat.le_refl _)
      have hbs := hb.size
      by_cases hlt : k < n
      · obtain ⟨x, hd⟩ : ∃ x, ds[k]? = some x := ⟨ds[k]'(by have := hn.out; omega), List.getElem?_eq_getElem _⟩
        obtain ⟨y, he⟩ : ∃ y, es[k]? = some y := ⟨es[k]'(by have := hn1.out; have := HNE.out; omega), List.getElem?_eq_getElem _⟩
        obtain ⟨ad, rfl, hadlt, hda⟩ := hxr k x hd
        obtain ⟨ad1, rfl, hadlt1, hda1⟩ := hxr1 k y he
        have p0 := cell_regrown hda.1
        have p1 := cell_regrown hda.2.1
        have p2 := cell_regrown hda.2.2
        have j0 := cell_regrown hda1.1
        have j1 := cell_regrown hda1.2.1
        have j2 := cell_regrown hda1.2.2
        have HD := Lib.hid hd
        have HE := Lib.hid he
        have hltn1 : k < n1 := by have := HNE.out; omega
        have HBB : ∀ dq osq, Hid (Below w.heap.size w (grow (redrawn wr dq) osq)) := fun dq osq => Lib.hid (below_re hb dq osq)
        have hEq := neDot x y
        clear hd he hda hda1 hb hxr hxr1
        by_cases heq : x = y
        · have HN : Hid (∀ (j : Nat) (z : DotA), j < k + 1 → ds[j]? = some z → es[j]? = some z) := Lib.hid (fun j z hj hz => by
            by_cases hjk : j = k
            · subst hjk; rw [HD.out] at hz; injection hz with hz; rw [← hz, heq]; exact HE.out
            · exact HO.out j z (by omega) hz)
          rw [show (!decide (x = y)) = false by simpa using heq] at hEq
          clear heq
          go_upto_region 6 with fail
          refine wp_region_quiet_below (by kernel_rfl) (by kernel_rfl) ?_
          repeat (first | go_big_quiet_step (fail) | quiet_step (fail))
          refine wpQuiet_nil ?_
          intro _ hw'
          obtain ⟨⟨dq, osq⟩, hw''⟩ := hw'
          subst hw''
          have HX2 := HBB dq osq
          clear HBB
          go_wp2
          go_roundw
          case rel => exact ⟨k + 1, by omega, by go_num, HN, HX2.out⟩
          case measure => simp [intOf]; omega
        · have HN : Hid (¬ ds = es) := Lib.hid (fun e => by
            have h1 := HD.out
            rw [e, HE.out] at h1
            injection h1 with h1
            exact heq h1.symm)
          rw [show (!decide (x = y)) = true by simpa using heq] at hEq
          clear heq
          go_upto_region 6 with fail
          refine wp_region_quiet_below (by kernel_rfl) (by kernel_rfl) ?_
          repeat (first | go_big_quiet_step (fail) | quiet_step (fail))
          refine wpQuiet_nil ?_
          intro _ hw'
          obtain ⟨⟨dq, osq⟩, hw''⟩ := hw'
          subst hw''
          have HX2 := HBB dq osq
          clear HBB
          go_wp2
          go_ret
          exact ⟨false, rfl, by simp [HN.out], HX2.out⟩
      · have hkn : k = n := by omega
        have HE : Hid (ds = es) := Lib.hid (by
          apply List.ext_getElem?
          intro j
          by_cases hj : j < n
          · obtain ⟨x, hd⟩ : ∃ x, ds[j]? = some x := ⟨ds[j]'(by have := hn.out; omega), List.getElem?_eq_getElem _⟩
            rw [hd, HO.out j x (by omega) hd]
          · rw [List.getElem?_eq_none (by have := hn.out; omega), List.getElem?_eq_none (by have := hn1.out; have := HNE.out; omega)])
        clear hxr hxr1 hb hkn
        go_wp2
        go_ret
        exact ⟨true, rfl, by simp [HE.out], HB.out⟩
  · have dn : ((n : Int) != (n1 : Int)) = true := by simp; omega
    have HN : Hid (¬ ds = es) := Lib.hid (fun e => hne (by rw [hn.out, hn1.out, e]))
    clear hne
    go_enter Try.func37, Try.ntmps37
    go_wp2
    go_ret
    exact ⟨false, rfl, by simp [HN.out], Below.refl _ _⟩

set_option maxRecDepth 100000 in
set_option maxHeartbeats 3200000 in
theorem same_any (v v1 : Value) (ms ds ms1 ds1 : List DotA) (w : World) (h : RdC w v ms ds) (h1 : RdC w v1 ms1 ds1) (hlm : ms.length ≤ 1099511627776) (hld : ds.length ≤ 1099511627776) : Calls Try.prog 18 #[v, v1] w (Tells (ms = ms1 ∧ ds = ds1) w) := by
  obtain ⟨mv, dv, rfl, hm, hd⟩ := h
  obtain ⟨mv1, dv1, rfl, hm1, hd1⟩ := h1
  obtain ⟨W, hW⟩ : ∃ W, Hid (W = (w.alloc (.cells #[mv, dv] 25)).alloc (.cells #[mv1, dv1] 25)) := ⟨_, Lib.hid rfl⟩
  have hb0 : Below w.heap.size w W := by rw [hW.out]; exact ((Below.refl _ _).alloc (Nat.le_refl _) _).alloc (by simp) _
  have hz : W.heap.size = w.heap.size + 2 := by rw [hW.out]; simp
  have hbc : BoxC W w.heap.size mv dv := by
    rw [hW.out]
    exact (show BoxC (w.alloc (.cells #[mv, dv] 25)) w.heap.size mv dv from ⟨box_cell _ _ _ 0, box_cell _ _ _ 1⟩).below ((Below.refl _ _).alloc (Nat.le_refl _) _) (by simp)
  have hba : BoxC W (w.heap.size + 1) mv1 dv1 := by
    rw [hW.out]
    have : BoxC ((w.alloc (.cells #[mv, dv] 25)).alloc (.cells #[mv1, dv1] 25)) (w.alloc (.cells #[mv, dv] 25)).heap.size mv1 dv1 := ⟨box_cell _ _ _ 0, box_cell _ _ _ 1⟩
    simpa using this
  have HD := Lib.hid (hd.below hb0)
  have HD1 := Lib.hid (hd1.below hb0)
  have HEM := Lib.hid (equalMark_any mv mv1 ms ms1 W (hm.below hb0) (hm1.below hb0) hlm)
  obtain ⟨A, c, rfl, hc, hx⟩ := hd
  obtain ⟨A1, c1, rfl, hc1, hx1⟩ := hm
  obtain ⟨A2, c2, rfl, hc2, hx2⟩ := hd1
  obtain ⟨A3, c3, rfl, hc3, hx3⟩ := hm1
  obtain ⟨n, hn⟩ : ∃ n, Hid (n = ds.length) := ⟨_, Lib.hid rfl⟩
  obtain ⟨n1, hn1⟩ : ∃ n1, Hid (n1 = ms.length) := ⟨_, Lib.hid rfl⟩
  obtain ⟨n2, hn2⟩ : ∃ n2, Hid (n2 = ds1.length) := ⟨_, Lib.hid rfl⟩
  obtain ⟨n3, hn3⟩ : ∃ n3, Hid (n3 = ms1.length) := ⟨_, Lib.hid rfl⟩
  have hWe := hW.out.symm
  rw [← hn.out, ← hn1.out, ← hn2.out, ← hn3.out] at hWe ⊢
  rw [← hn.out, ← hn1.out] at hbc
  rw [← hn2.out, ← hn3.out] at hba
  rw [← hn1.out, ← hn3.out] at HEM
  rw [← hn.out] at HD
  rw [← hn2.out] at HD1
  have HC := Lib.hid hbc
  have HA := Lib.hid hba
  obtain ⟨l0, l1⟩ := hbc
  obtain ⟨j0, j1⟩ := hba
  have HB0 := Lib.hid hb0
  have hlt0 : w.heap.size < W.heap.size := by omega
  have hlt1 : w.heap.size + 1 < W.heap.size := by omega
  clear hb0 hW hx hx1 hx2 hx3 hc hc1 hc2 hc3 hz hlm
  go_enter Try.func18, Try.ntmps18
  go_upto_region 1 with fail
  clear hWe
  go_wp2_with fail
  (with_reducible refine HEM.out.mono ?_); rintro e w1 ⟨b, rfl, hbi, hb1⟩
  have HB1 := Lib.hid (HB0.out.trans (hb1.mono HB0.out.size))
  cases b with
  | false =>
    have HN : Hid (¬ (ms = ms1 ∧ ds = ds1)) := Lib.hid (fun h => by have := hbi.2 h.1; cases this)
    clear hbi hb1 l0 l1 j0 j1
    go_wp2
    go_ret
    exact ⟨false, rfl, by simp only [Bool.false_eq_true, false_iff]; exact HN.out, HB1.out⟩
  | true =>
    have HEQ := Lib.hid (hbi.1 rfl)
    obtain ⟨k0, k1⟩ := HC.out.below hb1 hlt0
    obtain ⟨i0, i1⟩ := HA.out.below hb1 hlt1
    have HED := Lib.hid (equalDot_any _ _ ds ds1 w1 (HD.out.below hb1) (HD1.out.below hb1) hld)
    clear hbi hb1 l0 l1 j0 j1
    go_wp2_with fail
    (with_reducible refine HED.out.mono ?_); rintro e w2 ⟨b, rfl, hbi, hb2⟩
    have HB2 := Lib.hid (HB1.out.trans (hb2.mono HB1.out.size))
    have HBI := Lib.hid hbi
    clear hbi hb2
    go_wp2
    go_ret
    exact ⟨b, rfl, ⟨fun h => ⟨HEQ.out, HBI.out.1 h⟩, fun h => HBI.out.2 h.2⟩, HB2.out⟩
end Go.Proofs.Ytnlohijpcnoamaa
