/- Leq, by the document. -/
import Derived.Test.YtfplblhmeohhmaaCRefAsk
namespace Go.Proofs.Ytfplblhmeohhmaa
open Go.RowKit Go.Sort Go.BigFrame
open Go.Lib (byteCells byteCells_length)

set_option maxRecDepth 100000 in
set_option maxHeartbeats 12800000 in
theorem leq_ref (v v1 : Value) (ms ds ms1 ds1 : List DotA) (w : World) (h : RdC w v ms ds) (h1 : RdC w v1 ms1 ds1) (hok : OkC ms ds) (hok1 : OkC ms1 ds1) : Calls Try.prog 36 #[v, v1] w (Tells (LeqC ms ds ms1 ds1) w) := by
  obtain ⟨mv, dv, rfl, hm, hd⟩ := h
  obtain ⟨mv1, dv1, rfl, hm1, hd1⟩ := h1
  obtain ⟨W, hW⟩ : ∃ W, Hid (W = (w.alloc (.cells #[mv, dv] 48)).alloc (.cells #[mv1, dv1] 48)) := ⟨_, Lib.hid rfl⟩
  have hb0 : Below w.heap.size w W := by rw [hW.out]; exact ((Below.refl _ _).alloc (Nat.le_refl _) _).alloc (by simp) _
  have hz : W.heap.size = w.heap.size + 2 := by rw [hW.out]; simp
  have hbc : BoxC W w.heap.size mv dv := by
    rw [hW.out]
    exact (show BoxC (w.alloc (.cells #[mv, dv] 48)) w.heap.size mv dv from ⟨box_cell _ _ _ 0, box_cell _ _ _ 1⟩).below ((Below.refl _ _).alloc (Nat.le_refl _) _) (by simp)
  have hba : BoxC W (w.heap.size + 1) mv1 dv1 := by
    rw [hW.out]
    have : BoxC ((w.alloc (.cells #[mv, dv] 48)).alloc (.cells #[mv1, dv1] 48)) (w.alloc (.cells #[mv, dv] 48)).heap.size mv1 dv1 := ⟨box_cell _ _ _ 0, box_cell _ _ _ 1⟩
    simpa using this
  have hrd1 : RdC W (.agg #[mv1, dv1]) ms1 ds1 := ⟨mv1, dv1, rfl, hm1.below hb0, hd1.below hb0⟩
  have HM1 := Lib.hid (hm1.below hb0)
  obtain ⟨A, c, rfl, hc, hx⟩ := hd
  obtain ⟨A1, c1, rfl, hc1, hx1⟩ := hm
  obtain ⟨A2, c2, rfl, hc2, _⟩ := hd1
  obtain ⟨A3, c3, rfl, hc3, _⟩ := hm1
  have HX := Lib.hid (hx.below hb0 (Nat.le_refl _))
  have HX1 := Lib.hid (hx1.below hb0 (Nat.le_refl _))
  have HOK := Lib.hid hok
  have HOK1 := Lib.hid hok1
  have HRD1 := Lib.hid hrd1
  obtain ⟨n, hn⟩ : ∃ n, Hid (n = ds.length) := ⟨_, Lib.hid rfl⟩
  obtain ⟨n1, hn1⟩ : ∃ n1, Hid (n1 = ms.length) := ⟨_, Lib.hid rfl⟩
  obtain ⟨n2, hn2⟩ : ∃ n2, Hid (n2 = ds1.length) := ⟨_, Lib.hid rfl⟩
  obtain ⟨n3, hn3⟩ : ∃ n3, Hid (n3 = ms1.length) := ⟨_, Lib.hid rfl⟩
  have hn64 : n ≤ 64 := by rw [hn.out]; exact hok.2.1
  have hn164 : n1 ≤ 64 := by rw [hn1.out]; exact hok.1
  have hWe := hW.out.symm
  rw [← hn.out, ← hn1.out, ← hn2.out, ← hn3.out] at hWe ⊢
  rw [← hn.out, ← hn1.out] at hbc
  rw [← hn2.out, ← hn3.out] at hba HRD1
  rw [← hn3.out] at HM1 hc3
  rw [← hn.out] at hc
  rw [← hn1.out] at hc1
  rw [← hn2.out] at hc2
  have HC := Lib.hid hbc
  have HA := Lib.hid hba
  obtain ⟨l0, l1⟩ := hbc
  have HB0 := Lib.hid hb0
  have hlt0 : w.heap.size < W.heap.size := by omega
  have hlt1 : w.heap.size + 1 < W.heap.size := by omega
  have hsW : w.heap.size ≤ W.heap.size := by omega
  clear hb0 hrd1 hok hok1 hW hx hx1 hba
  go_enter Try.func36, Try.ntmps36
  go_upto_region 1 with fail
  clear hWe
  have HB2 : Hid (Below W.heap.size W W) := Lib.hid (Below.refl _ _)
  go_wp2
  clear l0 l1
  go_loopw [12] (fun i wr => ∃ (k : Nat), k ≤ n1 ∧ i = .int .i64 k ∧ Hid (∀ m ∈ ms.take k, m.2.2 ≤ markOf ms1 (actOf m)) ∧ Below W.heap.size W wr) (fun i _ => n1 - (intOf i).toNat)
  case atStart => exact ⟨0, Nat.zero_le _, rfl, Lib.hid (by intro m hm; simp at hm), HB2.out⟩
  case round =>
    obtain ⟨k, hk, rfl, HO, hb⟩ := hrel
    have HB := Lib.hid hb
    have hbs := hb.size
    have hxr := HX1.out.below hb hsW
    by_cases hlt : k < n1
    · obtain ⟨x, hd⟩ : ∃ x, ms[k]? = some x := ⟨ms[k]'(by have := hn1.out; omega), List.getElem?_eq_getElem _⟩
      obtain ⟨ad, rfl, hadlt, hda⟩ := hxr k x hd
      obtain ⟨d0, d1, d2⟩ := hda
      have HD := Lib.hid hd
      obtain ⟨W1, hW1⟩ : ∃ W1, Hid (W1 = wr.alloc (.cells #[.int .i64 x.1, .int .i64 x.2.1, .int .i64 x.2.2] 55)) := ⟨_, Lib.hid rfl⟩
      have hbA : Below wr.heap.size wr W1 := by rw [hW1.out]; exact (Below.refl _ _).alloc (Nat.le_refl _) _
      have hzW1 : wr.heap.size < W1.heap.size := by rw [hW1.out]; simp
      have k0 : BoxD W1 wr.heap.size x := by
        have := boxD wr 55 x
        rw [← hW1.out] at this
        exact this
      have hb1 := hb.trans (hbA.mono hbs)
      have ha1 := HA.out.below hb1 hlt1
      have HM4 := Lib.hid (HM1.out.below hb1)
      have cU : ∀ d' os', Calls Try.prog 66 #[.slice A3 n3 c3, .int .i64 x.1, .int .i64 x.2.1] (grow (redrawn W1 d') os') fun e w'' => e = .returned (.int .i64 (markOf ms1 (actOf x))) ∧ ∃ p : Regrown, w'' = grow (redrawn W1 p.d) p.os :=
        fun d' os' => Calls.regrown_of (mark_ref _ ms1 (actOf x) _ (HM4.out.below (below_regrown W1 d' os')) (by have := HOK1.out.1; omega))
      obtain ⟨u, hu⟩ : ∃ u, Hid (u = markOf ms1 (actOf x)) := ⟨_, Lib.hid rfl⟩
      rw [← hu.out] at cU
      have e0 := cell_regrown k0.1
      have e1 := cell_regrown k0.2.1
      have e2 := cell_regrown k0.2.2
      have j0 := cell_regrown ha1.1
      have j1 := cell_regrown ha1.2
      have hWe1 := hW1.out.symm
      have HBB : ∀ dq osq, Hid (Below W.heap.size W (grow (redrawn W1 dq) osq)) := fun dq osq => Lib.hid (below_re hb1 dq osq)
      clear hd hxr hb hbA k0 ha1 hb1
      by_cases hgt : u < x.2.2
      · have d4 : decide (u < x.2.2) = true := by simpa using hgt
        have HN : Hid (¬ LeqC ms ds ms1 ds1) := Lib.hid (fun h => by
          have := h.1 x (List.mem_of_getElem? HD.out)
          rw [← hu.out] at this
          omega)
        clear hgt
        go_upto_region 4 with fail
        clear hWe1
        refine wp_region_quiet_below (by kernel_rfl) (by kernel_rfl) ?_
        repeat (first | go_big_quiet_step (first | exact cU _ _) | quiet_step (first | exact cU _ _))
        refine wpQuiet_nil ?_
        intro _ hw'
        obtain ⟨⟨dq, osq⟩, hw''⟩ := hw'
        subst hw''
        have HX2 := HBB dq osq
        clear HBB
        go_wp2
        go_ret
        exact ⟨false, rfl, by simp [HN.out], HB0.out.trans (HX2.out.mono hsW)⟩
      · have d4 : decide (u < x.2.2) = false := by simpa using hgt
        have HN : Hid (∀ m ∈ ms.take (k + 1), m.2.2 ≤ markOf ms1 (actOf m)) := Lib.hid (fun m hm => by
          rw [take_at HD.out] at hm
          rcases List.mem_append.1 hm with hm | hm
          · exact HO.out m hm
          · simp at hm; rw [hm, ← hu.out]; omega)
        clear hgt
        go_upto_region 4 with fail
        clear hWe1
        refine wp_region_quiet_below (by kernel_rfl) (by kernel_rfl) ?_
        repeat (first | go_big_quiet_step (first | exact cU _ _) | quiet_step (first | exact cU _ _))
        refine wpQuiet_nil ?_
        intro _ hw'
        obtain ⟨⟨dq, osq⟩, hw''⟩ := hw'
        subst hw''
        have HX2 := HBB dq osq
        clear HBB
        go_wp2
        go_roundw
        case rel => exact ⟨k + 1, by omega, by go_num, HN, HX2.out⟩
        case measure => simp [intOf]; omega
    · have hkn : k = n1 := by omega
      have HO1 : Hid (∀ m ∈ ms, m.2.2 ≤ markOf ms1 (actOf m)) := Lib.hid (by have := HO.out; rw [hkn, hn1.out, List.take_length] at this; exact this)
      obtain ⟨k0, k1⟩ := HC.out.below hb hlt0
      clear hb hkn HO hxr
      go_wp2
      clear hlt k0 k1
      obtain ⟨wa, hwa⟩ : ∃ wa : World, wa = wr := ⟨_, rfl⟩
      subst hwa
      go_loopw [30] (fun i wr => ∃ (k : Nat), k ≤ n ∧ i = .int .i64 k ∧ Hid (∀ d ∈ ds.take k, InC ms1 ds1 d) ∧ Below W.heap.size W wr) (fun i _ => n - (intOf i).toNat)
      case atStart => exact ⟨0, Nat.zero_le _, rfl, Lib.hid (by intro m hm; simp at hm), HB.out⟩
      case round =>
        obtain ⟨k2, hk2, rfl, HO, hb⟩ := hrel
        have HB3 := Lib.hid hb
        have hbs2 := hb.size
        have hxr := HX.out.below hb hsW
        by_cases hlt2 : k2 < n
        · obtain ⟨x, hd⟩ : ∃ x, ds[k2]? = some x := ⟨ds[k2]'(by have := hn.out; omega), List.getElem?_eq_getElem _⟩
          obtain ⟨ad, rfl, hadlt, hda⟩ := hxr k2 x hd
          obtain ⟨d0, d1, d2⟩ := hda
          have HD := Lib.hid hd
          obtain ⟨W1, hW1⟩ : ∃ W1, Hid (W1 = wr.alloc (.cells #[.int .i64 x.1, .int .i64 x.2.1, .int .i64 x.2.2] 44)) := ⟨_, Lib.hid rfl⟩
          have hbA : Below wr.heap.size wr W1 := by rw [hW1.out]; exact (Below.refl _ _).alloc (Nat.le_refl _) _
          have g0 : W1.cell? ⟨wr.heap.size, 0, none⟩ = some (.int .i64 x.1) := by rw [hW1.out]; exact box_cell _ _ _ 0
          have g1 : W1.cell? ⟨wr.heap.size, 1, none⟩ = some (.int .i64 x.2.1) := by rw [hW1.out]; exact box_cell _ _ _ 1
          have g2 : W1.cell? ⟨wr.heap.size, 2, none⟩ = some (.int .i64 x.2.2) := by rw [hW1.out]; exact box_cell _ _ _ 2
          have hb1 := hb.trans (hbA.mono hbs2)
          obtain ⟨j0, j1⟩ := HA.out.below hb1 hlt1
          have HHS := Lib.hid (covers_ref _ ms1 ds1 x W1 (HRD1.out.below hb1) HOK1.out)
          have HB4 := Lib.hid hb1
          have hWe1 := hW1.out.symm
          clear hd hxr hb hbA hb1
          go_upto_region 10 with fail
          clear hWe1
          go_wp2_with fail
          (with_reducible refine HHS.out.mono ?_); rintro e w3 ⟨b, rfl, hbi, hb3⟩
          have HB5 := Lib.hid (HB4.out.trans (hb3.mono HB4.out.size))
          clear hb3 HHS g0 g1 g2 j0 j1
          cases b with
          | false =>
            have HN : Hid (¬ LeqC ms ds ms1 ds1) := Lib.hid (fun h => by
              have := hbi.2 (h.2 x (List.mem_of_getElem? HD.out))
              cases this)
            clear hbi
            go_wp2
            go_ret
            exact ⟨false, rfl, by simp [HN.out], HB0.out.trans (HB5.out.mono hsW)⟩
          | true =>
            have HN : Hid (∀ d ∈ ds.take (k2 + 1), InC ms1 ds1 d) := Lib.hid (fun m hm => by
              rw [take_at HD.out] at hm
              rcases List.mem_append.1 hm with hm | hm
              · exact HO.out m hm
              · simp at hm; rw [hm]; exact hbi.1 rfl)
            clear hbi
            go_wp2
            go_roundw
            case rel => exact ⟨k2 + 1, by omega, by go_num, HN, HB5.out⟩
            case measure => simp [intOf]; omega
        · have hkn : k2 = n := by omega
          have HO2 : Hid (∀ d ∈ ds, InC ms1 ds1 d) := Lib.hid (by have := HO.out; rw [hkn, hn.out, List.take_length] at this; exact this)
          clear hb hkn HO hxr
          go_wp2
          go_ret
          exact ⟨true, rfl, by simp only [true_iff]; exact ⟨HO1.out, HO2.out⟩, HB0.out.trans (HB3.out.mono hsW)⟩
end Go.Proofs.Ytfplblhmeohhmaa
