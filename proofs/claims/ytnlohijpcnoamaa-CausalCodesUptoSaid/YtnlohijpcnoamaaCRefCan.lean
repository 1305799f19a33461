/- May a context be, by the document. -/
import Derived.Test.YtnlohijpcnoamaaCRefs
namespace Go.Proofs.Ytnlohijpcnoamaa
open Go.RowKit Go.Sort Go.BigFrame
open Go.Lib (byteCells byteCells_length)

theorem cmpA_bad {a b : ActA} (h : ¬ cmpA a b < 0) : b.1 < a.1 ∨ (a.1 = b.1 ∧ b.2 ≤ a.2) := by
  rw [cmpA_lt] at h
  unfold ltA at h
  omega
theorem cmpA_good {a b : ActA} (h : cmpA a b < 0) : a.1 < b.1 ∨ (a.1 = b.1 ∧ a.2 < b.2) := by
  rw [cmpA_lt] at h
  unfold ltA at h
  omega

set_option maxRecDepth 100000 in
set_option maxHeartbeats 25600000 in
theorem can_ref (v : Value) (ms ds : List DotA) (w : World) (h : RdC w v ms ds) (hlm : ms.length ≤ 1099511627776) (hld : ds.length ≤ 1099511627776) : Calls Try.prog 26 #[v] w (Tells (OkC ms ds) w) := by
  obtain ⟨mv, dv, rfl, hm, hd⟩ := h
  obtain ⟨W, hW⟩ : ∃ W, Hid (W = w.alloc (.cells #[mv, dv] 25)) := ⟨_, Lib.hid rfl⟩
  have hb0 : Below w.heap.size w W := by rw [hW.out]; exact (Below.refl _ _).alloc (Nat.le_refl _) _
  have hbc : BoxC W w.heap.size mv dv := by rw [hW.out]; exact ⟨box_cell _ _ _ 0, box_cell _ _ _ 1⟩
  have hlt0 : w.heap.size < W.heap.size := by rw [hW.out]; simp
  have hsW : w.heap.size ≤ W.heap.size := Nat.le_of_lt hlt0
  have HB0 := Lib.hid hb0
  have HM := Lib.hid (hm.below hb0)
  obtain ⟨A, c, rfl, hc, hx⟩ := hd
  obtain ⟨A1, c1, rfl, hc1, hx1⟩ := hm
  have HX := Lib.hid (hx.below hb0 (Nat.le_refl _))
  have HX1 := Lib.hid (hx1.below hb0 (Nat.le_refl _))
  obtain ⟨n, hn⟩ : ∃ n, Hid (n = ds.length) := ⟨_, Lib.hid rfl⟩
  obtain ⟨n1, hn1⟩ : ∃ n1, Hid (n1 = ms.length) := ⟨_, Lib.hid rfl⟩
  have hWe := hW.out.symm
  rw [← hn.out] at hWe hbc hc hld ⊢
  rw [← hn1.out] at hWe hbc hc1 hlm HM ⊢
  have HC := Lib.hid hbc
  obtain ⟨l0, l1⟩ := hbc
  clear hb0 hx hx1
  by_cases h1 : 64 < n1
  · have HN : Hid (¬ OkC ms ds) := Lib.hid (fun h => by have := h.1; have := hn1.out; omega)
    have d1 : decide (64 < (n1 : Int)) = true := by simp; omega
    clear h1
    go_enter Try.func26, Try.ntmps26
    go_upto_region 1 with fail
    clear hWe
    go_wp2
    go_ret
    exact ⟨false, rfl, by simp [HN.out], HB0.out⟩
  by_cases h2 : 64 < n
  · have HN : Hid (¬ OkC ms ds) := Lib.hid (fun h => by have := h.2.1; have := hn.out; omega)
    have d1 : decide (64 < (n1 : Int)) = false := by simp; omega
    have d2 : decide (64 < (n : Int)) = true := by simp; omega
    clear h1 h2
    go_enter Try.func26, Try.ntmps26
    go_upto_region 1 with fail
    clear hWe
    go_wp2
    go_ret
    exact ⟨false, rfl, by simp [HN.out], HB0.out⟩
  have d1 : decide (64 < (n1 : Int)) = false := by simp; omega
  have d2 : decide (64 < (n : Int)) = false := by simp; omega
  have hb1 : n1 ≤ 64 := by omega
  have hb2 : n ≤ 64 := by omega
  clear h1 h2
  go_enter Try.func26, Try.ntmps26
  go_upto_region 1 with fail
  clear hWe
  go_wp2
  clear d1 d2 l0 l1
  go_loopw [20] (fun i wr => ∃ k : Nat, k ≤ n1 ∧ i = .int .i64 k ∧ Hid (OkM (ms.take k)) ∧ Below W.heap.size W wr) (fun i _ => n1 - (intOf i).toNat)
  case atStart => exact ⟨0, Nat.zero_le _, rfl, Lib.hid (by simpa using OkM.nil), Below.refl _ _⟩
  case round =>
    obtain ⟨k, hk, rfl, HO, hb⟩ := hrel
    have HB := Lib.hid hb
    have hxr := HX1.out.below hb hsW
    have hbs := hb.size
    by_cases hlt : k < n1
    · obtain ⟨d, hd⟩ : ∃ d, ms[k]? = some d := ⟨ms[k]'(by have := hn1.out; omega), List.getElem?_eq_getElem _⟩
      obtain ⟨ad, rfl, hadlt, hda⟩ := hxr k d hd
      have HD := Lib.hid hd
      obtain ⟨d0, d1, d2⟩ := hda
      obtain ⟨W1, hW1⟩ : ∃ W, Hid (W = wr.alloc (.cells #[.int .i64 d.1, .int .i64 d.2.1, .int .i64 d.2.2] 53)) := ⟨_, Lib.hid rfl⟩
      have hbW : Below wr.heap.size wr W1 := by rw [hW1.out]; exact (Below.refl _ _).alloc (Nat.le_refl _) _
      have hzW1 : wr.heap.size < W1.heap.size := by rw [hW1.out]; simp
      have k0 : BoxD W1 wr.heap.size d := by
        have := boxD wr 53 d
        rw [← hW1.out] at this
        exact this
      have HK := Lib.hid k0
      obtain ⟨e0, e1, e2⟩ := k0
      have HBW := Lib.hid (HB.out.trans (hbW.mono hbs))
      have HMM := Lib.hid (mayMark_ref d W1)
      have hWe1 := hW1.out.symm
      clear hd hxr hb hbW
      go_upto_region 6 with fail
      clear hWe1
      go_wp2_with fail
      (with_reducible refine HMM.out.mono ?_); rintro e w2 ⟨rfl, hb2'⟩
      have HK2 := HK.out.below hb2' hzW1
      have HB2 := Lib.hid (HBW.out.trans (hb2'.mono (Nat.le_trans hbs (Nat.le_of_lt hzW1))))
      clear e0 e1 e2 d0 d1 d2 hb2' HMM
      cases hm : mayB d with
      | false =>
        have HN : Hid (¬ OkC ms ds) := Lib.hid (fun hok => by have := hok.2.2.1.1 k d HD.out; rw [hm] at this; cases this)
        clear hm
        go_wp2
        go_ret
        exact ⟨false, rfl, by simp [HN.out], HB0.out.trans (HB2.out.mono hsW)⟩
      | true =>
        have HMB := Lib.hid hm
        have j0 := cell_regrown HK2.1
        have j1 := cell_regrown HK2.2.1
        have hC2 := HC.out.below HB2.out hlt0
        have i0 := cell_regrown hC2.1
        have HBB : ∀ dq osq, Hid (Below W.heap.size W (grow (redrawn w2 dq) osq)) := fun dq osq => Lib.hid (below_re HB2.out dq osq)
        clear hm HK2 hC2
        by_cases hk0 : k = 0
        · have dk : decide (0 < (k : Int)) = false := by simp; omega
          have dk2 : decide (0 < k) = false := by simp; omega
          have HN : Hid (OkM (ms.take (k + 1))) := Lib.hid (HO.out.snoc HD.out HMB.out (fun a hne _ => absurd hk0 hne))
          clear hk0
          go_upto_region 8 with fail
          refine wp_region_quiet_below (by kernel_rfl) (by kernel_rfl) ?_
          repeat (first | go_big_quiet_step (fail) | quiet_step (fail))
          refine wpQuiet_nil ?_
          intro _ hw'
          obtain ⟨⟨dq, osq⟩, hw''⟩ := hw'
          subst hw''
          have HX2 := HBB dq osq
          clear HBB
          go_wp2
          go_roundw
          case rel => exact ⟨k + 1, by omega, by go_num, HN, HX2.out⟩
          case measure => simp [intOf]; omega
        · obtain ⟨a, ha⟩ : ∃ a, ms[k - 1]? = some a := ⟨ms[k - 1]'(by have := hn1.out; omega), List.getElem?_eq_getElem _⟩
          obtain ⟨ad', e', _, hpa⟩ := (HX1.out.below HB2.out hsW) (k - 1) a ha
          obtain rfl : ad = ad' := by injection e'
          have dk : decide (0 < (k : Int)) = true := by simp; omega
          have dk2 : decide (0 < k) = true := by simp; omega
          have i1 : IntKind.i64.wrap ((k : Int) - 1) = (k : Int) - 1 := IntWalk.i64_in _ (by omega)
          have i2 : 0 ≤ (k : Int) - 1 := by omega
          have i3 : (k : Int) - 1 < (n1 : Int) := by omega
          have i4 : ((k : Int) - 1).toNat = k - 1 := by omega
          have p0 := cell_regrown hpa.1
          have p1 := cell_regrown hpa.2.1
          have HA := Lib.hid ha
          have HK0 := Lib.hid hk0
          clear hk0 hpa ha e'
          by_cases hneg : cmpA (actOf a) (actOf d) < 0
          · have HN : Hid (OkM (ms.take (k + 1))) := Lib.hid (HO.out.snoc HD.out HMB.out (fun x _ hx => by
              rw [HA.out] at hx; injection hx with hx
              rw [← hx]; exact hneg))
            have hgood : a.1 < d.1 ∨ (a.1 = d.1 ∧ a.2.1 < d.2.1) := cmpA_good hneg
            clear hneg
            have g1 : decide (d.1 < a.1) = false := by simp; omega
            rcases hgood with hg | ⟨hg, hg'⟩
            · have g2 : (a.1 == d.1) = false := by simp; omega
              clear hg
              go_upto_region 8 with fail
              refine wp_region_quiet_below (by kernel_rfl) (by kernel_rfl) ?_
              repeat (first | go_big_quiet_step (fail) | quiet_step (fail))
              refine wpQuiet_nil ?_
              intro _ hw'
              obtain ⟨⟨dq, osq⟩, hw''⟩ := hw'
              subst hw''
              have HX2 := HBB dq osq
              clear HBB
              clear i1 i2 i3 i4
              go_wp2
              go_roundw
              case rel => exact ⟨k + 1, by omega, by go_num, HN, HX2.out⟩
              case measure => simp [intOf]; omega
            · have g2 : (a.1 == d.1) = true := by simpa using hg
              have g3 : decide (d.2.1 ≤ a.2.1) = false := by simp; omega
              clear hg hg'
              go_upto_region 8 with fail
              refine wp_region_quiet_below (by kernel_rfl) (by kernel_rfl) ?_
              repeat (first | go_big_quiet_step (fail) | quiet_step (fail))
              refine wpQuiet_nil ?_
              intro _ hw'
              obtain ⟨⟨dq, osq⟩, hw''⟩ := hw'
              subst hw''
              have HX2 := HBB dq osq
              clear HBB
              clear i1 i2 i3 i4
              go_wp2
              go_roundw
              case rel => exact ⟨k + 1, by omega, by go_num, HN, HX2.out⟩
              case measure => simp [intOf]; omega
          · have HN : Hid (¬ OkC ms ds) := Lib.hid (fun hok => hneg (hok.2.2.1.2 (k - 1) a d HA.out (by rw [show k - 1 + 1 = k by have := HK0.out; omega]; exact HD.out)))
            have hbad : d.1 < a.1 ∨ (a.1 = d.1 ∧ d.2.1 ≤ a.2.1) := cmpA_bad hneg
            clear hneg
            rcases hbad with hg | ⟨hg, hg'⟩
            · have g1 : decide (d.1 < a.1) = true := by simpa using hg
              clear hg
              go_upto_region 8 with fail
              refine wp_region_quiet_below (by kernel_rfl) (by kernel_rfl) ?_
              repeat (first | go_big_quiet_step (fail) | quiet_step (fail))
              refine wpQuiet_nil ?_
              intro _ hw'
              obtain ⟨⟨dq, osq⟩, hw''⟩ := hw'
              subst hw''
              have HX2 := HBB dq osq
              clear HBB
              clear i1 i2 i3 i4
              go_wp2
              go_ret
              exact ⟨false, rfl, by simp [HN.out], HB0.out.trans (HX2.out.mono hsW)⟩
            · have g1 : decide (d.1 < a.1) = false := by simp; omega
              have g2 : (a.1 == d.1) = true := by simpa using hg
              have g3 : decide (d.2.1 ≤ a.2.1) = true := by simpa using hg'
              clear hg hg'
              go_upto_region 8 with fail
              refine wp_region_quiet_below (by kernel_rfl) (by kernel_rfl) ?_
              repeat (first | go_big_quiet_step (fail) | quiet_step (fail))
              refine wpQuiet_nil ?_
              intro _ hw'
              obtain ⟨⟨dq, osq⟩, hw''⟩ := hw'
              subst hw''
              have HX2 := HBB dq osq
              clear HBB
              clear i1 i2 i3 i4
              go_wp2
              go_ret
              exact ⟨false, rfl, by simp [HN.out], HB0.out.trans (HX2.out.mono hsW)⟩
    · have hkn : k = n1 := by omega
      have HOM : Hid (OkM ms) := Lib.hid (by have := HO.out; rw [hkn, hn1.out, List.take_length] at this; exact this)
      obtain ⟨l0, l1⟩ := HC.out.below hb hlt0
      clear hxr hb hkn HO
      go_wp2
      clear hlt l0 l1
      obtain ⟨wa, hwa⟩ : ∃ wa : World, wa = wr := ⟨_, rfl⟩
      subst hwa
      go_loopw [70] (fun i wr => ∃ k : Nat, k ≤ n ∧ i = .int .i64 k ∧ Hid (OkD ms (ds.take k)) ∧ Below W.heap.size W wr) (fun i _ => n - (intOf i).toNat)
      case atStart => exact ⟨0, Nat.zero_le _, rfl, Lib.hid (by simpa using OkD.nil ms), HB.out⟩
      case round =>
        obtain ⟨k2, hk2, rfl, HO, hb⟩ := hrel
        have HB := Lib.hid hb
        have hxr := HX.out.below hb hsW
        have hbs2 := hb.size
        by_cases hlt : k2 < n
        · obtain ⟨d, hd⟩ : ∃ d, ds[k2]? = some d := ⟨ds[k2]'(by have := hn.out; omega), List.getElem?_eq_getElem _⟩
          obtain ⟨ad, rfl, hadlt, hda⟩ := hxr k2 d hd
          have HD := Lib.hid hd
          obtain ⟨d0, d1, d2⟩ := hda
          obtain ⟨W1, hW1⟩ : ∃ W, Hid (W = wr.alloc (.cells #[.int .i64 d.1, .int .i64 d.2.1, .int .i64 d.2.2] 55)) := ⟨_, Lib.hid rfl⟩
          have hbW : Below wr.heap.size wr W1 := by rw [hW1.out]; exact (Below.refl _ _).alloc (Nat.le_refl _) _
          have hzW1 : wr.heap.size < W1.heap.size := by rw [hW1.out]; simp
          have k0 : BoxD W1 wr.heap.size d := by
            have := boxD wr 55 d
            rw [← hW1.out] at this
            exact this
          have HK := Lib.hid k0
          have HBW := Lib.hid (HB.out.trans (hbW.mono hbs2))
          have HMW := Lib.hid (HM.out.below HBW.out)
          have cM := re_of (mayDot_ref d) W1
          have cU : ∀ d' os', Calls Try.prog 46 #[.slice A1 n1 c1, .int .i64 d.1, .int .i64 d.2.1] (grow (redrawn W1 d') os') fun e w'' => e = .returned (.int .i64 (markOf ms (actOf d))) ∧ ∃ p : Regrown, w'' = grow (redrawn W1 p.d) p.os :=
            fun d' os' => Calls.regrown_of (mark_ref _ ms (actOf d) _ (HMW.out.below (below_regrown W1 d' os')) (by have := hn1.out; omega))
          have hmk := markOf_le HOM.out (actOf d)
          obtain ⟨u, hu⟩ : ∃ u, Hid (u = markOf ms (actOf d)) := ⟨_, Lib.hid rfl⟩
          rw [← hu.out] at cU hmk
          have iu : IntKind.i64.wrap (u + 1) = u + 1 := IntWalk.i64_in _ (by omega)
          have j0 := cell_regrown k0.1
          have j1 := cell_regrown k0.2.1
          have j2 := cell_regrown k0.2.2
          have hC1 := HC.out.below HBW.out hlt0
          have i0 := cell_regrown hC1.1
          have hWe1 := hW1.out.symm
          have HBB : ∀ dq osq, Hid (Below W1.heap.size W1 (grow (redrawn W1 dq) osq)) := fun dq osq => Lib.hid (below_regrown W1 dq osq)
          clear hd hxr hb hbW k0 hC1
          cases hm : mayB d with
          | false =>
            have HN : Hid (¬ OkC ms ds) := Lib.hid (fun hok => by have := (hok.2.2.2.1 k2 d HD.out).1; rw [hm] at this; cases this)
            rw [hm] at cM
            clear hm
            go_upto_region 14 with fail
            clear hWe1
            refine wp_region_quiet_below (by kernel_rfl) (by kernel_rfl) ?_
            repeat (first | go_big_quiet_step (first | with_reducible exact cM _ _) | quiet_step (first | with_reducible exact cM _ _))
            refine wpQuiet_nil ?_
            intro _ hw'
            obtain ⟨⟨dq, osq⟩, hw''⟩ := hw'
            subst hw''
            have HX2 := HBB dq osq
            clear HBB
            have HB3 := Lib.hid (HBW.out.trans (HX2.out.mono (Nat.le_trans hbs2 (Nat.le_of_lt hzW1))))
            go_wp2
            go_ret
            exact ⟨false, rfl, by simp [HN.out], HB0.out.trans (HB3.out.mono hsW)⟩
          | true =>
            have HMB := Lib.hid hm
            rw [hm] at cM
            clear hm
            by_cases hle : d.2.2 ≤ u + 1
            · have HN : Hid (¬ OkC ms ds) := Lib.hid (fun hok => by have := (hok.2.2.2.1 k2 d HD.out).2; rw [← hu.out] at this; omega)
              have g1 : decide (d.2.2 ≤ u + 1) = true := by simpa using hle
              clear hle
              go_upto_region 14 with fail
              clear hWe1
              refine wp_region_quiet_below (by kernel_rfl) (by kernel_rfl) ?_
              repeat (first | go_big_quiet_step (first | with_reducible exact cM _ _ | with_reducible exact cU _ _) | quiet_step (first | with_reducible exact cM _ _ | with_reducible exact cU _ _))
              refine wpQuiet_nil ?_
              intro _ hw'
              obtain ⟨⟨dq, osq⟩, hw''⟩ := hw'
              subst hw''
              have HX2 := HBB dq osq
              clear HBB
              have HB3 := Lib.hid (HBW.out.trans (HX2.out.mono (Nat.le_trans hbs2 (Nat.le_of_lt hzW1))))
              go_wp2
              go_ret
              exact ⟨false, rfl, by simp [HN.out], HB0.out.trans (HB3.out.mono hsW)⟩
            · have HGT : Hid (markOf ms (actOf d) + 1 < d.2.2) := Lib.hid (by rw [← hu.out]; omega)
              have g1 : decide (d.2.2 ≤ u + 1) = false := by simpa using hle
              clear hle
              go_upto_region 14 with fail
              clear hWe1
              refine wp_region_quiet_below (by kernel_rfl) (by kernel_rfl) ?_
              repeat (first | go_big_quiet_step (first | with_reducible exact cM _ _ | with_reducible exact cU _ _) | quiet_step (first | with_reducible exact cM _ _ | with_reducible exact cU _ _))
              refine wpQuiet_nil ?_
              intro _ hw'
              obtain ⟨⟨dq, osq⟩, hw''⟩ := hw'
              subst hw''
              have HX2 := HBB dq osq
              clear HBB
              have HB3 := Lib.hid (HBW.out.trans (HX2.out.mono (Nat.le_trans hbs2 (Nat.le_of_lt hzW1))))
              have HK3 := HK.out.below HX2.out hzW1
              clear cM cU j0 j1 j2 i0 g1 iu d0 d1 d2
              generalize grow (redrawn W1 dq) osq = w3 at *
              have j0 := cell_regrown HK3.1
              have j1 := cell_regrown HK3.2.1
              have j2 := cell_regrown HK3.2.2
              have hC3 := HC.out.below HB3.out hlt0
              have i0 := cell_regrown hC3.2
              have HBB : ∀ dq osq, Hid (Below W.heap.size W (grow (redrawn w3 dq) osq)) := fun dq osq => Lib.hid (below_re HB3.out dq osq)
              clear HK3 hC3
              by_cases hk0 : k2 = 0
              · have dk : decide (0 < (k2 : Int)) = false := by simp; omega
                have dk2 : decide (0 < k2) = false := by simp; omega
                have HN : Hid (OkD ms (ds.take (k2 + 1))) := Lib.hid (HO.out.snoc HD.out HMB.out HGT.out (fun a hne _ => absurd hk0 hne))
                clear hk0
                go_upto_region 16 with fail
                refine wp_region_quiet_below (by kernel_rfl) (by kernel_rfl) ?_
                repeat (first | go_big_quiet_step (fail) | quiet_step (fail))
                refine wpQuiet_nil ?_
                intro _ hw'
                obtain ⟨⟨dq, osq⟩, hw''⟩ := hw'
                subst hw''
                have HX2 := HBB dq osq
                clear HBB
                go_wp2
                go_roundw
                case rel => exact ⟨k2 + 1, by omega, by go_num, HN, HX2.out⟩
                case measure => simp [intOf]; omega
              · obtain ⟨a, ha⟩ : ∃ a, ds[k2 - 1]? = some a := ⟨ds[k2 - 1]'(by have := hn.out; omega), List.getElem?_eq_getElem _⟩
                obtain ⟨ad', e', _, hpa⟩ := (HX.out.below HB3.out hsW) (k2 - 1) a ha
                obtain rfl : ad = ad' := by injection e'
                have dk : decide (0 < (k2 : Int)) = true := by simp; omega
                have dk2 : decide (0 < k2) = true := by simp; omega
                have i1 : IntKind.i64.wrap ((k2 : Int) - 1) = (k2 : Int) - 1 := IntWalk.i64_in _ (by omega)
                have i2 : 0 ≤ (k2 : Int) - 1 := by omega
                have i3 : (k2 : Int) - 1 < (n : Int) := by omega
                have i4 : ((k2 : Int) - 1).toNat = k2 - 1 := by omega
                have p0 := cell_regrown hpa.1
                have p1 := cell_regrown hpa.2.1
                have p2 := cell_regrown hpa.2.2
                have cB := re_of (below_ref a d) w3
                have HA := Lib.hid ha
                have HK0 := Lib.hid hk0
                clear hk0 hpa ha e'
                cases hr : belB a d with
                | true =>
                  have HN : Hid (OkD ms (ds.take (k2 + 1))) := Lib.hid (HO.out.snoc HD.out HMB.out HGT.out (fun x _ hx => by
                    rw [HA.out] at hx; injection hx with hx
                    rw [← hx]; exact belB_lt.1 hr))
                  rw [hr] at cB
                  clear hr
                  go_upto_region 16 with fail
                  refine wp_region_quiet_below (by kernel_rfl) (by kernel_rfl) ?_
                  repeat (first | go_big_quiet_step (first | with_reducible exact cB _ _) | quiet_step (first | with_reducible exact cB _ _))
                  refine wpQuiet_nil ?_
                  intro _ hw'
                  obtain ⟨⟨dq, osq⟩, hw''⟩ := hw'
                  subst hw''
                  have HX2 := HBB dq osq
                  clear HBB
                  clear i1 i2 i3 i4
                  go_wp2
                  go_roundw
                  case rel => exact ⟨k2 + 1, by omega, by go_num, HN, HX2.out⟩
                  case measure => simp [intOf]; omega
                | false =>
                  have HN : Hid (¬ OkC ms ds) := Lib.hid (fun hok => by
                    have := belB_lt.2 (hok.2.2.2.2 (k2 - 1) a d HA.out (by rw [show k2 - 1 + 1 = k2 by have := HK0.out; omega]; exact HD.out))
                    rw [hr] at this
                    cases this)
                  rw [hr] at cB
                  clear hr
                  go_upto_region 16 with fail
                  refine wp_region_quiet_below (by kernel_rfl) (by kernel_rfl) ?_
                  repeat (first | go_big_quiet_step (first | with_reducible exact cB _ _) | quiet_step (first | with_reducible exact cB _ _))
                  refine wpQuiet_nil ?_
                  intro _ hw'
                  obtain ⟨⟨dq, osq⟩, hw''⟩ := hw'
                  subst hw''
                  have HX2 := HBB dq osq
                  clear HBB
                  clear i1 i2 i3 i4
                  go_wp2
                  go_ret
                  exact ⟨false, rfl, by simp [HN.out], HB0.out.trans (HX2.out.mono hsW)⟩
        · have hkn : k2 = n := by omega
          have HOD : Hid (OkD ms ds) := Lib.hid (by have := HO.out; rw [hkn, hn.out, List.take_length] at this; exact this)
          clear hxr hb hkn HO
          go_wp2
          go_ret
          exact ⟨true, rfl, by simp only [true_iff]; exact ⟨by have := hn1.out; omega, by have := hn.out; omega, HOM.out, HOD.out⟩, HB0.out.trans (HB.out.mono hsW)⟩
end Go.Proofs.Ytnlohijpcnoamaa
