/- CausalLattice, walked. -/
import Derived.Test.YtfplblhmeohhmaaCJoinM
import Derived.Test.YtfplblhmeohhmaaCSame
namespace Go.Proofs.Ytfplblhmeohhmaa
open Go.RowKit Go.Sort Go.BigFrame
open Go.Lib (byteCells byteCells_length)

set_option maxRecDepth 100000 in
set_option maxHeartbeats 12800000 in
theorem lattice_walk (va vb vc vk vl vm : Value) (a b c k l m : List DotA) (w : World) (ha : RdD w va a) (hb : RdD w vb b) (hc : RdD w vc c) (hk : RdD w vk k) (hl : RdD w vl l) (hm : RdD w vm m)
    (la : a.length ≤ 1048576 ∧ b.length ≤ 1048576 ∧ c.length ≤ 1048576 ∧ k.length ≤ 1048576 ∧ l.length ≤ 1048576 ∧ m.length ≤ 1048576) :
    Calls Try.prog 8 #[va, vb, vc, vk, vl, vm] w fun e w' => e = .returned (.bool true) ∧ Below w.heap.size w w' := by
  obtain ⟨l1, l2, l3, l4, l5, l6⟩ := la
  have H1 := Lib.hid (one_ref va vk a k w ha hk l1 l4)
  go_enter Try.func8, Try.ntmps8
  go_wp2_with fail
  (with_reducible refine H1.out.mono ?_); rintro e w1 ⟨xm, xd, okx, xv, xv', rfl, hxm, hxd, hb1⟩
  have H2 := Lib.hid (one_ref vb vl b l w1 (hb.below hb1) (hl.below hb1) l2 l5)
  have HB1 := Lib.hid hb1
  have HX1 := Lib.hid hxm
  have HX2 := Lib.hid hxd
  have OKX := Lib.hid okx
  obtain ⟨A1, c1, rfl⟩ := ownD_slice hxm
  obtain ⟨A2, c2, rfl⟩ := ownD_slice hxd
  obtain ⟨n1, hn1⟩ : ∃ n, Hid (n = xm.length) := ⟨_, Lib.hid rfl⟩
  obtain ⟨n2, hn2⟩ : ∃ n, Hid (n = xd.length) := ⟨_, Lib.hid rfl⟩
  rw [← hn1.out] at HX1 ⊢
  rw [← hn2.out] at HX2 ⊢
  clear hxm hxd okx H1
  go_wp2_with fail
  (with_reducible refine H2.out.mono ?_); rintro e w2 ⟨ym, yd, oky, yv, yv', rfl, hym, hyd, hb2⟩
  have H3 := Lib.hid (one_ref vc vm c m w2 ((hc.below hb1).below hb2) ((hm.below hb1).below hb2) l3 l6)
  have HB2 := Lib.hid hb2
  have HY1 := Lib.hid hym
  have HY2 := Lib.hid hyd
  have OKY := Lib.hid oky
  obtain ⟨A3, c3, rfl⟩ := ownD_slice hym
  obtain ⟨A4, c4, rfl⟩ := ownD_slice hyd
  obtain ⟨n3, hn3⟩ : ∃ n, Hid (n = ym.length) := ⟨_, Lib.hid rfl⟩
  obtain ⟨n4, hn4⟩ : ∃ n, Hid (n = yd.length) := ⟨_, Lib.hid rfl⟩
  rw [← hn3.out] at HY1 ⊢
  rw [← hn4.out] at HY2 ⊢
  clear hym hyd oky H2 hb1
  go_wp2_with fail
  (with_reducible refine H3.out.mono ?_); rintro e w3 ⟨zm, zd, okz, zv, zv', rfl, hzm, hzd, hb3⟩
  have HB3 := Lib.hid hb3
  have HZ1 := Lib.hid hzm
  have HZ2 := Lib.hid hzd
  have OKZ := Lib.hid okz
  obtain ⟨A5, c5, rfl⟩ := ownD_slice hzm
  obtain ⟨A6, c6, rfl⟩ := ownD_slice hzd
  obtain ⟨n5, hn5⟩ : ∃ n, Hid (n = zm.length) := ⟨_, Lib.hid rfl⟩
  obtain ⟨n6, hn6⟩ : ∃ n, Hid (n = zd.length) := ⟨_, Lib.hid rfl⟩
  rw [← hn5.out] at HZ1 ⊢
  rw [← hn6.out] at HZ2 ⊢
  clear hzm hzd okz H3 hb2 hb3
  obtain ⟨gy, hgy⟩ : ∃ g, Hid (g = w3.heap.size + 1) := ⟨_, Lib.hid rfl⟩
  obtain ⟨gz, hgz⟩ : ∃ g, Hid (g = w3.heap.size + 1 + 1) := ⟨_, Lib.hid rfl⟩
  obtain ⟨W, hW⟩ : ∃ W, Hid (W = ((w3.alloc (.cells #[.slice A1 n1 c1, .slice A2 n2 c2] 48)).alloc (.cells #[.slice A3 n3 c3, .slice A4 n4 c4] 48)).alloc (.cells #[.slice A5 n5 c5, .slice A6 n6 c6] 48)) := ⟨_, Lib.hid rfl⟩
  have HBx : Hid (BX W w3.heap.size (.slice A1 n1 c1) (.slice A2 n2 c2) xm xd) := Lib.hid (by
    rw [hW.out]
    exact ((BX.made _ ((HX1.out.below HB2.out).below HB3.out) ((HX2.out.below HB2.out).below HB3.out)).below (below_alloc (Below.refl _ _))).below (below_alloc (Below.refl _ _)))
  have HBy : Hid (BX W gy (.slice A3 n3 c3) (.slice A4 n4 c4) ym yd) := Lib.hid (by
    have := BX.made (w := w3.alloc (.cells #[.slice A1 n1 c1, .slice A2 n2 c2] 48)) 48 ((HY1.out.below HB3.out).below (below_alloc (Below.refl _ _))) ((HY2.out.below HB3.out).below (below_alloc (Below.refl _ _)))
    rw [show (w3.alloc (.cells #[.slice A1 n1 c1, .slice A2 n2 c2] 48)).heap.size = gy by rw [hgy.out]; simp] at this
    rw [hW.out]
    exact this.below (below_alloc (Below.refl _ _)))
  have HBz : Hid (BX W gz (.slice A5 n5 c5) (.slice A6 n6 c6) zm zd) := Lib.hid (by
    have := BX.made (w := (w3.alloc (.cells #[.slice A1 n1 c1, .slice A2 n2 c2] 48)).alloc (.cells #[.slice A3 n3 c3, .slice A4 n4 c4] 48)) 48 ((HZ1.out.below (below_alloc (Below.refl _ _))).below (below_alloc (Below.refl _ _))) ((HZ2.out.below (below_alloc (Below.refl _ _))).below (below_alloc (Below.refl _ _)))
    rw [show ((w3.alloc (.cells #[.slice A1 n1 c1, .slice A2 n2 c2] 48)).alloc (.cells #[.slice A3 n3 c3, .slice A4 n4 c4] 48)).heap.size = gz by rw [hgz.out]; simp] at this
    rw [hW.out]
    exact this)
  have HBEL : Hid (Below w.heap.size w W) := Lib.hid (by
    rw [hW.out]
    exact below_alloc (below_alloc (below_alloc (below_next (below_next HB1.out HB2.out) HB3.out))))
  have hWe := hW.out.symm
  go_upto_region 2 with fail
  clear hWe
  rw [← hgz.out, ← hgy.out]
  have kx0 := HBx.out.c0
  have kx1 := HBx.out.c1
  have ky0 := HBy.out.c0
  have ky1 := HBy.out.c1
  have HJ := Lib.hid (join_any normSpec (.agg #[.slice A1 n1 c1, .slice A2 n2 c2]) (.agg #[.slice A3 n3 c3, .slice A4 n4 c4]) xm xd ym yd W HBx.out.rd HBy.out.rd ⟨by have := OKX.out.1; omega, by have := OKX.out.2.1; omega, by have := OKY.out.1; omega, by have := OKY.out.2.1; omega⟩)
  go_wp2_with fail
  (with_reducible refine HJ.out.mono ?_); rintro e wp ⟨pm, pd, Ap, Bp, np, pp, cp, dp, ep, rfl, hom, hod, hb, hr⟩
  obtain ⟨pu, pv, hj⟩ := joinRel_ok OKX.out OKY.out hr
  have Jp := Lib.hid hj
  obtain ⟨Wp, hW⟩ : ∃ W, Hid (W = wp.alloc (.cells #[.slice Ap np cp, .slice Bp pp dp] 48)) := ⟨_, Lib.hid rfl⟩
  have hbb : Below W.heap.size W Wp := by rw [hW.out]; exact below_alloc hb
  have HBp : Hid (BX Wp wp.heap.size (.slice Ap np cp) (.slice Bp pp dp) pm pd) := Lib.hid (by rw [hW.out]; exact BX.made _ hom hod)
  replace HBx := Lib.hid (HBx.out.below hbb)
  replace HBy := Lib.hid (HBy.out.below hbb)
  replace HBz := Lib.hid (HBz.out.below hbb)
  replace HBEL := Lib.hid (HBEL.out.trans (hbb.mono HBEL.out.size))
  have hWe := hW.out.symm
  clear kx0 kx1 ky0 ky1
  clear hom hod hb hr hj HJ hbb hW
  go_upto_region 3 with fail
  clear hWe
  have ky0 := HBy.out.c0
  have ky1 := HBy.out.c1
  have kx0 := HBx.out.c0
  have kx1 := HBx.out.c1
  have HJ := Lib.hid (join_any normSpec (.agg #[.slice A3 n3 c3, .slice A4 n4 c4]) (.agg #[.slice A1 n1 c1, .slice A2 n2 c2]) ym yd xm xd Wp HBy.out.rd HBx.out.rd ⟨by have := OKY.out.1; omega, by have := OKY.out.2.1; omega, by have := OKX.out.1; omega, by have := OKX.out.2.1; omega⟩)
  go_wp2_with fail
  (with_reducible refine HJ.out.mono ?_); rintro e wq ⟨qm, qd, Aq, Bq, nq, pq, cq, dq, eq, rfl, hom, hod, hb, hr⟩
  obtain ⟨qu, qv, hj⟩ := joinRel_ok OKY.out OKX.out hr
  have Jq := Lib.hid hj
  obtain ⟨Wq, hW⟩ : ∃ W, Hid (W = wq.alloc (.cells #[.slice Aq nq cq, .slice Bq pq dq] 48)) := ⟨_, Lib.hid rfl⟩
  have hbb : Below Wp.heap.size Wp Wq := by rw [hW.out]; exact below_alloc hb
  have HBq : Hid (BX Wq wq.heap.size (.slice Aq nq cq) (.slice Bq pq dq) qm qd) := Lib.hid (by rw [hW.out]; exact BX.made _ hom hod)
  replace HBx := Lib.hid (HBx.out.below hbb)
  replace HBy := Lib.hid (HBy.out.below hbb)
  replace HBz := Lib.hid (HBz.out.below hbb)
  replace HBp := Lib.hid (HBp.out.below hbb)
  replace HBEL := Lib.hid (HBEL.out.trans (hbb.mono HBEL.out.size))
  have hWe := hW.out.symm
  clear ky0 ky1 kx0 kx1
  clear hom hod hb hr hj HJ hbb hW
  go_upto_region 4 with fail
  clear hWe
  have kx0 := HBx.out.c0
  have kx1 := HBx.out.c1
  have HJ := Lib.hid (join_any normSpec (.agg #[.slice A1 n1 c1, .slice A2 n2 c2]) (.agg #[.slice A1 n1 c1, .slice A2 n2 c2]) xm xd xm xd Wq HBx.out.rd HBx.out.rd ⟨by have := OKX.out.1; omega, by have := OKX.out.2.1; omega, by have := OKX.out.1; omega, by have := OKX.out.2.1; omega⟩)
  go_wp2_with fail
  (with_reducible refine HJ.out.mono ?_); rintro e wi ⟨im, id, Ai, Bi, ni, pi, ci, di, ei, rfl, hom, hod, hb, hr⟩
  obtain ⟨iu, iv, hj⟩ := joinRel_ok OKX.out OKX.out hr
  have Ji := Lib.hid hj
  obtain ⟨Wi, hW⟩ : ∃ W, Hid (W = wi.alloc (.cells #[.slice Ai ni ci, .slice Bi pi di] 48)) := ⟨_, Lib.hid rfl⟩
  have hbb : Below Wq.heap.size Wq Wi := by rw [hW.out]; exact below_alloc hb
  have HBi : Hid (BX Wi wi.heap.size (.slice Ai ni ci) (.slice Bi pi di) im id) := Lib.hid (by rw [hW.out]; exact BX.made _ hom hod)
  replace HBx := Lib.hid (HBx.out.below hbb)
  replace HBy := Lib.hid (HBy.out.below hbb)
  replace HBz := Lib.hid (HBz.out.below hbb)
  replace HBp := Lib.hid (HBp.out.below hbb)
  replace HBq := Lib.hid (HBq.out.below hbb)
  replace HBEL := Lib.hid (HBEL.out.trans (hbb.mono HBEL.out.size))
  have hWe := hW.out.symm
  clear kx0 kx1
  clear hom hod hb hr hj HJ hbb hW
  go_upto_region 5 with fail
  clear hWe
  have hlp : pm.length ≤ 1099511627776 ∧ pd.length ≤ 1099511627776 := Jp.out.short
  have hli : im.length ≤ 1099511627776 ∧ id.length ≤ 1099511627776 := Ji.out.short
  have HLP := Lib.hid hlp
  have HLI := Lib.hid hli
  clear hlp hli
  have t1 : (ep != eq) = false := by simpa using (Jp.out.comm Jq.out).2.2
  have t2 : (ei != 0) = false := by simpa using (Ji.out.self OKX.out).2.2
  have kp0 := HBp.out.c0
  have kp1 := HBp.out.c1
  have kq0 := HBq.out.c0
  have kq1 := HBq.out.c1
  have HS := Lib.hid (same_any (.agg #[.slice Ap np cp, .slice Bp pp dp]) (.agg #[.slice Aq nq cq, .slice Bq pq dq]) pm pd qm qd Wi HBp.out.rd HBq.out.rd HLP.out.1 HLP.out.2)
  go_wp2_with fail
  (with_reducible refine HS.out.mono ?_); rintro e w5 ⟨b, rfl, hbi, hb⟩
  obtain rfl : b = true := hbi.2 (⟨(Jp.out.comm Jq.out).1, (Jp.out.comm Jq.out).2.1⟩)
  replace HBx := Lib.hid (HBx.out.below hb)
  replace HBy := Lib.hid (HBy.out.below hb)
  replace HBz := Lib.hid (HBz.out.below hb)
  replace HBp := Lib.hid (HBp.out.below hb)
  replace HBi := Lib.hid (HBi.out.below hb)
  replace HBEL := Lib.hid (HBEL.out.trans (hb.mono HBEL.out.size))
  clear hbi hb HS
  clear kp0 kp1 kq0 kq1
  have ki0 := HBi.out.c0
  have ki1 := HBi.out.c1
  have kx0 := HBx.out.c0
  have kx1 := HBx.out.c1
  have HS := Lib.hid (same_any (.agg #[.slice Ai ni ci, .slice Bi pi di]) (.agg #[.slice A1 n1 c1, .slice A2 n2 c2]) im id xm xd w5 HBi.out.rd HBx.out.rd HLI.out.1 HLI.out.2)
  go_wp2_with fail
  (with_reducible refine HS.out.mono ?_); rintro e w6 ⟨b, rfl, hbi, hb⟩
  obtain rfl : b = true := hbi.2 (⟨(Ji.out.self OKX.out).1, (Ji.out.self OKX.out).2.1⟩)
  replace HBx := Lib.hid (HBx.out.below hb)
  replace HBy := Lib.hid (HBy.out.below hb)
  replace HBz := Lib.hid (HBz.out.below hb)
  replace HBp := Lib.hid (HBp.out.below hb)
  replace HBEL := Lib.hid (HBEL.out.trans (hb.mono HBEL.out.size))
  clear hbi hb HS
  clear ki0 ki1 kx0 kx1
  clear t1 t2
  rcases Jp.out.err with h4 | h4
  · have t3 : (ep != 0) = true := by rw [h4]; rfl
    have t4 : (ep == 4) = true := by rw [h4]; rfl
    clear h4
    go_wp2
    go_ret
    exact ⟨rfl, HBEL.out⟩
  · have t3 : (ep != 0) = false := by rw [h4]; rfl
    have H0 := Lib.hid h4
    have OKP := Lib.hid (Jp.out.fine h4).1
    clear h4
    obtain ⟨b, hb⟩ : ∃ b : Bool, (b = true ↔ LeqC xm xd ym yd) := by
      by_cases h : LeqC xm xd ym yd
      · exact ⟨true, by simp [h]⟩
      · exact ⟨false, by simp [h]⟩
    have cA : ∀ d' os', Calls Try.prog 35 #[.agg #[.slice A1 n1 c1, .slice A2 n2 c2], .agg #[.slice Ap np cp, .slice Bp pp dp]] (grow (redrawn w6 d') os') fun e w'' => e = .returned (.bool true) ∧ ∃ p : Regrown, w'' = grow (redrawn w6 p.d) p.os :=
      fun d' os' => tells_re (by simp only [true_iff]; exact Jp.out.left OKX.out H0.out) (leq_any (.agg #[.slice A1 n1 c1, .slice A2 n2 c2]) (.agg #[.slice Ap np cp, .slice Bp pp dp]) xm xd pm pd _ (HBx.out.rd.below (below_regrown w6 d' os')) (HBp.out.rd.below (below_regrown w6 d' os')) OKX.out OKP.out)
    have cB : ∀ d' os', Calls Try.prog 35 #[.agg #[.slice A3 n3 c3, .slice A4 n4 c4], .agg #[.slice Ap np cp, .slice Bp pp dp]] (grow (redrawn w6 d') os') fun e w'' => e = .returned (.bool true) ∧ ∃ p : Regrown, w'' = grow (redrawn w6 p.d) p.os :=
      fun d' os' => tells_re (by simp only [true_iff]; exact Jp.out.right OKY.out H0.out) (leq_any (.agg #[.slice A3 n3 c3, .slice A4 n4 c4]) (.agg #[.slice Ap np cp, .slice Bp pp dp]) ym yd pm pd _ (HBy.out.rd.below (below_regrown w6 d' os')) (HBp.out.rd.below (below_regrown w6 d' os')) OKY.out OKP.out)
    have cC : ∀ d' os', Calls Try.prog 35 #[.agg #[.slice A1 n1 c1, .slice A2 n2 c2], .agg #[.slice A3 n3 c3, .slice A4 n4 c4]] (grow (redrawn w6 d') os') fun e w'' => e = .returned (.bool b) ∧ ∃ p : Regrown, w'' = grow (redrawn w6 p.d) p.os :=
      fun d' os' => tells_re (hb) (leq_any (.agg #[.slice A1 n1 c1, .slice A2 n2 c2]) (.agg #[.slice A3 n3 c3, .slice A4 n4 c4]) xm xd ym yd _ (HBx.out.rd.below (below_regrown w6 d' os')) (HBy.out.rd.below (below_regrown w6 d' os')) OKX.out OKY.out)
    have cD : ∀ d' os', Calls Try.prog 25 #[.agg #[.slice Ap np cp, .slice Bp pp dp], .agg #[.slice A3 n3 c3, .slice A4 n4 c4]] (grow (redrawn w6 d') os') fun e w'' => e = .returned (.bool b) ∧ ∃ p : Regrown, w'' = grow (redrawn w6 p.d) p.os :=
      fun d' os' => tells_re (hb.trans (Jp.out.leq OKX.out OKY.out H0.out)) (same_any (.agg #[.slice Ap np cp, .slice Bp pp dp]) (.agg #[.slice A3 n3 c3, .slice A4 n4 c4]) pm pd ym yd _ (HBp.out.rd.below (below_regrown w6 d' os')) (HBy.out.rd.below (below_regrown w6 d' os')) HLP.out.1 HLP.out.2)
    have lx0 := cell_regrown HBx.out.c0
    have lx1 := cell_regrown HBx.out.c1
    have ly0 := cell_regrown HBy.out.c0
    have ly1 := cell_regrown HBy.out.c1
    have lp0 := cell_regrown HBp.out.c0
    have lp1 := cell_regrown HBp.out.c1
    have HBB : ∀ dq osq, Hid (Below w6.heap.size w6 (grow (redrawn w6 dq) osq)) := fun dq osq => Lib.hid (below_regrown w6 dq osq)
    have q1 : (b != b) = false := by simp
    clear hb
    go_upto_region 9 with fail
    refine wp_region_quiet_below (by kernel_rfl) (by kernel_rfl) ?_
    repeat (first | go_big_quiet_step (first | with_reducible exact cA _ _ | with_reducible exact cB _ _ | with_reducible exact cC _ _ | with_reducible exact cD _ _) | quiet_step (first | with_reducible exact cA _ _ | with_reducible exact cB _ _ | with_reducible exact cC _ _ | with_reducible exact cD _ _))
    refine wpQuiet_nil ?_
    intro _ hw'
    obtain ⟨⟨dq, osq⟩, hw''⟩ := hw'
    subst hw''
    have HX7 := HBB dq osq
    clear HBB cA cB cC cD lx0 lx1 ly0 ly1 lp0 lp1 q1
    obtain ⟨W7, hW7⟩ : ∃ W7, W7 = grow (redrawn w6 dq) osq := ⟨_, rfl⟩
    rw [← hW7] at HX7 ⊢
    clear hW7
    replace HBx := Lib.hid (HBx.out.below HX7.out)
    replace HBy := Lib.hid (HBy.out.below HX7.out)
    replace HBz := Lib.hid (HBz.out.below HX7.out)
    replace HBp := Lib.hid (HBp.out.below HX7.out)
    replace HBEL := Lib.hid (HBEL.out.trans (HX7.out.mono HBEL.out.size))
    clear t3
    go_upto_region 11 with fail
    have kp0 := HBp.out.c0
    have kp1 := HBp.out.c1
    have kz0 := HBz.out.c0
    have kz1 := HBz.out.c1
    have HJ := Lib.hid (join_any normSpec (.agg #[.slice Ap np cp, .slice Bp pp dp]) (.agg #[.slice A5 n5 c5, .slice A6 n6 c6]) pm pd zm zd W7 HBp.out.rd HBz.out.rd ⟨by have := OKP.out.1; omega, by have := OKP.out.2.1; omega, by have := OKZ.out.1; omega, by have := OKZ.out.2.1; omega⟩)
    go_wp2_with fail
    (with_reducible refine HJ.out.mono ?_); rintro e ws ⟨sm, sd, As, Bs, ns, ps, cs, ds, es, rfl, hom, hod, hb, hr⟩
    obtain ⟨su, sv, hj⟩ := joinRel_ok OKP.out OKZ.out hr
    have Js := Lib.hid hj
    obtain ⟨Ws, hW⟩ : ∃ W, Hid (W = ws.alloc (.cells #[.slice As ns cs, .slice Bs ps ds] 48)) := ⟨_, Lib.hid rfl⟩
    have hbb : Below W7.heap.size W7 Ws := by rw [hW.out]; exact below_alloc hb
    have HBs : Hid (BX Ws ws.heap.size (.slice As ns cs) (.slice Bs ps ds) sm sd) := Lib.hid (by rw [hW.out]; exact BX.made _ hom hod)
    replace HBx := Lib.hid (HBx.out.below hbb)
    replace HBy := Lib.hid (HBy.out.below hbb)
    replace HBz := Lib.hid (HBz.out.below hbb)
    replace HBEL := Lib.hid (HBEL.out.trans (hbb.mono HBEL.out.size))
    have hWe := hW.out.symm
    clear kp0 kp1 kz0 kz1
    clear hom hod hb hr hj HJ hbb hW
    go_upto_region 12 with fail
    clear hWe
    have ky0 := HBy.out.c0
    have ky1 := HBy.out.c1
    have kz0 := HBz.out.c0
    have kz1 := HBz.out.c1
    have HJ := Lib.hid (join_any normSpec (.agg #[.slice A3 n3 c3, .slice A4 n4 c4]) (.agg #[.slice A5 n5 c5, .slice A6 n6 c6]) ym yd zm zd Ws HBy.out.rd HBz.out.rd ⟨by have := OKY.out.1; omega, by have := OKY.out.2.1; omega, by have := OKZ.out.1; omega, by have := OKZ.out.2.1; omega⟩)
    go_wp2_with fail
    (with_reducible refine HJ.out.mono ?_); rintro e wt ⟨tm, td, At, Bt, nt, pt, ct, dt, et, rfl, hom, hod, hb, hr⟩
    obtain ⟨tu, tv, hj⟩ := joinRel_ok OKY.out OKZ.out hr
    have Jt := Lib.hid hj
    obtain ⟨Wt, hW⟩ : ∃ W, Hid (W = wt.alloc (.cells #[.slice At nt ct, .slice Bt pt dt] 48)) := ⟨_, Lib.hid rfl⟩
    have hbb : Below Ws.heap.size Ws Wt := by rw [hW.out]; exact below_alloc hb
    have HBt : Hid (BX Wt wt.heap.size (.slice At nt ct) (.slice Bt pt dt) tm td) := Lib.hid (by rw [hW.out]; exact BX.made _ hom hod)
    replace HBx := Lib.hid (HBx.out.below hbb)
    replace HBy := Lib.hid (HBy.out.below hbb)
    replace HBz := Lib.hid (HBz.out.below hbb)
    replace HBs := Lib.hid (HBs.out.below hbb)
    replace HBEL := Lib.hid (HBEL.out.trans (hbb.mono HBEL.out.size))
    have hWe := hW.out.symm
    clear ky0 ky1 kz0 kz1
    clear hom hod hb hr hj HJ hbb hW
    go_upto_region 13 with fail
    clear hWe
    by_cases hs : es = 0
    · have t5 : (es != 0) = false := by rw [hs]; rfl
      have HS0 := Lib.hid hs
      clear hs
      by_cases ht : et = 0
      · have t6 : (et != 0) = false := by rw [ht]; rfl
        have HT0 := Lib.hid ht
        have OKT := Lib.hid (Jt.out.fine ht).1
        clear ht
        go_upto_region 15 with fail
        clear t5 t6
        have kx0 := HBx.out.c0
        have kx1 := HBx.out.c1
        have kt0 := HBt.out.c0
        have kt1 := HBt.out.c1
        have HJ := Lib.hid (join_any normSpec (.agg #[.slice A1 n1 c1, .slice A2 n2 c2]) (.agg #[.slice At nt ct, .slice Bt pt dt]) xm xd tm td Wt HBx.out.rd HBt.out.rd ⟨by have := OKX.out.1; omega, by have := OKX.out.2.1; omega, by have := OKT.out.1; omega, by have := OKT.out.2.1; omega⟩)
        go_wp2_with fail
        (with_reducible refine HJ.out.mono ?_); rintro e wu ⟨um, ud, Au, Bu, nu, pu, cu, du, eu, rfl, hom, hod, hb, hr⟩
        obtain ⟨uu, uv, hj⟩ := joinRel_ok OKX.out OKT.out hr
        have Ju := Lib.hid hj
        obtain ⟨Wu, hW⟩ : ∃ W, Hid (W = wu.alloc (.cells #[.slice Au nu cu, .slice Bu pu du] 48)) := ⟨_, Lib.hid rfl⟩
        have hbb : Below Wt.heap.size Wt Wu := by rw [hW.out]; exact below_alloc hb
        have HBu : Hid (BX Wu wu.heap.size (.slice Au nu cu) (.slice Bu pu du) um ud) := Lib.hid (by rw [hW.out]; exact BX.made _ hom hod)
        replace HBx := Lib.hid (HBx.out.below hbb)
        replace HBy := Lib.hid (HBy.out.below hbb)
        replace HBz := Lib.hid (HBz.out.below hbb)
        replace HBs := Lib.hid (HBs.out.below hbb)
        replace HBEL := Lib.hid (HBEL.out.trans (hbb.mono HBEL.out.size))
        have hWe := hW.out.symm
        clear kx0 kx1 kt0 kt1
        clear hom hod hb hr hj HJ hbb hW
        go_upto_region 16 with fail
        clear hWe
        have hass := Jp.out.assoc Js.out Jt.out Ju.out H0.out HT0.out
        have t7 : (eu == 0) = true := by rw [← hass.2.2, HS0.out]; rfl
        have HASS := Lib.hid hass
        have hls : sm.length ≤ 1099511627776 ∧ sd.length ≤ 1099511627776 := Js.out.short
        have HLS := Lib.hid hls
        clear hass hls
        have ks0 := HBs.out.c0
        have ks1 := HBs.out.c1
        have ku0 := HBu.out.c0
        have ku1 := HBu.out.c1
        have HS := Lib.hid (same_any (.agg #[.slice As ns cs, .slice Bs ps ds]) (.agg #[.slice Au nu cu, .slice Bu pu du]) sm sd um ud Wu HBs.out.rd HBu.out.rd HLS.out.1 HLS.out.2)
        go_wp2_with fail
        (with_reducible refine HS.out.mono ?_); rintro e w8 ⟨b, rfl, hbi, hb⟩
        obtain rfl : b = true := hbi.2 (⟨HASS.out.1, HASS.out.2.1⟩)
        replace HBEL := Lib.hid (HBEL.out.trans (hb.mono HBEL.out.size))
        clear hbi hb HS
        go_wp2
        go_ret
        exact ⟨rfl, HBEL.out⟩
      · have t6 : (et != 0) = true := by simpa using ht
        clear ht
        go_wp2
        go_ret
        exact ⟨rfl, HBEL.out⟩
    · have t5 : (es != 0) = true := by simpa using hs
      clear hs
      go_wp2
      go_ret
      exact ⟨rfl, HBEL.out⟩
end Go.Proofs.Ytfplblhmeohhmaa
