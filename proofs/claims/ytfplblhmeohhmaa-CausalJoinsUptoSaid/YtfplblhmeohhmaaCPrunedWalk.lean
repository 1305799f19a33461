/- CausalPruned, walked. -/
import Derived.Test.YtfplblhmeohhmaaCPrune
import Derived.Test.YtfplblhmeohhmaaCLeq
namespace Go.Proofs.Ytfplblhmeohhmaa
open Go.RowKit Go.Sort Go.BigFrame
open Go.Lib (byteCells byteCells_length)

theorem OkC.canon {ms ds : List DotA} (h : OkC ms ds) : Canon ms ds := by
  obtain ⟨l1, l2, h1, h2, h3⟩ := h
  refine ⟨h1, ?_, fun d hd => ?_⟩
  · clear h1 h2 l1 l2
    induction ds with
    | nil => exact List.Pairwise.nil
    | cons x r ih =>
      have ih' := ih fun j a b ha hb => h3 (j + 1) a b (by simpa using ha) (by simpa using hb)
      refine List.pairwise_cons.2 ⟨fun y hy => ?_, ih'⟩
      cases r with
      | nil => cases hy
      | cons z s =>
        have hz := cmpD_bel.1 (h3 0 x z rfl rfl)
        rcases List.mem_cons.1 hy with rfl | hy
        · exact hz
        · exact belB_trans hz ((List.pairwise_cons.1 ih').1 y hy)
  · obtain ⟨j, hj⟩ := List.getElem?_of_mem hd
    exact h2 j d hj
theorem markOf_of_mem {ms : List DotA} (h : OkM ms) {m : DotA} (hm : m ∈ ms) : markOf ms (actOf m) = m.2.2 := by
  obtain ⟨j, hj⟩ := List.getElem?_of_mem hm
  exact markOf_at hj rfl fun i x hi hx => ltA_ne (h.lt' hi hx hj)
theorem markOf_prn (a b : ActA) : ∀ ms : List DotA, markOf (prn a ms) b = if b = a then 0 else markOf ms b
  | [] => by simp [prn, markOf]
  | x :: r => by
    have ih := markOf_prn a b r
    unfold prn at ih ⊢
    rw [List.filter_cons]
    by_cases h : actOf x = a
    · rw [if_neg (by simpa using h), ih, markOf_cons]
      by_cases hb : b = a
      · rw [if_pos hb, if_pos hb]
      · rw [if_neg hb, if_neg hb, if_neg (fun e => hb (e.symm.trans h))]
    · rw [if_pos (by simpa using h), markOf_cons, markOf_cons, ih]
      by_cases hb : b = a
      · rw [if_pos hb, if_neg (fun e => h (e.trans hb)), if_pos hb]
      · rw [if_neg hb, if_neg hb]
theorem prn_mem {a : ActA} {l : List DotA} {x : DotA} : x ∈ prn a l ↔ x ∈ l ∧ actOf x ≠ a := by
  unfold prn
  rw [List.mem_filter]
  simp
theorem OkC.prn {ms ds : List DotA} (h : OkC ms ds) (a : ActA) : OkC (prn a ms) (prn a ds) := by
  obtain ⟨h1, h2, h3⟩ := h.canon
  obtain ⟨h4, h5⟩ := okM_iff.1 h1
  refine Canon.ok ⟨okM_iff.2 ⟨fun m hm => h4 m (prn_mem.1 hm).1, h5.sublist List.filter_sublist⟩, h2.sublist List.filter_sublist, fun d hd => ?_⟩ (Nat.le_trans (prn_len a ms) h.1) (Nat.le_trans (prn_len a ds) h.2.1)
  obtain ⟨e1, e2⟩ := prn_mem.1 hd
  rw [markOf_prn, if_neg e2]
  exact h3 d e1
theorem topOf_prn (a : ActA) (ms ds : List DotA) : topOf (prn a ms) (prn a ds) a = 0 := by
  unfold topOf
  rw [markOf_prn, if_pos rfl]
  have : ∀ (l : List DotA), (∀ d ∈ l, actOf d ≠ a) → l.foldl (topF a) 0 = 0 := by
    intro l
    induction l with
    | nil => intro _; rfl
    | cons x r ih =>
      intro h
      rw [List.foldl_cons, show topF a 0 x = 0 by unfold topF; rw [if_neg (h x List.mem_cons_self)]]
      exact ih fun d hd => h d (List.mem_cons_of_mem _ hd)
  exact this _ fun d hd => (prn_mem.1 hd).2
theorem leq_prn {ms ds : List DotA} (h : OkC ms ds) (a : ActA) : LeqC (prn a ms) (prn a ds) ms ds :=
  ⟨fun m hm => by rw [markOf_of_mem h.2.2.1 (prn_mem.1 hm).1]; exact Int.le_refl _, fun d hd => .inr (prn_mem.1 hd).1⟩
theorem inC_prn (ms ds : List DotA) (a : ActA) (d : DotA) : InC (prn a ms) (prn a ds) d ↔ InC ms ds d ∧ actOf d ≠ a := by
  unfold InC
  rw [markOf_prn, prn_mem]
  by_cases h : actOf d = a
  · rw [if_pos h]
    constructor
    · rintro (h1 | h1)
      · omega
      · exact absurd h h1.2
    · exact fun h1 => absurd h h1.2
  · rw [if_neg h]
    constructor
    · rintro (h1 | h1)
      · exact ⟨.inl h1, h⟩
      · exact ⟨.inr h1.1, h⟩
    · rintro ⟨h1 | h1, h2⟩
      · exact .inl h1
      · exact .inr ⟨h1, h2⟩
/-- A bool that is told, in the worlds of a region. -/
theorem tells_re {f : FuncId} {args : Array Value} {P : Prop} {b : Bool} (hb : b = true ↔ P) {W : World} {d : Nat} {os : Array Obj} (h : Calls Try.prog f args (grow (redrawn W d) os) (Tells P (grow (redrawn W d) os))) :
    Calls Try.prog f args (grow (redrawn W d) os) fun e w'' => e = .returned (.bool b) ∧ ∃ p : Regrown, w'' = grow (redrawn W p.d) p.os :=
  Calls.regrown_of (h.mono fun e w' ⟨b', he, hi, hbl⟩ => ⟨by
    rw [he]
    have : b' = b := by rw [Bool.eq_iff_iff, hi, hb]
    rw [this], hbl⟩)

set_option maxRecDepth 100000 in
set_option maxHeartbeats 1600000 in
theorem pruned_walk (v vd : Value) (ms ds : List DotA) (a : ActA) (d : DotA) (w : World) (hm : RdD w v ms) (hd : RdD w vd ds) (hlm : ms.length ≤ 1048576) (hld : ds.length ≤ 1048576) :
    Calls Try.prog 10 #[v, vd, actV a, dotV d] w fun e w' => e = .returned (.bool true) ∧ Below w.heap.size w w' := by
  obtain ⟨W, hW⟩ : ∃ W, Hid (W = (w.alloc (.cells #[.int .i64 a.1, .int .i64 a.2] 46)).alloc (.cells #[.int .i64 d.1, .int .i64 d.2.1, .int .i64 d.2.2] 44)) := ⟨_, Lib.hid rfl⟩
  have hb0 : Below w.heap.size w W := by rw [hW.out]; exact ((Below.refl _ _).alloc (Nat.le_refl _) _).alloc (by simp) _
  have hz : W.heap.size = w.heap.size + 2 := by rw [hW.out]; simp
  have hba : BoxC W w.heap.size (.int .i64 a.1) (.int .i64 a.2) := by
    rw [hW.out]
    exact (show BoxC (w.alloc (.cells #[.int .i64 a.1, .int .i64 a.2] 46)) w.heap.size (.int .i64 a.1) (.int .i64 a.2) from ⟨box_cell _ _ _ 0, box_cell _ _ _ 1⟩).below ((Below.refl _ _).alloc (Nat.le_refl _) _) (by simp)
  have hbx : BoxD W (w.heap.size + 1) d := by
    rw [hW.out]
    have := boxD (w.alloc (.cells #[.int .i64 a.1, .int .i64 a.2] 46)) 44 d
    simpa using this
  have HON := Lib.hid (one_ref v vd ms ds W (hm.below hb0) (hd.below hb0) hlm hld)
  have HB0 := Lib.hid hb0
  have HA := Lib.hid hba
  have HX := Lib.hid hbx
  have hlt0 : w.heap.size < W.heap.size := by omega
  have hlt1 : w.heap.size + 1 < W.heap.size := by omega
  have hsW : w.heap.size ≤ W.heap.size := by omega
  have hWe := hW.out.symm
  clear hb0 hba hbx hm hd hW hz
  go_enter Try.func10, Try.ntmps10
  go_upto_region 1 with fail
  clear hWe
  go_wp2_with fail
  (with_reducible refine HON.out.mono ?_); rintro e w1 ⟨ms1, ds1, hok, mv, dv, rfl, hom, hod, hb1⟩
  obtain ⟨A, c, rfl⟩ := ownD_slice hom
  obtain ⟨A1, c1, rfl⟩ := ownD_slice hod
  obtain ⟨n, hn⟩ : ∃ n, Hid (n = ms1.length) := ⟨_, Lib.hid rfl⟩
  obtain ⟨n1, hn1⟩ : ∃ n1, Hid (n1 = ds1.length) := ⟨_, Lib.hid rfl⟩
  rw [← hn.out] at hom ⊢
  rw [← hn1.out] at hod ⊢
  have HOK := Lib.hid hok
  obtain ⟨W2, hW2⟩ : ∃ W2, Hid (W2 = w1.alloc (.cells #[.slice A n c, .slice A1 n1 c1] 48)) := ⟨_, Lib.hid rfl⟩
  have hb2 : Below w1.heap.size w1 W2 := by rw [hW2.out]; exact (Below.refl _ _).alloc (Nat.le_refl _) _
  have hzW2 : w1.heap.size < W2.heap.size := by rw [hW2.out]; simp
  have HC2 : Hid (BoxC W2 w1.heap.size (.slice A n c) (.slice A1 n1 c1)) := Lib.hid (by rw [hW2.out]; exact ⟨box_cell _ _ _ 0, box_cell _ _ _ 1⟩)
  have HRC2 := Lib.hid ((hom.below hb2).rdC (hod.below hb2))
  have HB2 := Lib.hid (hb1.trans (hb2.mono hb1.size))
  obtain ⟨j0, j1⟩ := HA.out.below HB2.out hlt0
  obtain ⟨k0, k1⟩ := HC2.out
  have HPR := Lib.hid (prune_any _ ms1 ds1 a W2 HRC2.out hok)
  have hWe2 := hW2.out.symm
  have hzz := HB2.out.size
  clear hom hod hok hb1 hb2 HON hW2
  go_upto_region 2 with fail
  clear hWe2
  go_wp2_with fail
  (with_reducible refine HPR.out.mono ?_); rintro e w3 ⟨mv, dv, rfl, hom, hod, hb3⟩
  obtain ⟨A2, c2, rfl⟩ := ownD_slice hom
  obtain ⟨A3, c3, rfl⟩ := ownD_slice hod
  obtain ⟨m, hm⟩ : ∃ m, Hid (m = (prn a ms1).length) := ⟨_, Lib.hid rfl⟩
  obtain ⟨m1, hm1⟩ : ∃ m1, Hid (m1 = (prn a ds1).length) := ⟨_, Lib.hid rfl⟩
  rw [← hm.out] at hom ⊢
  rw [← hm1.out] at hod ⊢
  obtain ⟨W4, hW4⟩ : ∃ W4, Hid (W4 = w3.alloc (.cells #[.slice A2 m c2, .slice A3 m1 c3] 48)) := ⟨_, Lib.hid rfl⟩
  have hb4 : Below w3.heap.size w3 W4 := by rw [hW4.out]; exact (Below.refl _ _).alloc (Nat.le_refl _) _
  have hc4 : BoxC W4 w3.heap.size (.slice A2 m c2) (.slice A3 m1 c3) := by rw [hW4.out]; exact ⟨box_cell _ _ _ 0, box_cell _ _ _ 1⟩
  have hzW4 : w3.heap.size < W4.heap.size := by rw [hW4.out]; simp
  have HRP := Lib.hid ((hom.below hb4).rdC (hod.below hb4))
  have HB24 := Lib.hid (hb3.trans (hb4.mono hb3.size))
  have HRC4 := Lib.hid (HRC2.out.below HB24.out)
  have HB4 := Lib.hid (HB2.out.trans (HB24.out.mono hzz))
  have hok3 := HOK.out.prn a
  have HOK3 := Lib.hid hok3
  have hTop := topOf_prn a ms1 ds1
  have HTOP := Lib.hid hTop
  have hLq := leq_prn HOK.out a
  have HLQ := Lib.hid hLq
  have hIn := inC_prn ms1 ds1 a d
  obtain ⟨b2, hb2⟩ : ∃ b : Bool, (b = true ↔ InC ms1 ds1 d) := by
    by_cases h : InC ms1 ds1 d
    · exact ⟨true, by simp [h]⟩
    · exact ⟨false, by simp [h]⟩
  obtain ⟨b1, hb1⟩ : ∃ b : Bool, (b = true ↔ InC (prn a ms1) (prn a ds1) d) := by
    by_cases h : InC (prn a ms1) (prn a ds1) d
    · exact ⟨true, by simp [h]⟩
    · exact ⟨false, by simp [h]⟩
  have cK : ∀ d' os', Calls Try.prog 48 #[.agg #[.slice A2 m c2, .slice A3 m1 c3]] (grow (redrawn W4 d') os') fun e w'' => e = .returned (.bool true) ∧ ∃ p : Regrown, w'' = grow (redrawn W4 p.d) p.os :=
    fun d' os' => tells_re (by simp [HOK3.out]) (can_any _ _ _ _ (HRP.out.below (below_regrown W4 d' os')) (by have := HOK3.out.1; omega) (by have := HOK3.out.2.1; omega))
  have cT : ∀ d' os', Calls Try.prog 21 #[.agg #[.slice A2 m c2, .slice A3 m1 c3], .agg #[.int .i64 a.1, .int .i64 a.2]] (grow (redrawn W4 d') os') fun e w'' => e = .returned (.int .i64 0) ∧ ∃ p : Regrown, w'' = grow (redrawn W4 p.d) p.os :=
    fun d' os' => Calls.regrown_of ((top_any _ _ _ a _ (HRP.out.below (below_regrown W4 d' os')) HOK3.out).mono fun e w' ⟨he, hbl⟩ => ⟨by rw [he, HTOP.out], hbl⟩)
  have cL : ∀ d' os', Calls Try.prog 35 #[.agg #[.slice A2 m c2, .slice A3 m1 c3], .agg #[.slice A n c, .slice A1 n1 c1]] (grow (redrawn W4 d') os') fun e w'' => e = .returned (.bool true) ∧ ∃ p : Regrown, w'' = grow (redrawn W4 p.d) p.os :=
    fun d' os' => tells_re (by simp [HLQ.out]) (leq_any _ _ _ _ _ _ _ (HRP.out.below (below_regrown W4 d' os')) (HRC4.out.below (below_regrown W4 d' os')) HOK3.out HOK.out)
  have cP : ∀ d' os', Calls Try.prog 19 #[.agg #[.slice A2 m c2, .slice A3 m1 c3], .agg #[.int .i64 d.1, .int .i64 d.2.1, .int .i64 d.2.2]] (grow (redrawn W4 d') os') fun e w'' => e = .returned (.bool b1) ∧ ∃ p : Regrown, w'' = grow (redrawn W4 p.d) p.os :=
    fun d' os' => tells_re hb1 (covers_any _ _ _ d _ (HRP.out.below (below_regrown W4 d' os')) HOK3.out)
  have cQ : ∀ d' os', Calls Try.prog 19 #[.agg #[.slice A n c, .slice A1 n1 c1], .agg #[.int .i64 d.1, .int .i64 d.2.1, .int .i64 d.2.2]] (grow (redrawn W4 d') os') fun e w'' => e = .returned (.bool b2) ∧ ∃ p : Regrown, w'' = grow (redrawn W4 p.d) p.os :=
    fun d' os' => tells_re hb2 (covers_any _ _ _ d _ (HRC4.out.below (below_regrown W4 d' os')) HOK.out)
  obtain ⟨i0, i1⟩ := HA.out.below HB4.out hlt0
  obtain ⟨x0, x1, x2⟩ := HX.out.below HB4.out hlt1
  have hb12 : b1 = (b2 && !decide (actOf d = a)) := by
    rw [Bool.eq_iff_iff, hb1, hIn, ← hb2]
    simp
  obtain ⟨f0, f1⟩ := HC2.out.below HB24.out hzW2
  have HF := Lib.hid (show BoxC W4 w1.heap.size (.slice A n c) (.slice A1 n1 c1) from ⟨f0, f1⟩)
  have HG := Lib.hid hc4
  have HI := Lib.hid (show BoxC W4 w.heap.size (.int .i64 a.1) (.int .i64 a.2) from ⟨i0, i1⟩)
  have HJ := Lib.hid (show BoxD W4 (w.heap.size + 1) d from ⟨x0, x1, x2⟩)
  have HBB : ∀ dq osq, Hid (Below w.heap.size w (grow (redrawn W4 dq) osq)) := fun dq osq => Lib.hid (below_re (HB0.out.trans (HB4.out.mono hsW)) dq osq)
  have hWe4 := hW4.out.symm
  clear hom hod hb3 hb4 hc4 hok3 hTop hLq hIn hb2 hb1 j0 j1 k0 k1 HPR hW4 f0 f1
  have own : (d.1 == a.1) = true ∧ (d.2.1 == a.2) = true ∧ decide (actOf d = a) = true ∨ (d.1 == a.1) = true ∧ (d.2.1 == a.2) = false ∧ decide (actOf d = a) = false ∨ (d.1 == a.1) = false ∧ decide (actOf d = a) = false := by
    obtain ⟨d1, d2, d3⟩ := d
    obtain ⟨a1, a2⟩ := a
    by_cases h1 : d1 = a1
    · by_cases h2 : d2 = a2
      · exact .inl ⟨by simpa using h1, by simpa using h2, by simp [actOf, h1, h2]⟩
      · exact .inr (.inl ⟨by simpa using h1, by simpa using h2, by simp [actOf, h1, h2]⟩)
    · exact .inr (.inr ⟨by simpa using h1, by simp [actOf, h1]⟩)
  rcases own with ⟨o1, o2, o3⟩ | ⟨o1, o2, o3⟩ | ⟨o1, o3⟩
  · rw [o3] at hb12
    clear o3
    go_upto_region 4 with fail
    clear hWe4 i0 i1 x0 x1 x2
    have l0 := cell_regrown HF.out.1
    have l1 := cell_regrown HF.out.2
    have l2 := cell_regrown HG.out.1
    have l3 := cell_regrown HG.out.2
    have l4 := cell_regrown HI.out.1
    have l5 := cell_regrown HI.out.2
    have l6 := cell_regrown HJ.out.1
    have l7 := cell_regrown HJ.out.2.1
    have l8 := cell_regrown HJ.out.2.2
    cases b2 with
    | true =>
      obtain rfl : b1 = false := hb12
      refine wp_region_quiet_below (by kernel_rfl) (by kernel_rfl) ?_
      repeat (first | go_big_quiet_step (first | with_reducible exact cK _ _ | with_reducible exact cT _ _ | with_reducible exact cL _ _ | with_reducible exact cP _ _ | with_reducible exact cQ _ _) | quiet_step (first | with_reducible exact cK _ _ | with_reducible exact cT _ _ | with_reducible exact cL _ _ | with_reducible exact cP _ _ | with_reducible exact cQ _ _))
      refine wpQuiet_nil ?_
      intro _ hw'
      obtain ⟨⟨dq, osq⟩, hw''⟩ := hw'
      subst hw''
      have HX2 := HBB dq osq
      clear HBB
      go_wp2
      go_ret
      exact ⟨rfl, HX2.out⟩
    | false =>
      obtain rfl : b1 = false := hb12
      refine wp_region_quiet_below (by kernel_rfl) (by kernel_rfl) ?_
      repeat (first | go_big_quiet_step (first | with_reducible exact cK _ _ | with_reducible exact cT _ _ | with_reducible exact cL _ _ | with_reducible exact cP _ _ | with_reducible exact cQ _ _) | quiet_step (first | with_reducible exact cK _ _ | with_reducible exact cT _ _ | with_reducible exact cL _ _ | with_reducible exact cP _ _ | with_reducible exact cQ _ _))
      refine wpQuiet_nil ?_
      intro _ hw'
      obtain ⟨⟨dq, osq⟩, hw''⟩ := hw'
      subst hw''
      have HX2 := HBB dq osq
      clear HBB
      go_wp2
      go_ret
      exact ⟨rfl, HX2.out⟩
  · rw [o3] at hb12
    clear o3
    go_upto_region 4 with fail
    clear hWe4 i0 i1 x0 x1 x2
    have l0 := cell_regrown HF.out.1
    have l1 := cell_regrown HF.out.2
    have l2 := cell_regrown HG.out.1
    have l3 := cell_regrown HG.out.2
    have l4 := cell_regrown HI.out.1
    have l5 := cell_regrown HI.out.2
    have l6 := cell_regrown HJ.out.1
    have l7 := cell_regrown HJ.out.2.1
    have l8 := cell_regrown HJ.out.2.2
    cases b2 with
    | true =>
      obtain rfl : b1 = true := hb12
      refine wp_region_quiet_below (by kernel_rfl) (by kernel_rfl) ?_
      repeat (first | go_big_quiet_step (first | with_reducible exact cK _ _ | with_reducible exact cT _ _ | with_reducible exact cL _ _ | with_reducible exact cP _ _ | with_reducible exact cQ _ _) | quiet_step (first | with_reducible exact cK _ _ | with_reducible exact cT _ _ | with_reducible exact cL _ _ | with_reducible exact cP _ _ | with_reducible exact cQ _ _))
      refine wpQuiet_nil ?_
      intro _ hw'
      obtain ⟨⟨dq, osq⟩, hw''⟩ := hw'
      subst hw''
      have HX2 := HBB dq osq
      clear HBB
      go_wp2
      go_ret
      exact ⟨rfl, HX2.out⟩
    | false =>
      obtain rfl : b1 = false := hb12
      refine wp_region_quiet_below (by kernel_rfl) (by kernel_rfl) ?_
      repeat (first | go_big_quiet_step (first | with_reducible exact cK _ _ | with_reducible exact cT _ _ | with_reducible exact cL _ _ | with_reducible exact cP _ _ | with_reducible exact cQ _ _) | quiet_step (first | with_reducible exact cK _ _ | with_reducible exact cT _ _ | with_reducible exact cL _ _ | with_reducible exact cP _ _ | with_reducible exact cQ _ _))
      refine wpQuiet_nil ?_
      intro _ hw'
      obtain ⟨⟨dq, osq⟩, hw''⟩ := hw'
      subst hw''
      have HX2 := HBB dq osq
      clear HBB
      go_wp2
      go_ret
      exact ⟨rfl, HX2.out⟩
  · rw [o3] at hb12
    clear o3
    go_upto_region 4 with fail
    clear hWe4 i0 i1 x0 x1 x2
    have l0 := cell_regrown HF.out.1
    have l1 := cell_regrown HF.out.2
    have l2 := cell_regrown HG.out.1
    have l3 := cell_regrown HG.out.2
    have l4 := cell_regrown HI.out.1
    have l5 := cell_regrown HI.out.2
    have l6 := cell_regrown HJ.out.1
    have l7 := cell_regrown HJ.out.2.1
    have l8 := cell_regrown HJ.out.2.2
    cases b2 with
    | true =>
      obtain rfl : b1 = true := hb12
      refine wp_region_quiet_below (by kernel_rfl) (by kernel_rfl) ?_
      repeat (first | go_big_quiet_step (first | with_reducible exact cK _ _ | with_reducible exact cT _ _ | with_reducible exact cL _ _ | with_reducible exact cP _ _ | with_reducible exact cQ _ _) | quiet_step (first | with_reducible exact cK _ _ | with_reducible exact cT _ _ | with_reducible exact cL _ _ | with_reducible exact cP _ _ | with_reducible exact cQ _ _))
      refine wpQuiet_nil ?_
      intro _ hw'
      obtain ⟨⟨dq, osq⟩, hw''⟩ := hw'
      subst hw''
      have HX2 := HBB dq osq
      clear HBB
      go_wp2
      go_ret
      exact ⟨rfl, HX2.out⟩
    | false =>
      obtain rfl : b1 = false := hb12
      refine wp_region_quiet_below (by kernel_rfl) (by kernel_rfl) ?_
      repeat (first | go_big_quiet_step (first | with_reducible exact cK _ _ | with_reducible exact cT _ _ | with_reducible exact cL _ _ | with_reducible exact cP _ _ | with_reducible exact cQ _ _) | quiet_step (first | with_reducible exact cK _ _ | with_reducible exact cT _ _ | with_reducible exact cL _ _ | with_reducible exact cP _ _ | with_reducible exact cQ _ _))
      refine wpQuiet_nil ?_
      intro _ hw'
      obtain ⟨⟨dq, osq⟩, hw''⟩ := hw'
      subst hw''
      have HX2 := HBB dq osq
      clear HBB
      go_wp2
      go_ret
      exact ⟨rfl, HX2.out⟩
end Go.Proofs.Ytfplblhmeohhmaa
