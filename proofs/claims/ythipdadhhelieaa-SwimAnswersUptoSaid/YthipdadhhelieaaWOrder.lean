/- SwimOrder. -/
import Derived.Test.YthipdadhhelieaaWGreater
namespace Go.Proofs.Ythipdadhhelieaa
open Go.RowKit Go.Sort Go.BigFrame

theorem gr_iff (a b : PeerA) : greaterB a b = true ↔ a.1 = b.1 ∧ (b.2.1 < a.2.1 ∨ (a.2.1 = b.2.1 ∧ b.2.2 < a.2.2)) := by
  unfold greaterB
  simp only [Bool.and_eq_true, Bool.or_eq_true, beq_iff_eq, decide_eq_true_eq]
theorem gr_self (a : PeerA) : greaterB a a = false := by
  cases h : greaterB a a
  · rfl
  · have := (gr_iff a a).1 h; omega
theorem gr_other {a b : PeerA} (h : a.1 ≠ b.1) : greaterB a b = false := by
  cases h1 : greaterB a b
  · rfl
  · exact absurd ((gr_iff a b).1 h1).1 h
theorem gr_total {a b : PeerA} (h : a.1 = b.1) (hn : a ≠ b) : greaterB b a = !greaterB a b := by
  have i1 := gr_iff a b
  have i2 := gr_iff b a
  have hc : ¬ (a.2.1 = b.2.1 ∧ a.2.2 = b.2.2) := fun ⟨e1, e2⟩ => hn (Prod.ext h (Prod.ext e1 e2))
  cases h1 : greaterB a b <;> cases h2 : greaterB b a <;> rw [h1] at i1 <;> rw [h2] at i2 <;> simp only [true_iff, false_iff, Bool.false_eq_true] at i1 i2 <;> first | rfl | omega
theorem gr_trans {a b c : PeerA} (h1 : greaterB a b = true) (h2 : greaterB b c = true) : greaterB a c = true := by
  have i1 := (gr_iff a b).1 h1
  have i2 := (gr_iff b c).1 h2
  refine (gr_iff a c).2 ?_
  omega
theorem eqPeer (a b : PeerA) (w : World) : (binOp .eql 38 (peerV a) (peerV b)).run Try.prog w = .ok (.bool (decide (a = b))) w := by
  have u3 := Try.underlying3
  have a3 := Try.isAgg3
  have z3 := Try.sizeOf3
  have hS : Try.prog.underlying 38 = some (.struct (Try.prog.fieldsOf 38)) := by kernel_rfl
  have hp : Try.prog.stoodInHeld 38 = false := by kernel_rfl
  obtain ⟨a1, a2, a4⟩ := a
  obtain ⟨b1, b2, b4⟩ := b
  rw [run_eql_struct, show (10000 : Nat) = 9999 + 1 from rfl, run_equalIn_agg w 9999 38 _ _ hS hp]
  simp only [Program.fieldsOf, Try.underlying38]
  go_simp
  by_cases h1 : a1 = b1 <;> by_cases h2 : a2 = b2 <;> by_cases h3 : a4 = b4 <;> simp [h1, h2, h3]

set_option maxRecDepth 100000 in
set_option maxHeartbeats 6400000 in
/-- The walk, what the calls tell being given. -/
theorem order_core (a b c : PeerA) (w : World) (nb eb x y u v : Bool) (hx : greaterB a b = x) (hy : greaterB b a = y) (hu : greaterB b c = u) (hv : greaterB a c = v) (hn : (a.1 != b.1) = nb) (he : decide (a = b) = eb)
    (hc : (nb = true ∧ x = false ∧ y = false) ∨ (nb = false ∧ eb = true ∧ x = false ∧ y = false) ∨ (nb = false ∧ eb = false ∧ x = true ∧ y = false ∧ u = false) ∨ (nb = false ∧ eb = false ∧ x = true ∧ y = false ∧ u = true ∧ v = true) ∨ (nb = false ∧ eb = false ∧ x = false ∧ y = true)) :
    Calls Try.prog 6 #[peerV a, peerV b, peerV c] w fun e w' => e = .returned (.bool true) ∧ Below w.heap.size w w' := by
  obtain ⟨W, hW⟩ : ∃ W, Hid (W = ((w.alloc (.cells #[.int .i64 a.1, .int .i64 a.2.1, .int .i64 a.2.2] 38)).alloc (.cells #[.int .i64 b.1, .int .i64 b.2.1, .int .i64 b.2.2] 38)).alloc (.cells #[.int .i64 c.1, .int .i64 c.2.1, .int .i64 c.2.2] 38)) := ⟨_, Lib.hid rfl⟩
  have hB : Below w.heap.size w W := by rw [hW.out]; exact (((Below.refl _ _).alloc (Nat.le_refl _) _).alloc (by simp) _).alloc (by simp; omega) _
  obtain ⟨W1, hW1⟩ : ∃ W1, Hid (W1 = w.alloc (.cells #[.int .i64 a.1, .int .i64 a.2.1, .int .i64 a.2.2] 38)) := ⟨_, Lib.hid rfl⟩
  obtain ⟨W2, hW2⟩ : ∃ W2, Hid (W2 = W1.alloc (.cells #[.int .i64 b.1, .int .i64 b.2.1, .int .i64 b.2.2] 38)) := ⟨_, Lib.hid rfl⟩
  have hW3 : W = W2.alloc (.cells #[.int .i64 c.1, .int .i64 c.2.1, .int .i64 c.2.2] 38) := by rw [hW.out, hW2.out, hW1.out]
  have z1 : W1.heap.size = w.heap.size + 1 := by rw [hW1.out]; simp
  have z2 : W2.heap.size = w.heap.size + 1 + 1 := by rw [hW2.out]; simp [z1]
  have e1 : W1.heap[w.heap.size]? = some (.cells #[.int .i64 a.1, .int .i64 a.2.1, .int .i64 a.2.2] 38 (0, 0)) := by rw [hW1.out]; exact heap_alloc_new w _
  have e2 : W2.heap[w.heap.size + 1]? = some (.cells #[.int .i64 b.1, .int .i64 b.2.1, .int .i64 b.2.2] 38 (0, 0)) := by rw [hW2.out, ← z1]; exact heap_alloc_new W1 _
  have hr2 : W.heap[w.heap.size + 1 + 1]? = some (.cells #[.int .i64 c.1, .int .i64 c.2.1, .int .i64 c.2.2] 38 (0, 0)) := by rw [hW3, ← z2]; exact heap_alloc_new W2 _
  have hr1 : W.heap[w.heap.size + 1]? = some (.cells #[.int .i64 b.1, .int .i64 b.2.1, .int .i64 b.2.2] 38 (0, 0)) := by rw [hW3]; exact (Below.heap_alloc _ _ _ (by omega)).trans e2
  have hr0 : W.heap[w.heap.size]? = some (.cells #[.int .i64 a.1, .int .i64 a.2.1, .int .i64 a.2.2] 38 (0, 0)) := by
    rw [hW3]; refine (Below.heap_alloc _ _ _ (by omega)).trans ?_
    rw [hW2.out]; exact (Below.heap_alloc _ _ _ (by omega)).trans e1
  have q0 := cell_regrown (cell_of_row _ _ 0 _ _ (0, 0) hr0 : W.cell? ⟨w.heap.size, 0, none⟩ = some (.int .i64 a.1))
  have q1 := cell_regrown (cell_of_row _ _ 1 _ _ (0, 0) hr0 : W.cell? ⟨w.heap.size, 1, none⟩ = some (.int .i64 a.2.1))
  have q2 := cell_regrown (cell_of_row _ _ 2 _ _ (0, 0) hr0 : W.cell? ⟨w.heap.size, 2, none⟩ = some (.int .i64 a.2.2))
  have q3 := cell_regrown (cell_of_row _ _ 0 _ _ (0, 0) hr1 : W.cell? ⟨w.heap.size + 1, 0, none⟩ = some (.int .i64 b.1))
  have q4 := cell_regrown (cell_of_row _ _ 1 _ _ (0, 0) hr1 : W.cell? ⟨w.heap.size + 1, 1, none⟩ = some (.int .i64 b.2.1))
  have q5 := cell_regrown (cell_of_row _ _ 2 _ _ (0, 0) hr1 : W.cell? ⟨w.heap.size + 1, 2, none⟩ = some (.int .i64 b.2.2))
  have q6 := cell_regrown (cell_of_row _ _ 0 _ _ (0, 0) hr2 : W.cell? ⟨w.heap.size + 1 + 1, 0, none⟩ = some (.int .i64 c.1))
  have q7 := cell_regrown (cell_of_row _ _ 1 _ _ (0, 0) hr2 : W.cell? ⟨w.heap.size + 1 + 1, 1, none⟩ = some (.int .i64 c.2.1))
  have q8 := cell_regrown (cell_of_row _ _ 2 _ _ (0, 0) hr2 : W.cell? ⟨w.heap.size + 1 + 1, 2, none⟩ = some (.int .i64 c.2.2))
  have c1 := re_of (greater_any a a) W
  have c2 := re_of (greater_any a b) W
  have c3 := re_of (greater_any b a) W
  have c4 := re_of (greater_any b c) W
  have c5 := re_of (greater_any a c) W
  rw [gr_self] at c1
  rw [hx] at c2
  rw [hy] at c3
  rw [hu] at c4
  rw [hv] at c5
  have c0 : Hid (Calls Try.prog 13 #[] W fun e w'' => e = .returned (.bool true) ∧ ∃ p : Regrown, w'' = grow (redrawn W p.d) p.os) := Lib.hid ((awake_any W).mono fun _ _ ⟨h1, h2⟩ => ⟨h1, regrown_of_below h2⟩)
  have hE := eqPeer a b
  rw [he] at hE
  have HBB : ∀ dq osq, Hid (Below w.heap.size w (grow (redrawn W dq) osq)) := fun dq osq => Lib.hid (below_re hB dq osq)
  have C1 := Lib.hid c1
  have C2 := Lib.hid c2
  have C3 := Lib.hid c3
  have C4 := Lib.hid c4
  have C5 := Lib.hid c5
  have HX := Lib.hid hx
  have HY := Lib.hid hy
  clear hB hr0 hr1 hr2 e1 e2 z1 z2 hW3 hx hy hu hv he c1 c2 c3 c4 c5
  rcases hc with ⟨rfl, rfl, rfl⟩ | ⟨rfl, rfl, rfl, rfl⟩ | ⟨rfl, rfl, rfl, rfl, rfl⟩ | ⟨rfl, rfl, rfl, rfl, rfl, rfl⟩ | ⟨rfl, rfl, rfl, rfl⟩
  · skip
    go_enter Try.func6, Try.ntmps6
    go_upto_region 1 with fail
    rw [← hW.out]
    go_wp2_with (first
      | (go_at_call 13
         (with_reducible refine c0.out.mono ?_); rintro e w2 ⟨rfl, ⟨⟨dq, osq⟩, rfl⟩⟩)
      | (go_at_call 25
         (with_reducible refine (C1.out _ _).mono ?_); rintro e w2 ⟨rfl, ⟨⟨dq, osq⟩, rfl⟩⟩)
      | (go_at_call 25
         (with_reducible refine (C2.out _ _).mono ?_); rintro e w2 ⟨rfl, ⟨⟨dq, osq⟩, rfl⟩⟩)
      | (go_at_call 25
         (with_reducible refine (C3.out _ _).mono ?_); rintro e w2 ⟨rfl, ⟨⟨dq, osq⟩, rfl⟩⟩)
      | (go_at_call 25
         (with_reducible refine (C4.out _ _).mono ?_); rintro e w2 ⟨rfl, ⟨⟨dq, osq⟩, rfl⟩⟩)
      | (go_at_call 25
         (with_reducible refine (C5.out _ _).mono ?_); rintro e w2 ⟨rfl, ⟨⟨dq, osq⟩, rfl⟩⟩))
    go_ret
    exact ⟨rfl, (HBB _ _).out⟩
  · skip
    go_enter Try.func6, Try.ntmps6
    go_upto_region 1 with fail
    rw [← hW.out]
    go_wp2_with (first
      | (go_at_call 13
         (with_reducible refine c0.out.mono ?_); rintro e w2 ⟨rfl, ⟨⟨dq, osq⟩, rfl⟩⟩)
      | (go_at_call 25
         (with_reducible refine (C1.out _ _).mono ?_); rintro e w2 ⟨rfl, ⟨⟨dq, osq⟩, rfl⟩⟩)
      | (go_at_call 25
         (with_reducible refine (C2.out _ _).mono ?_); rintro e w2 ⟨rfl, ⟨⟨dq, osq⟩, rfl⟩⟩)
      | (go_at_call 25
         (with_reducible refine (C3.out _ _).mono ?_); rintro e w2 ⟨rfl, ⟨⟨dq, osq⟩, rfl⟩⟩)
      | (go_at_call 25
         (with_reducible refine (C4.out _ _).mono ?_); rintro e w2 ⟨rfl, ⟨⟨dq, osq⟩, rfl⟩⟩)
      | (go_at_call 25
         (with_reducible refine (C5.out _ _).mono ?_); rintro e w2 ⟨rfl, ⟨⟨dq, osq⟩, rfl⟩⟩))
    go_ret
    exact ⟨rfl, (HBB _ _).out⟩
  · skip
    go_enter Try.func6, Try.ntmps6
    go_upto_region 1 with fail
    rw [← hW.out]
    go_wp2_with (first
      | (go_at_call 13
         (with_reducible refine c0.out.mono ?_); rintro e w2 ⟨rfl, ⟨⟨dq, osq⟩, rfl⟩⟩)
      | (go_at_call 25
         (with_reducible refine (C1.out _ _).mono ?_); rintro e w2 ⟨rfl, ⟨⟨dq, osq⟩, rfl⟩⟩)
      | (go_at_call 25
         (with_reducible refine (C2.out _ _).mono ?_); rintro e w2 ⟨rfl, ⟨⟨dq, osq⟩, rfl⟩⟩)
      | (go_at_call 25
         (with_reducible refine (C3.out _ _).mono ?_); rintro e w2 ⟨rfl, ⟨⟨dq, osq⟩, rfl⟩⟩)
      | (go_at_call 25
         (with_reducible refine (C4.out _ _).mono ?_); rintro e w2 ⟨rfl, ⟨⟨dq, osq⟩, rfl⟩⟩)
      | (go_at_call 25
         (with_reducible refine (C5.out _ _).mono ?_); rintro e w2 ⟨rfl, ⟨⟨dq, osq⟩, rfl⟩⟩))
    have HV := HBB dq osq
    have r0 := cell_regrown (q0 dq osq)
    have r1 := cell_regrown (q1 dq osq)
    have r2 := cell_regrown (q2 dq osq)
    have r3 := cell_regrown (q3 dq osq)
    have r4 := cell_regrown (q4 dq osq)
    have r5 := cell_regrown (q5 dq osq)
    have d1 : ∀ d' os', Calls Try.prog 25 #[.agg #[.int .i64 a.1, .int .i64 a.2.1, .int .i64 a.2.2], .agg #[.int .i64 b.1, .int .i64 b.2.1, .int .i64 b.2.2]] (grow (redrawn (grow (redrawn W dq) osq) d') os') fun e w'' => e = .returned (.bool (greaterB a b)) ∧ ∃ p : Regrown, w'' = grow (redrawn (grow (redrawn W dq) osq) p.d) p.os := re_of (greater_any a b) (grow (redrawn W dq) osq)
    have d2 : ∀ d' os', Calls Try.prog 25 #[.agg #[.int .i64 b.1, .int .i64 b.2.1, .int .i64 b.2.2], .agg #[.int .i64 a.1, .int .i64 a.2.1, .int .i64 a.2.2]] (grow (redrawn (grow (redrawn W dq) osq) d') os') fun e w'' => e = .returned (.bool (greaterB b a)) ∧ ∃ p : Regrown, w'' = grow (redrawn (grow (redrawn W dq) osq) p.d) p.os := re_of (greater_any b a) (grow (redrawn W dq) osq)
    rw [HX.out] at d1
    rw [HY.out] at d2
    obtain ⟨V, hV⟩ : ∃ V, V = grow (redrawn W dq) osq := ⟨_, rfl⟩
    rw [← hV] at HV r0 r1 r2 r3 r4 r5 d1 d2 ⊢
    clear hV q0 q1 q2 q3 q4 q5 q6 q7 q8 HBB
    refine wp_region_quiet_below (by kernel_rfl) (by kernel_rfl) ?_
    repeat (first | go_big_quiet_step (first | with_reducible exact d1 _ _ | with_reducible exact d2 _ _) | quiet_step (first | with_reducible exact d1 _ _ | with_reducible exact d2 _ _))
    refine wpQuiet_nil ?_
    intro _ hw'
    obtain ⟨⟨dq', osq'⟩, hw''⟩ := hw'
    subst hw''
    go_wp2
    go_ret
    exact ⟨rfl, below_re HV.out dq' osq'⟩
  · skip
    go_enter Try.func6, Try.ntmps6
    go_upto_region 1 with fail
    rw [← hW.out]
    go_wp2_with (first
      | (go_at_call 13
         (with_reducible refine c0.out.mono ?_); rintro e w2 ⟨rfl, ⟨⟨dq, osq⟩, rfl⟩⟩)
      | (go_at_call 25
         (with_reducible refine (C1.out _ _).mono ?_); rintro e w2 ⟨rfl, ⟨⟨dq, osq⟩, rfl⟩⟩)
      | (go_at_call 25
         (with_reducible refine (C2.out _ _).mono ?_); rintro e w2 ⟨rfl, ⟨⟨dq, osq⟩, rfl⟩⟩)
      | (go_at_call 25
         (with_reducible refine (C3.out _ _).mono ?_); rintro e w2 ⟨rfl, ⟨⟨dq, osq⟩, rfl⟩⟩)
      | (go_at_call 25
         (with_reducible refine (C4.out _ _).mono ?_); rintro e w2 ⟨rfl, ⟨⟨dq, osq⟩, rfl⟩⟩)
      | (go_at_call 25
         (with_reducible refine (C5.out _ _).mono ?_); rintro e w2 ⟨rfl, ⟨⟨dq, osq⟩, rfl⟩⟩))
    have HV := HBB dq osq
    have r0 := cell_regrown (q0 dq osq)
    have r1 := cell_regrown (q1 dq osq)
    have r2 := cell_regrown (q2 dq osq)
    have r3 := cell_regrown (q3 dq osq)
    have r4 := cell_regrown (q4 dq osq)
    have r5 := cell_regrown (q5 dq osq)
    have d1 : ∀ d' os', Calls Try.prog 25 #[.agg #[.int .i64 a.1, .int .i64 a.2.1, .int .i64 a.2.2], .agg #[.int .i64 b.1, .int .i64 b.2.1, .int .i64 b.2.2]] (grow (redrawn (grow (redrawn W dq) osq) d') os') fun e w'' => e = .returned (.bool (greaterB a b)) ∧ ∃ p : Regrown, w'' = grow (redrawn (grow (redrawn W dq) osq) p.d) p.os := re_of (greater_any a b) (grow (redrawn W dq) osq)
    have d2 : ∀ d' os', Calls Try.prog 25 #[.agg #[.int .i64 b.1, .int .i64 b.2.1, .int .i64 b.2.2], .agg #[.int .i64 a.1, .int .i64 a.2.1, .int .i64 a.2.2]] (grow (redrawn (grow (redrawn W dq) osq) d') os') fun e w'' => e = .returned (.bool (greaterB b a)) ∧ ∃ p : Regrown, w'' = grow (redrawn (grow (redrawn W dq) osq) p.d) p.os := re_of (greater_any b a) (grow (redrawn W dq) osq)
    rw [HX.out] at d1
    rw [HY.out] at d2
    obtain ⟨V, hV⟩ : ∃ V, V = grow (redrawn W dq) osq := ⟨_, rfl⟩
    rw [← hV] at HV r0 r1 r2 r3 r4 r5 d1 d2 ⊢
    clear hV q0 q1 q2 q3 q4 q5 q6 q7 q8 HBB
    refine wp_region_quiet_below (by kernel_rfl) (by kernel_rfl) ?_
    repeat (first | go_big_quiet_step (first | with_reducible exact d1 _ _ | with_reducible exact d2 _ _) | quiet_step (first | with_reducible exact d1 _ _ | with_reducible exact d2 _ _))
    refine wpQuiet_nil ?_
    intro _ hw'
    obtain ⟨⟨dq', osq'⟩, hw''⟩ := hw'
    subst hw''
    go_wp2
    go_ret
    exact ⟨rfl, below_re HV.out dq' osq'⟩
  · skip
    go_enter Try.func6, Try.ntmps6
    go_upto_region 1 with fail
    rw [← hW.out]
    go_wp2_with (first
      | (go_at_call 13
         (with_reducible refine c0.out.mono ?_); rintro e w2 ⟨rfl, ⟨⟨dq, osq⟩, rfl⟩⟩)
      | (go_at_call 25
         (with_reducible refine (C1.out _ _).mono ?_); rintro e w2 ⟨rfl, ⟨⟨dq, osq⟩, rfl⟩⟩)
      | (go_at_call 25
         (with_reducible refine (C2.out _ _).mono ?_); rintro e w2 ⟨rfl, ⟨⟨dq, osq⟩, rfl⟩⟩)
      | (go_at_call 25
         (with_reducible refine (C3.out _ _).mono ?_); rintro e w2 ⟨rfl, ⟨⟨dq, osq⟩, rfl⟩⟩)
      | (go_at_call 25
         (with_reducible refine (C4.out _ _).mono ?_); rintro e w2 ⟨rfl, ⟨⟨dq, osq⟩, rfl⟩⟩)
      | (go_at_call 25
         (with_reducible refine (C5.out _ _).mono ?_); rintro e w2 ⟨rfl, ⟨⟨dq, osq⟩, rfl⟩⟩))
    have HV := HBB dq osq
    have r0 := cell_regrown (q0 dq osq)
    have r1 := cell_regrown (q1 dq osq)
    have r2 := cell_regrown (q2 dq osq)
    have r3 := cell_regrown (q3 dq osq)
    have r4 := cell_regrown (q4 dq osq)
    have r5 := cell_regrown (q5 dq osq)
    have d1 : ∀ d' os', Calls Try.prog 25 #[.agg #[.int .i64 a.1, .int .i64 a.2.1, .int .i64 a.2.2], .agg #[.int .i64 b.1, .int .i64 b.2.1, .int .i64 b.2.2]] (grow (redrawn (grow (redrawn W dq) osq) d') os') fun e w'' => e = .returned (.bool (greaterB a b)) ∧ ∃ p : Regrown, w'' = grow (redrawn (grow (redrawn W dq) osq) p.d) p.os := re_of (greater_any a b) (grow (redrawn W dq) osq)
    have d2 : ∀ d' os', Calls Try.prog 25 #[.agg #[.int .i64 b.1, .int .i64 b.2.1, .int .i64 b.2.2], .agg #[.int .i64 a.1, .int .i64 a.2.1, .int .i64 a.2.2]] (grow (redrawn (grow (redrawn W dq) osq) d') os') fun e w'' => e = .returned (.bool (greaterB b a)) ∧ ∃ p : Regrown, w'' = grow (redrawn (grow (redrawn W dq) osq) p.d) p.os := re_of (greater_any b a) (grow (redrawn W dq) osq)
    rw [HX.out] at d1
    rw [HY.out] at d2
    obtain ⟨V, hV⟩ : ∃ V, V = grow (redrawn W dq) osq := ⟨_, rfl⟩
    rw [← hV] at HV r0 r1 r2 r3 r4 r5 d1 d2 ⊢
    clear hV q0 q1 q2 q3 q4 q5 q6 q7 q8 HBB
    refine wp_region_quiet_below (by kernel_rfl) (by kernel_rfl) ?_
    repeat (first | go_big_quiet_step (first | with_reducible exact d1 _ _ | with_reducible exact d2 _ _) | quiet_step (first | with_reducible exact d1 _ _ | with_reducible exact d2 _ _))
    refine wpQuiet_nil ?_
    intro _ hw'
    obtain ⟨⟨dq', osq'⟩, hw''⟩ := hw'
    subst hw''
    go_wp2
    go_ret
    exact ⟨rfl, below_re HV.out dq' osq'⟩

/-- SwimOrder. -/
theorem order_walk (a b c : PeerA) (w : World) : Calls Try.prog 6 #[peerV a, peerV b, peerV c] w fun e w' => e = .returned (.bool true) ∧ Below w.heap.size w w' := by
  refine order_core a b c w _ _ _ _ _ _ rfl rfl rfl rfl rfl rfl ?_
  by_cases h1 : a.1 = b.1
  · have n1 : (a.1 != b.1) = false := by simpa using h1
    by_cases h2 : a = b
    · refine .inr (.inl ⟨n1, decide_eq_true h2, ?_, ?_⟩)
      · rw [h2]; exact gr_self b
      · rw [h2]; exact gr_self b
    · have n2 : decide (a = b) = false := decide_eq_false h2
      have ht := gr_total h1 h2
      cases hx : greaterB a b
      · rw [hx] at ht
        exact .inr (.inr (.inr (.inr ⟨n1, n2, rfl, ht⟩)))
      · rw [hx] at ht
        cases hu : greaterB b c
        · exact .inr (.inr (.inl ⟨n1, n2, rfl, ht, rfl⟩))
        · exact .inr (.inr (.inr (.inl ⟨n1, n2, rfl, ht, rfl, gr_trans hx hu⟩)))
  · exact .inl ⟨by simpa using h1, gr_other h1, gr_other (fun e => h1 e.symm)⟩
end Go.Proofs.Ythipdadhhelieaa
