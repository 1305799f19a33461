/- CausalAsks, walked. -/
import Derived.Test.YtejgompacelhfaaCRefAsk
import Derived.Test.YtejgompacelhfaaCPrunedWalk
import Derived.Deep.RegionHeld3
namespace Go.Proofs.Ytejgompacelhfaa
open Go.RowKit Go.Sort Go.BigFrame
open Go.Lib (byteCells byteCells_length)

theorem ok_lit : OkC [(0, 1, 2)] [] := ⟨by simp, by simp, okM_iff.2 ⟨fun m hm => by simp at hm; rw [hm]; decide, List.pairwise_singleton _ _⟩, OkD.nil _⟩
theorem in_lit : InC [(0, 1, 2)] [] (0, 1, 2) := .inl ⟨by decide, by decide⟩
theorem rd_lit (w : World) : RdC (w.alloc (.cells #[.int .i64 0, .int .i64 1, .int .i64 2] 36)) (.agg #[.slice (some ⟨w.heap.size, 0, none⟩) 1 1, .slice none 0 0]) [(0, 1, 2)] [] := by
  refine ⟨_, _, rfl, ⟨_, 1, rfl, by simp, fun j d hd => ?_⟩, RdD.nil _⟩
  cases j with
  | zero =>
    simp at hd
    subst hd
    exact ⟨⟨w.heap.size, 0, none⟩, rfl, by simp, box_cell _ _ _ 0, box_cell _ _ _ 1, box_cell _ _ _ 2⟩
  | succ j => simp at hd

set_option maxRecDepth 100000 in
set_option maxHeartbeats 1600000 in
theorem asks_walk (v vd : Value) (ms ds : List DotA) (d : DotA) (a : ActA) (w : World) (hm : RdD w v ms) (hd : RdD w vd ds) (hlm : ms.length ≤ 1048576) (hld : ds.length ≤ 1048576) :
    Calls Try.prog 3 #[v, vd, dotV d, actV a] w fun e w' => e = .returned (.bool true) ∧ Below w.heap.size w w' := by
  obtain ⟨W, hW⟩ : ∃ W, Hid (W = (w.alloc (.cells #[.int .i64 d.1, .int .i64 d.2.1, .int .i64 d.2.2] 25)).alloc (.cells #[.int .i64 a.1, .int .i64 a.2] 27)) := ⟨_, Lib.hid rfl⟩
  have hb0 : Below w.heap.size w W := by rw [hW.out]; exact ((Below.refl _ _).alloc (Nat.le_refl _) _).alloc (by simp) _
  have hz : W.heap.size = w.heap.size + 2 := by rw [hW.out]; simp
  have hbx : BoxD W w.heap.size d := by
    rw [hW.out]
    exact (boxD w 25 d).below ((Below.refl _ _).alloc (Nat.le_refl _) _) (by simp)
  have hba : BoxC W (w.heap.size + 1) (.int .i64 a.1) (.int .i64 a.2) := by
    rw [hW.out]
    have : BoxC ((w.alloc (.cells #[.int .i64 d.1, .int .i64 d.2.1, .int .i64 d.2.2] 25)).alloc (.cells #[.int .i64 a.1, .int .i64 a.2] 27)) (w.alloc (.cells #[.int .i64 d.1, .int .i64 d.2.1, .int .i64 d.2.2] 25)).heap.size (.int .i64 a.1) (.int .i64 a.2) := ⟨box_cell _ _ _ 0, box_cell _ _ _ 1⟩
    simpa using this
  have HON := Lib.hid (one_ref v vd ms ds W (hm.below hb0) (hd.below hb0) hlm hld)
  have HB0 := Lib.hid hb0
  have HA := Lib.hid hba
  have HX := Lib.hid hbx
  have hlt0 : w.heap.size < W.heap.size := by omega
  have hlt1 : w.heap.size + 1 < W.heap.size := by omega
  have hsW : w.heap.size ≤ W.heap.size := by omega
  have hWe := hW.out.symm
  clear hb0 hba hbx hm hd hW hz
  go_enter Try.func3, Try.ntmps3
  go_upto_region 1 with fail
  clear hWe
  go_wp2_with fail
  (with_reducible refine HON.out.mono ?_); rintro e w1 ⟨ms1, ds1, hok, mv, dv, rfl, hom, hod, hb1⟩
  obtain ⟨A, c, rfl⟩ := ownD_slice hom
  obtain ⟨A1, c1, rfl⟩ := ownD_slice hod
  obtain ⟨n, hn⟩ : ∃ n, Hid (n = ms1.length) := ⟨_, Lib.hid rfl⟩
  obtain ⟨n1, hn1⟩ : ∃ n1, Hid (n1 = ds1.length) := ⟨_, Lib.hid rfl⟩
  rw [← hn.out] at hom ⊢
  rw [← hn1.out] at hod ⊢
  have HOK := Lib.hid hok
  obtain ⟨W2, hW2⟩ : ∃ W2, Hid (W2 = w1.alloc (.cells #[.slice A n c, .slice A1 n1 c1] 29)) := ⟨_, Lib.hid rfl⟩
  have hb2 : Below w1.heap.size w1 W2 := by rw [hW2.out]; exact (Below.refl _ _).alloc (Nat.le_refl _) _
  have hzW2 : w1.heap.size < W2.heap.size := by rw [hW2.out]; simp
  have HC2 : Hid (BoxC W2 w1.heap.size (.slice A n c) (.slice A1 n1 c1)) := Lib.hid (by rw [hW2.out]; exact ⟨box_cell _ _ _ 0, box_cell _ _ _ 1⟩)
  have HRC2 := Lib.hid ((hom.below hb2).rdC (hod.below hb2))
  have HB2 := Lib.hid (hb1.trans (hb2.mono hb1.size))
  have hzz := HB2.out.size
  obtain ⟨b, hb⟩ : ∃ b : Bool, (b = true ↔ InC ms1 ds1 d) := by
    by_cases h : InC ms1 ds1 d
    · exact ⟨true, by simp [h]⟩
    · exact ⟨false, by simp [h]⟩
  obtain ⟨t, ht⟩ : ∃ t, Hid (t = topOf ms1 ds1 a) := ⟨_, Lib.hid rfl⟩
  obtain ⟨z, hz⟩ : ∃ z, Hid (z = sumM ms1 ds1.length) := ⟨_, Lib.hid rfl⟩
  have cP : ∀ d' os', Calls Try.prog 10 #[.agg #[.slice A n c, .slice A1 n1 c1], .agg #[.int .i64 d.1, .int .i64 d.2.1, .int .i64 d.2.2]] (grow (redrawn W2 d') os') fun e w'' => e = .returned (.bool b) ∧ ∃ p : Regrown, w'' = grow (redrawn W2 p.d) p.os :=
    fun d' os' => tells_re hb (covers_any _ _ _ d _ (HRC2.out.below (below_regrown W2 d' os')) HOK.out)
  have cQ : ∀ d' os', Calls Try.prog 11 #[.agg #[.slice A n c, .slice A1 n1 c1], .agg #[.int .i64 d.1, .int .i64 d.2.1, .int .i64 d.2.2]] (grow (redrawn W2 d') os') fun e w'' => e = .returned (.bool b) ∧ ∃ p : Regrown, w'' = grow (redrawn W2 p.d) p.os :=
    fun d' os' => tells_re hb (covers_ref _ _ _ d _ (HRC2.out.below (below_regrown W2 d' os')) HOK.out)
  have cT : ∀ d' os', Calls Try.prog 12 #[.agg #[.slice A n c, .slice A1 n1 c1], .agg #[.int .i64 a.1, .int .i64 a.2]] (grow (redrawn W2 d') os') fun e w'' => e = .returned (.int .i64 t) ∧ ∃ p : Regrown, w'' = grow (redrawn W2 p.d) p.os :=
    fun d' os' => Calls.regrown_of ((top_any _ _ _ a _ (HRC2.out.below (below_regrown W2 d' os')) HOK.out).mono fun e w' ⟨he, hbl⟩ => ⟨by rw [he, ht.out], hbl⟩)
  have cU : ∀ d' os', Calls Try.prog 13 #[.agg #[.slice A n c, .slice A1 n1 c1], .agg #[.int .i64 a.1, .int .i64 a.2]] (grow (redrawn W2 d') os') fun e w'' => e = .returned (.int .i64 t) ∧ ∃ p : Regrown, w'' = grow (redrawn W2 p.d) p.os :=
    fun d' os' => Calls.regrown_of ((top_ref _ _ _ a _ (HRC2.out.below (below_regrown W2 d' os')) HOK.out).mono fun e w' ⟨he, hbl⟩ => ⟨by rw [he, ht.out], hbl⟩)
  have cS : ∀ d' os', Calls Try.prog 14 #[.agg #[.slice A n c, .slice A1 n1 c1]] (grow (redrawn W2 d') os') fun e w'' => e = .returned (.int .i64 z) ∧ ∃ p : Regrown, w'' = grow (redrawn W2 p.d) p.os :=
    fun d' os' => Calls.regrown_of ((size_any _ _ _ _ (HRC2.out.below (below_regrown W2 d' os')) HOK.out).mono fun e w' ⟨he, hbl⟩ => ⟨by rw [he, hz.out], hbl⟩)
  have cV : ∀ d' os', Calls Try.prog 15 #[.agg #[.slice A n c, .slice A1 n1 c1]] (grow (redrawn W2 d') os') fun e w'' => e = .returned (.int .i64 z) ∧ ∃ p : Regrown, w'' = grow (redrawn W2 p.d) p.os :=
    fun d' os' => Calls.regrown_of ((size_ref _ _ _ _ (HRC2.out.below (below_regrown W2 d' os')) HOK.out).mono fun e w' ⟨he, hbl⟩ => ⟨by rw [he, hz.out], hbl⟩)
  obtain ⟨i0, i1⟩ := HA.out.below HB2.out hlt1
  obtain ⟨x0, x1, x2⟩ := HX.out.below HB2.out hlt0
  have l0 := cell_regrown HC2.out.1
  have l1 := cell_regrown HC2.out.2
  have l2 := cell_regrown i0
  have l3 := cell_regrown i1
  have l4 := cell_regrown x0
  have l5 := cell_regrown x1
  have l6 := cell_regrown x2
  have HA2 := Lib.hid (show BoxC W2 (w.heap.size + 1) (.int .i64 a.1) (.int .i64 a.2) from ⟨i0, i1⟩)
  have HBB : ∀ dq osq, Hid (Below W2.heap.size W2 (grow (redrawn W2 dq) osq)) := fun dq osq => Lib.hid (below_regrown W2 dq osq)
  have hWe2 := hW2.out.symm
  clear hom hod hok hb1 hb2 HON hW2 hb i0 i1 x0 x1 x2
  go_upto_region 2 with fail
  clear hWe2
  have q1 : (b != b) = false := by simp
  have q2 : (t != t) = false := by simp
  have q3 : (z != z) = false := by simp
  refine wp_region_quiet_below (by kernel_rfl) (by kernel_rfl) ?_
  repeat (first | go_big_quiet_step (first | with_reducible exact cP _ _ | with_reducible exact cQ _ _ | with_reducible exact cT _ _ | with_reducible exact cU _ _ | with_reducible exact cS _ _ | with_reducible exact cV _ _) | quiet_step (first | with_reducible exact cP _ _ | with_reducible exact cQ _ _ | with_reducible exact cT _ _ | with_reducible exact cU _ _ | with_reducible exact cS _ _ | with_reducible exact cV _ _))
  refine wpQuiet_nil ?_
  intro _ hw'
  obtain ⟨⟨dq, osq⟩, hw''⟩ := hw'
  subst hw''
  have HX2 := HBB dq osq
  clear HBB
  obtain ⟨W3, hW3⟩ : ∃ W3, W3 = grow (redrawn W2 dq) osq := ⟨_, rfl⟩
  rw [← hW3] at HX2 ⊢
  have hs3 := HX2.out.size
  have hg9 : w1.heap.size < W3.drew.heap.size := by show _ < W3.heap.size; omega
  have hga : w.heap.size + 1 < W3.drew.heap.size := by show _ < W3.heap.size; omega
  have k0 : BoxC W3.drew w1.heap.size (.slice A n c) (.slice A1 n1 c1) ∧ BoxC W3.drew (w.heap.size + 1) (.int .i64 a.1) (.int .i64 a.2) := ⟨show BoxC W3 _ _ _ from HC2.out.below HX2.out hzW2, show BoxC W3 _ _ _ from HA2.out.below HX2.out (by omega)⟩
  have HR0 : Hid (RdC W3.drew (.agg #[.slice A n c, .slice A1 n1 c1]) ms1 ds1) := Lib.hid (show RdC W3 (.agg #[.slice A n c, .slice A1 n1 c1]) ms1 ds1 from HRC2.out.below HX2.out)
  have HPA : ∀ w', RdC w' (.agg #[.slice A n c, .slice A1 n1 c1]) ms1 ds1 → Hid (Calls Try.prog 17 #[.agg #[.slice A n c, .slice A1 n1 c1], .agg #[.int .i64 a.1, .int .i64 a.2]] w' (MadeC (prn a ms1) (prn a ds1) w')) := fun w' h => Lib.hid (prune_any _ ms1 ds1 a w' h HOK.out)
  have HPB : ∀ w', RdC w' (.agg #[.slice A n c, .slice A1 n1 c1]) ms1 ds1 → Hid (Calls Try.prog 18 #[.agg #[.slice A n c, .slice A1 n1 c1], .agg #[.int .i64 a.1, .int .i64 a.2]] w' (MadeC (prn a ms1) (prn a ds1) w')) := fun w' h => Lib.hid (prune_ref _ ms1 ds1 a w' h HOK.out)
  have HCV : ∀ w7 : World, Hid (Calls Try.prog 10 #[.agg #[.slice (some ⟨w7.heap.size, 0, none⟩) 1 1, .slice none 0 0], .agg #[.int .i64 0, .int .i64 1, .int .i64 2]] (w7.alloc (.cells #[.int .i64 0, .int .i64 1, .int .i64 2] 36)) (Tells (InC [(0, 1, 2)] [] (0, 1, 2)) (w7.alloc (.cells #[.int .i64 0, .int .i64 1, .int .i64 2] 36)))) := fun w7 => Lib.hid (covers_any _ _ _ (0, 1, 2) _ (rd_lit w7) ok_lit)
  have hlp : (prn a ms1).length ≤ 1099511627776 := by have := prn_len a ms1; have := HOK.out.1; omega
  have hlq : (prn a ds1).length ≤ 1099511627776 := by have := prn_len a ds1; have := HOK.out.2.1; omega
  clear hW3 l0 l1 l2 l3 l4 l5 l6 cP cQ cT cU cS cV q1 q2 q3
  go_upto_region 4 with fail
  go_region_held3 (fun w' => (w'.cell? ⟨w1.heap.size, 0, none⟩ = some (.slice A n c) ∧ w'.cell? ⟨w1.heap.size, 1, none⟩ = some (.slice A1 n1 c1)) ∧ (w'.cell? ⟨w.heap.size + 1, 0, none⟩ = some (.int .i64 a.1) ∧ w'.cell? ⟨w.heap.size + 1, 1, none⟩ = some (.int .i64 a.2)))
    (first | exact k0 | exact k5 | exact k6 | exact k7 | exact k8 | go_keep)
    (first
      | (go_at_call 17
         (with_reducible refine (HPA _ HR0.out).out.mono ?_); rintro e w5 ⟨mv5, dv5, rfl, hm5, hd5, hb5⟩
         have k5 : BoxC w5 w1.heap.size (.slice A n c) (.slice A1 n1 c1) ∧ BoxC w5 (w.heap.size + 1) (.int .i64 a.1) (.int .i64 a.2) := ⟨k0.1.below hb5 hg9, k0.2.below hb5 hga⟩)
      | (go_at_call 18
         (with_reducible refine (HPB _ (HR0.out.below hb5)).out.mono ?_); rintro e w6 ⟨mv6, dv6, rfl, hm6, hd6, hb6⟩
         have k6 : BoxC w6 w1.heap.size (.slice A n c) (.slice A1 n1 c1) ∧ BoxC w6 (w.heap.size + 1) (.int .i64 a.1) (.int .i64 a.2) := ⟨k5.1.below hb6 (Nat.lt_of_lt_of_le hg9 hb5.size), k5.2.below hb6 (Nat.lt_of_lt_of_le hga hb5.size)⟩)
      | (go_at_call 16
         (with_reducible refine (same_any _ _ _ _ _ _ _ ((hm5.rdC hd5).below hb6) (hm6.rdC hd6) hlp hlq).mono ?_); rintro e w7 ⟨b7, rfl, hbi, hb7⟩
         obtain rfl : b7 = true := hbi.2 ⟨rfl, rfl⟩
         clear hbi
         have k7 : BoxC w7 w1.heap.size (.slice A n c) (.slice A1 n1 c1) ∧ BoxC w7 (w.heap.size + 1) (.int .i64 a.1) (.int .i64 a.2) := ⟨k6.1.below hb7 (Nat.lt_of_lt_of_le hg9 (Nat.le_trans hb5.size hb6.size)), k6.2.below hb7 (Nat.lt_of_lt_of_le hga (Nat.le_trans hb5.size hb6.size))⟩)
      | (go_at_call 10
         (with_reducible refine (HCV _).out.mono ?_); rintro e w8 ⟨b8, rfl, hbi8, hb8⟩
         obtain rfl : b8 = true := hbi8.2 in_lit
         clear hbi8
         have hz8 := ((Below.refl w7.heap.size w7).alloc (Nat.le_refl _) _).trans (hb8.mono (by simp))
         have k8 : BoxC w8 w1.heap.size (.slice A n c) (.slice A1 n1 c1) ∧ BoxC w8 (w.heap.size + 1) (.int .i64 a.1) (.int .i64 a.2) := ⟨k7.1.below hz8 (Nat.lt_of_lt_of_le hg9 (Nat.le_trans hb5.size (Nat.le_trans hb6.size hb7.size))), k7.2.below hz8 (Nat.lt_of_lt_of_le hga (Nat.le_trans hb5.size (Nat.le_trans hb6.size hb7.size)))⟩))
  have z1 : Below w.heap.size w W3 := HB0.out.trans ((HB2.out.mono hsW).trans (HX2.out.mono (Nat.le_trans hsW hzz)))
  have z2 := z1.drew.trans (hb5.mono z1.drew.size)
  have z3 := z2.trans (hb6.mono z2.size)
  have z4 := z3.trans (hb7.mono z3.size)
  have HZ := Lib.hid (z4.trans (hz8.mono z4.size))
  clear z1 z2 z3 z4 hz8 hb5 hb6 hb7 hb8 k0 k5 k6 k7 k8
  go_wp2
  go_ret
  exact ⟨rfl, HZ.out⟩
end Go.Proofs.Ytejgompacelhfaa
