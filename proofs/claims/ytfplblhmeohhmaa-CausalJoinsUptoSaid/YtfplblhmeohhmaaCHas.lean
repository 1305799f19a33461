/- Is a dot in a context? -/
import Derived.Test.YtfplblhmeohhmaaCCan
import Derived.Laws.StructEq
namespace Go.Proofs.Ytfplblhmeohhmaa
open Go.RowKit Go.Sort Go.BigFrame
open Go.Lib (byteCells byteCells_length)

/-- An index, or -1. -/
def IndexPost (ds : List DotA) (d : DotA) (w : World) (e : Ending) (w' : World) : Prop := ∃ i : Int, e = .returned (.int .i64 i) ∧ (0 ≤ i ↔ d ∈ ds) ∧ Below w.heap.size w w'

theorem dot_eq (a b : DotA) (w : World) : (binOp .eql 44 (dotV a) (dotV b)).run Try.prog w = .ok (.bool (decide (a = b))) w := by
  have u3 := Try.underlying3
  have a3 := Try.isAgg3
  have z3 := Try.sizeOf3
  have hS : Try.prog.underlying 44 = some (.struct (Try.prog.fieldsOf 44)) := by kernel_rfl
  have hp : Try.prog.stoodInHeld 44 = false := by kernel_rfl
  obtain ⟨a1, a2, a4⟩ := a
  obtain ⟨b1, b2, b4⟩ := b
  rw [run_eql_struct, show (10000 : Nat) = 9999 + 1 from rfl, run_equalIn_agg w 9999 44 _ _ hS hp]
  simp only [Program.fieldsOf, Try.underlying44]
  go_simp
  by_cases h1 : a1 = b1 <;> by_cases h2 : a2 = b2 <;> by_cases h3 : a4 = b4 <;> simp [h1, h2, h3]

set_option maxRecDepth 100000 in
set_option maxHeartbeats 3200000 in
theorem index_any (v : Value) (ds : List DotA) (d : DotA) (w : World) (h : RdD w v ds) (hl : ds.length ≤ 1099511627776) : Calls Try.prog 142 #[v, dotV d] w (IndexPost ds d w) := by
  obtain ⟨W0, hW0⟩ : ∃ W0, Hid (W0 = w.alloc (.cells #[.int .i64 d.1, .int .i64 d.2.1, .int .i64 d.2.2] 44)) := ⟨_, Lib.hid rfl⟩
  have hb0 : Below w.heap.size w W0 := by rw [hW0.out]; exact (Below.refl _ _).alloc (Nat.le_refl _) _
  have hbx : BoxD W0 w.heap.size d := by rw [hW0.out]; exact boxD w 44 d
  have hd0 := h.below hb0
  have hlt0 : w.heap.size < W0.heap.size := by rw [hW0.out]; simp
  have HB0 := Lib.hid hb0
  have HBX := Lib.hid hbx
  obtain ⟨A, c, rfl, hc, hx⟩ := hd0
  obtain ⟨n, hn⟩ : ∃ n, Hid (n = ds.length) := ⟨_, Lib.hid rfl⟩
  rw [← hn.out] at hl hc ⊢
  have HX := Lib.hid hx
  have hWe := hW0.out.symm
  clear hx hb0 hbx h
  go_enter Try.func142, Try.ntmps142
  go_wp2
  clear hWe
  go_loopw [8] (fun i wr => ∃ k : Nat, k ≤ n ∧ i = .int .i64 k ∧ Hid (∀ (j : Nat) (x : DotA), j < k → ds[j]? = some x → d ≠ x) ∧ Below W0.heap.size W0 wr) (fun i _ => n - (intOf i).toNat)
  case atStart => exact ⟨0, Nat.zero_le _, rfl, Lib.hid (fun j x hj => absurd hj (Nat.not_lt_zero _)), Below.refl _ _⟩
  case round =>
    obtain ⟨k, hk, rfl, HO, hb⟩ := hrel
    have HB := Lib.hid hb
    have hxr := HX.out.below hb (Nat.le_refl _)
    have hbs := hb.size
    by_cases hlt : k < n
    · obtain ⟨x, hd⟩ : ∃ x, ds[k]? = some x := ⟨ds[k]'(by have := hn.out; omega), List.getElem?_eq_getElem _⟩
      obtain ⟨ad, rfl, hadlt, hda⟩ := hxr k x hd
      have hbr := HBX.out.below hb hlt0
      have p0 := cell_regrown hda.1
      have p1 := cell_regrown hda.2.1
      have p2 := cell_regrown hda.2.2
      have j0 := cell_regrown hbr.1
      have j1 := cell_regrown hbr.2.1
      have j2 := cell_regrown hbr.2.2
      have HD := Lib.hid hd
      have HBB : ∀ dq osq, Hid (Below W0.heap.size W0 (grow (redrawn wr dq) osq)) := fun dq osq => Lib.hid (below_re hb dq osq)
      have hEq := dot_eq d x
      clear hd hda hb hxr hbr
      by_cases heq : d = x
      · have HE := Lib.hid heq
        have e1 : decide (d = x) = true := by simpa using heq
        rw [e1] at hEq
        clear heq e1
        go_upto_region 4 with fail
        refine wp_region_quiet_below (by kernel_rfl) (by kernel_rfl) ?_
        repeat (first | go_big_quiet_step (fail) | quiet_step (fail))
        refine wpQuiet_nil ?_
        intro _ hw'
        obtain ⟨⟨dq, osq⟩, hw''⟩ := hw'
        subst hw''
        have HX2 := HBB dq osq
        clear HBB
        go_wp2
        go_ret
        exact ⟨(k : Int), rfl, ⟨fun _ => by rw [HE.out]; exact List.mem_of_getElem? HD.out, fun _ => by omega⟩, HB0.out.trans (HX2.out.mono HB0.out.size)⟩
      · have e1 : decide (d = x) = false := by simpa using heq
        rw [e1] at hEq
        have HN : Hid (∀ (j : Nat) (y : DotA), j < k + 1 → ds[j]? = some y → d ≠ y) := Lib.hid (fun j y hj hy => by
          by_cases hjk : j = k
          · subst hjk; rw [HD.out] at hy; injection hy with hy; rw [← hy]; exact heq
          · exact HO.out j y (by omega) hy)
        clear heq e1
        go_upto_region 4 with fail
        refine wp_region_quiet_below (by kernel_rfl) (by kernel_rfl) ?_
        repeat (first | go_big_quiet_step (fail) | quiet_step (fail))
        refine wpQuiet_nil ?_
        intro _ hw'
        obtain ⟨⟨dq, osq⟩, hw''⟩ := hw'
        subst hw''
        have HX2 := HBB dq osq
        clear HBB
        go_wp2
        go_roundw
        case rel => exact ⟨k + 1, by omega, by go_num, HN, HX2.out⟩
        case measure => simp [intOf]; omega
    · obtain rfl : k = n := by omega
      clear hxr
      go_wp2
      go_ret
      refine ⟨-1, rfl, ⟨fun h => by omega, fun h => ?_⟩, HB0.out.trans (HB.out.mono HB0.out.size)⟩
      obtain ⟨j, hj⟩ := List.getElem?_of_mem h
      exact absurd rfl (HO.out j d (by have := (List.getElem?_eq_some_iff.1 hj).1; have := hn.out; omega) hj)

set_option maxRecDepth 100000 in
set_option maxHeartbeats 800000 in
theorem contains_any (v : Value) (ds : List DotA) (d : DotA) (w : World) (h : RdD w v ds) (hl : ds.length ≤ 1099511627776) : Calls Try.prog 112 #[v, dotV d] w (Tells (d ∈ ds) w) := by
  obtain ⟨W0, hW0⟩ : ∃ W0, Hid (W0 = w.alloc (.cells #[.int .i64 d.1, .int .i64 d.2.1, .int .i64 d.2.2] 44)) := ⟨_, Lib.hid rfl⟩
  have hb0 : Below w.heap.size w W0 := by rw [hW0.out]; exact (Below.refl _ _).alloc (Nat.le_refl _) _
  have hbx : BoxD W0 w.heap.size d := by rw [hW0.out]; exact boxD w 44 d
  have HI := Lib.hid (index_any v ds d W0 (h.below hb0) hl)
  obtain ⟨c0, c1, c2⟩ := hbx
  have HB0 := Lib.hid hb0
  have hWe := hW0.out.symm
  clear hb0 h
  go_enter Try.func112, Try.ntmps112
  go_wp2_with fail
  (with_reducible refine HI.out.mono ?_); rintro e w1 ⟨i, rfl, hi, hb1⟩
  have HX := Lib.hid (HB0.out.trans (hb1.mono HB0.out.size))
  have HII := Lib.hid hi
  clear hb1 hi hWe
  by_cases hn : 0 ≤ i
  · have d1 : decide (0 ≤ i) = true := by simpa using hn
    clear hn
    go_wp2
    go_ret
    exact ⟨true, rfl, by simp only [true_iff]; exact HII.out.1 (by simpa using d1), HX.out⟩
  · have d1 : decide (0 ≤ i) = false := by simpa using hn
    have HN := Lib.hid hn
    clear hn
    go_wp2
    go_ret
    exact ⟨false, rfl, by simp only [Bool.false_eq_true, false_iff]; exact fun h => by have h1 := HII.out.2 h; have h2 := HN.out; omega, HX.out⟩

/-- The dot is in the context. -/
def InC (ms ds : List DotA) (d : DotA) : Prop := (1 ≤ d.2.2 ∧ d.2.2 ≤ markOf ms (actOf d)) ∨ d ∈ ds

set_option maxRecDepth 100000 in
set_option maxHeartbeats 3200000 in
theorem has_any (v : Value) (ms ds : List DotA) (d : DotA) (w : World) (h : RdC w v ms ds) (hok : OkC ms ds) : Calls Try.prog 65 #[v, dotV d] w (Tells (InC ms ds d) w) := by
  obtain ⟨mv, dv, rfl, hm, hd⟩ := h
  obtain ⟨W, hW⟩ : ∃ W, Hid (W = (w.alloc (.cells #[mv, dv] 48)).alloc (.cells #[.int .i64 d.1, .int .i64 d.2.1, .int .i64 d.2.2] 44)) := ⟨_, Lib.hid rfl⟩
  have hb0 : Below w.heap.size w W := by rw [hW.out]; exact ((Below.refl _ _).alloc (Nat.le_refl _) _).alloc (by simp) _
  have hbc : BoxC W w.heap.size mv dv := by
    rw [hW.out]
    exact (show BoxC (w.alloc (.cells #[mv, dv] 48)) w.heap.size mv dv from ⟨box_cell _ _ _ 0, box_cell _ _ _ 1⟩).below ((Below.refl _ _).alloc (Nat.le_refl _) _) (by simp)
  have hbx : BoxD W (w.heap.size + 1) d := by
    rw [hW.out]
    have := boxD (w.alloc (.cells #[mv, dv] 48)) 44 d
    simpa using this
  have hm0 := hm.below hb0
  have hd0 := hd.below hb0
  have HM := Lib.hid hm0
  have HD := Lib.hid hd0
  have HOK := Lib.hid hok
  obtain ⟨A, c, rfl, hc, _⟩ := hd
  obtain ⟨A1, c1, rfl, hc1, _⟩ := hm
  have cO := re_of (ofDot_any d) W
  have cU : ∀ d' os', Calls Try.prog 67 #[.slice A1 ms.length c1, actV (actOf d)] (grow (redrawn W d') os') fun e w'' => e = .returned (.int .i64 (markOf ms (actOf d))) ∧ ∃ p : Regrown, w'' = grow (redrawn W p.d) p.os :=
    fun d' os' => Calls.regrown_of (upTo_any _ ms (actOf d) _ (HM.out.below (below_regrown W d' os')) (by have := HOK.out.1; omega) HOK.out.2.2.1)
  have hcon : ∃ b : Bool, (b = true ↔ d ∈ ds) := ⟨decide (d ∈ ds), by simp⟩
  obtain ⟨b, hb⟩ := hcon
  have cC : ∀ d' os', Calls Try.prog 112 #[.slice A ds.length c, dotV d] (grow (redrawn W d') os') fun e w'' => e = .returned (.bool b) ∧ ∃ p : Regrown, w'' = grow (redrawn W p.d) p.os :=
    fun d' os' => Calls.regrown_of ((contains_any _ ds d _ (HD.out.below (below_regrown W d' os')) (by have := HOK.out.2.1; omega)).mono fun e w' ⟨b', he, hi, hbl⟩ => ⟨by
      rw [he]
      have : b' = b := by rw [Bool.eq_iff_iff, hi, hb]
      rw [this], hbl⟩)
  obtain ⟨u, hu⟩ : ∃ u, Hid (u = markOf ms (actOf d)) := ⟨_, Lib.hid rfl⟩
  rw [← hu.out] at cU
  obtain ⟨n, hn⟩ : ∃ n, Hid (n = ds.length) := ⟨_, Lib.hid rfl⟩
  obtain ⟨n1, hn1⟩ : ∃ n1, Hid (n1 = ms.length) := ⟨_, Lib.hid rfl⟩
  rw [← hn.out] at cC hbc
  rw [← hn1.out] at cU hbc
  have hWe := hW.out.symm
  rw [← hn.out, ← hn1.out] at hWe ⊢
  have l0 := cell_regrown hbc.1
  have l1 := cell_regrown hbc.2
  have j0 := cell_regrown hbx.1
  have j1 := cell_regrown hbx.2.1
  have j2 := cell_regrown hbx.2.2
  have HBB : ∀ dq osq, Hid (Below w.heap.size w (grow (redrawn W dq) osq)) := fun dq osq => Lib.hid (below_re hb0 dq osq)
  have HBI := Lib.hid hb
  clear hb0 hbc hbx hm0 hd0 hok hb hW
  by_cases h1 : 1 ≤ d.2.2
  · have d1 : decide (1 ≤ d.2.2) = true := by simpa using h1
    by_cases h2 : d.2.2 ≤ u
    · have d2 : decide (d.2.2 ≤ u) = true := by simpa using h2
      have HP : Hid (InC ms ds d) := Lib.hid (.inl ⟨h1, by rw [← hu.out]; exact h2⟩)
      clear h1 h2
      go_enter Try.func65, Try.ntmps65
      go_upto_region 1 with fail
      clear hWe
      refine wp_region_quiet_below (by kernel_rfl) (by kernel_rfl) ?_
      repeat (first | go_big_quiet_step (first | exact cO _ _ | exact cU _ _ | exact cC _ _) | quiet_step (first | exact cO _ _ | exact cU _ _ | exact cC _ _))
      refine wpQuiet_nil ?_
      intro _ hw'
      obtain ⟨⟨dq, osq⟩, hw''⟩ := hw'
      subst hw''
      have HX2 := HBB dq osq
      clear HBB
      go_wp2
      go_ret
      exact ⟨true, rfl, by simp [HP.out], HX2.out⟩
    · have d2 : decide (d.2.2 ≤ u) = false := by simpa using h2
      have HP : Hid (b = true ↔ InC ms ds d) := Lib.hid ⟨fun h => .inr (HBI.out.1 h), fun h => HBI.out.2 (h.resolve_left fun h3 => h2 (by rw [hu.out]; exact h3.2))⟩
      clear h1 h2
      go_enter Try.func65, Try.ntmps65
      go_upto_region 1 with fail
      clear hWe
      refine wp_region_quiet_below (by kernel_rfl) (by kernel_rfl) ?_
      repeat (first | go_big_quiet_step (first | exact cO _ _ | exact cU _ _ | exact cC _ _) | quiet_step (first | exact cO _ _ | exact cU _ _ | exact cC _ _))
      refine wpQuiet_nil ?_
      intro _ hw'
      obtain ⟨⟨dq, osq⟩, hw''⟩ := hw'
      subst hw''
      have HX2 := HBB dq osq
      clear HBB
      go_wp2
      go_ret
      exact ⟨b, rfl, HP.out, HX2.out⟩
  · have d1 : decide (1 ≤ d.2.2) = false := by simpa using h1
    have HP : Hid (b = true ↔ InC ms ds d) := Lib.hid ⟨fun h => .inr (HBI.out.1 h), fun h => HBI.out.2 (h.resolve_left fun h3 => h1 h3.1)⟩
    clear h1
    go_enter Try.func65, Try.ntmps65
    go_upto_region 1 with fail
    clear hWe
    refine wp_region_quiet_below (by kernel_rfl) (by kernel_rfl) ?_
    repeat (first | go_big_quiet_step (first | exact cO _ _ | exact cU _ _ | exact cC _ _) | quiet_step (first | exact cO _ _ | exact cU _ _ | exact cC _ _))
    refine wpQuiet_nil ?_
    intro _ hw'
    obtain ⟨⟨dq, osq⟩, hw''⟩ := hw'
    subst hw''
    have HX2 := HBB dq osq
    clear HBB
    go_wp2
    go_ret
    exact ⟨b, rfl, HP.out, HX2.out⟩
end Go.Proofs.Ytfplblhmeohhmaa
