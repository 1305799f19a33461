/- What is asked, by the document: Covers, Top, Size; the program's Size. -/
import Derived.Test.YtfplblhmeohhmaaCSame
namespace Go.Proofs.Ytfplblhmeohhmaa
open Go.RowKit Go.Sort Go.BigFrame
open Go.Lib (byteCells byteCells_length)

set_option maxRecDepth 100000 in
set_option maxHeartbeats 6400000 in
theorem covers_ref (v : Value) (ms ds : List DotA) (d : DotA) (w : World) (h : RdC w v ms ds) (hok : OkC ms ds) : Calls Try.prog 20 #[v, dotV d] w (Tells (InC ms ds d) w) := by
  obtain ⟨mv, dv, rfl, hm, hd⟩ := h
  obtain ⟨W, hW⟩ : ∃ W, Hid (W = (w.alloc (.cells #[mv, dv] 48)).alloc (.cells #[.int .i64 d.1, .int .i64 d.2.1, .int .i64 d.2.2] 44)) := ⟨_, Lib.hid rfl⟩
  have hb0 : Below w.heap.size w W := by rw [hW.out]; exact ((Below.refl _ _).alloc (Nat.le_refl _) _).alloc (by simp) _
  have hz : W.heap.size = w.heap.size + 2 := by rw [hW.out]; simp
  have hbc : BoxC W w.heap.size mv dv := by
    rw [hW.out]
    exact (show BoxC (w.alloc (.cells #[mv, dv] 48)) w.heap.size mv dv from ⟨box_cell _ _ _ 0, box_cell _ _ _ 1⟩).below ((Below.refl _ _).alloc (Nat.le_refl _) _) (by simp)
  have hbx : BoxD W (w.heap.size + 1) d := by
    rw [hW.out]
    have := boxD (w.alloc (.cells #[mv, dv] 48)) 44 d
    simpa using this
  have HM := Lib.hid (hm.below hb0)
  obtain ⟨A, c, rfl, hc, hx⟩ := hd
  obtain ⟨A1, c1, rfl, hc1, _⟩ := hm
  have HX := Lib.hid (hx.below hb0 (Nat.le_refl _))
  have HOK := Lib.hid hok
  obtain ⟨n, hn⟩ : ∃ n, Hid (n = ds.length) := ⟨_, Lib.hid rfl⟩
  obtain ⟨n1, hn1⟩ : ∃ n1, Hid (n1 = ms.length) := ⟨_, Lib.hid rfl⟩
  have hn64 : n ≤ 64 := by rw [hn.out]; exact hok.2.1
  have hWe := hW.out.symm
  rw [← hn.out] at hbc hWe hc ⊢
  rw [← hn1.out] at hbc hWe HM hc1 ⊢
  have HC := Lib.hid hbc
  have HJ := Lib.hid hbx
  have HB0 := Lib.hid hb0
  have hlt0 : w.heap.size < W.heap.size := by omega
  have hlt1 : w.heap.size + 1 < W.heap.size := by omega
  have hsW : w.heap.size ≤ W.heap.size := by omega
  obtain ⟨u, hu⟩ : ∃ u, Hid (u = markOf ms (actOf d)) := ⟨_, Lib.hid rfl⟩
  have cM : ∀ d' os', Calls Try.prog 66 #[.slice A1 n1 c1, .int .i64 d.1, .int .i64 d.2.1] (grow (redrawn W d') os') fun e w'' => e = .returned (.int .i64 u) ∧ ∃ p : Regrown, w'' = grow (redrawn W p.d) p.os :=
    fun d' os' => by
      have := mark_ref _ ms (actOf d) _ (HM.out.below (below_regrown W d' os')) (by have := HOK.out.1; omega)
      rw [← hu.out] at this
      exact Calls.regrown_of this
  have l0 := cell_regrown hbc.1
  have l1 := cell_regrown hbc.2
  have j0 := cell_regrown hbx.1
  have j1 := cell_regrown hbx.2.1
  have j2 := cell_regrown hbx.2.2
  have HBB : ∀ dq osq, Hid (Below W.heap.size W (grow (redrawn W dq) osq)) := fun dq osq => Lib.hid (below_regrown W dq osq)
  clear hb0 hbc hbx hok hW hx hz
  by_cases h12 : 1 ≤ d.2.2 ∧ d.2.2 ≤ u
  · have HP : Hid (InC ms ds d) := Lib.hid (.inl ⟨h12.1, by rw [← hu.out]; exact h12.2⟩)
    have d1 : decide (1 ≤ d.2.2) = true := by simpa using h12.1
    have d2 : decide (d.2.2 ≤ u) = true := by simpa using h12.2
    clear h12
    go_enter Try.func20, Try.ntmps20
    go_upto_region 1 with fail
    clear hWe
    refine wp_region_quiet_below (by kernel_rfl) (by kernel_rfl) ?_
    repeat (first | go_big_quiet_step (first | exact cM _ _) | quiet_step (first | exact cM _ _))
    refine wpQuiet_nil ?_
    intro _ hw'
    obtain ⟨⟨dq, osq⟩, hw''⟩ := hw'
    subst hw''
    have HX2 := HBB dq osq
    clear HBB
    go_wp2
    go_ret
    exact ⟨true, rfl, by simp [HP.out], HB0.out.trans (HX2.out.mono hsW)⟩
  have HP : Hid (¬ (1 ≤ d.2.2 ∧ d.2.2 ≤ markOf ms (actOf d))) := Lib.hid (by rw [← hu.out]; exact h12)
  have dd : decide (1 ≤ d.2.2) = true ∧ decide (d.2.2 ≤ u) = false ∨ decide (1 ≤ d.2.2) = false := by
    by_cases h1 : 1 ≤ d.2.2
    · exact .inl ⟨by simpa using h1, by simp; omega⟩
    · exact .inr (by simp; omega)
  clear h12
  rcases dd with ⟨d1, d2⟩ | d1
  · go_enter Try.func20, Try.ntmps20
    go_upto_region 1 with fail
    clear hWe
    refine wp_region_quiet_below (by kernel_rfl) (by kernel_rfl) ?_
    repeat (first | go_big_quiet_step (first | exact cM _ _) | quiet_step (first | exact cM _ _))
    refine wpQuiet_nil ?_
    intro _ hw'
    obtain ⟨⟨dq, osq⟩, hw''⟩ := hw'
    subst hw''
    have HX2 := HBB dq osq
    clear HBB
    obtain ⟨W3, hW3⟩ : ∃ W3, W3 = grow (redrawn W dq) osq := ⟨_, rfl⟩
    rw [← hW3] at HX2 ⊢
    clear hW3 l0 l1 j0 j1 j2 cM
    obtain ⟨k0, k1⟩ := HC.out.below HX2.out hlt0
    go_wp2
    go_loopw [25] (fun i wr => ∃ k : Nat, k ≤ n ∧ i = .int .i64 k ∧ Hid (∀ x ∈ ds.take k, x ≠ d) ∧ Below W.heap.size W wr) (fun i _ => n - (intOf i).toNat)
    case atStart => exact ⟨0, Nat.zero_le _, rfl, Lib.hid (by intro m hm; simp at hm), HX2.out⟩
    case round =>
      obtain ⟨k, hk, rfl, HO, hb⟩ := hrel
      have HB := Lib.hid hb
      have hbs := hb.size
      have hxr := HX.out.below hb hsW
      by_cases hlt : k < n
      · obtain ⟨x, hdk⟩ : ∃ x, ds[k]? = some x := ⟨ds[k]'(by have := hn.out; omega), List.getElem?_eq_getElem _⟩
        obtain ⟨ad, rfl, hadlt, hda⟩ := hxr k x hdk
        obtain ⟨p0, p1, p2⟩ := hda
        have HDK := Lib.hid hdk
        obtain ⟨W1, hW1⟩ : ∃ W1, Hid (W1 = wr.alloc (.cells #[.int .i64 x.1, .int .i64 x.2.1, .int .i64 x.2.2] 44)) := ⟨_, Lib.hid rfl⟩
        have hbA : Below wr.heap.size wr W1 := by rw [hW1.out]; exact (Below.refl _ _).alloc (Nat.le_refl _) _
        have g0 : W1.cell? ⟨wr.heap.size, 0, none⟩ = some (.int .i64 x.1) := by rw [hW1.out]; exact box_cell _ _ _ 0
        have g1 : W1.cell? ⟨wr.heap.size, 1, none⟩ = some (.int .i64 x.2.1) := by rw [hW1.out]; exact box_cell _ _ _ 1
        have g2 : W1.cell? ⟨wr.heap.size, 2, none⟩ = some (.int .i64 x.2.2) := by rw [hW1.out]; exact box_cell _ _ _ 2
        have hb1 := hb.trans (hbA.mono hbs)
        have HB1 := Lib.hid hb1
        obtain ⟨j0, j1, j2⟩ := HJ.out.below hb1 hlt1
        have hEq := dot_eq x d
        have hWe1 := hW1.out.symm
        clear hdk hxr hb hbA hb1
        by_cases heq : x = d
        · have HN : Hid (InC ms ds d) := Lib.hid (.inr (by rw [← heq]; exact List.mem_of_getElem? HDK.out))
          rw [show decide (x = d) = true by simpa using heq] at hEq
          clear heq
          go_upto_region 6 with fail
          clear hWe1
          go_wp2
          go_ret
          exact ⟨true, rfl, by simp [HN.out], HB0.out.trans (HB1.out.mono hsW)⟩
        · have HN : Hid (∀ x ∈ ds.take (k + 1), x ≠ d) := Lib.hid (fun m hm => by
            rw [take_at HDK.out] at hm
            rcases List.mem_append.1 hm with hm | hm
            · exact HO.out m hm
            · simp at hm; rw [hm]; exact heq)
          rw [show decide (x = d) = false by simpa using heq] at hEq
          clear heq
          go_upto_region 6 with fail
          clear hWe1
          go_wp2
          go_roundw
          case rel => exact ⟨k + 1, by omega, by go_num, HN, HB1.out⟩
          case measure => simp [intOf]; omega
      · have hkn : k = n := by omega
        have HN : Hid (¬ InC ms ds d) := Lib.hid (fun h => by
          rcases h with h | h
          · exact HP.out h
          · exact HO.out d (by rw [hkn, hn.out, List.take_length]; exact h) rfl)
        clear hxr hb hkn
        go_wp2
        go_ret
        exact ⟨false, rfl, by simp [HN.out], HB0.out.trans (HB.out.mono hsW)⟩
  · go_enter Try.func20, Try.ntmps20
    go_upto_region 1 with fail
    clear hWe
    refine wp_region_quiet_below (by kernel_rfl) (by kernel_rfl) ?_
    repeat (first | go_big_quiet_step (first | exact cM _ _) | quiet_step (first | exact cM _ _))
    refine wpQuiet_nil ?_
    intro _ hw'
    obtain ⟨⟨dq, osq⟩, hw''⟩ := hw'
    subst hw''
    have HX2 := HBB dq osq
    clear HBB
    obtain ⟨W3, hW3⟩ : ∃ W3, W3 = grow (redrawn W dq) osq := ⟨_, rfl⟩
    rw [← hW3] at HX2 ⊢
    clear hW3 l0 l1 j0 j1 j2 cM
    obtain ⟨k0, k1⟩ := HC.out.below HX2.out hlt0
    go_wp2
    go_loopw [25] (fun i wr => ∃ k : Nat, k ≤ n ∧ i = .int .i64 k ∧ Hid (∀ x ∈ ds.take k, x ≠ d) ∧ Below W.heap.size W wr) (fun i _ => n - (intOf i).toNat)
    case atStart => exact ⟨0, Nat.zero_le _, rfl, Lib.hid (by intro m hm; simp at hm), HX2.out⟩
    case round =>
      obtain ⟨k, hk, rfl, HO, hb⟩ := hrel
      have HB := Lib.hid hb
      have hbs := hb.size
      have hxr := HX.out.below hb hsW
      by_cases hlt : k < n
      · obtain ⟨x, hdk⟩ : ∃ x, ds[k]? = some x := ⟨ds[k]'(by have := hn.out; omega), List.getElem?_eq_getElem _⟩
        obtain ⟨ad, rfl, hadlt, hda⟩ := hxr k x hdk
        obtain ⟨p0, p1, p2⟩ := hda
        have HDK := Lib.hid hdk
        obtain ⟨W1, hW1⟩ : ∃ W1, Hid (W1 = wr.alloc (.cells #[.int .i64 x.1, .int .i64 x.2.1, .int .i64 x.2.2] 44)) := ⟨_, Lib.hid rfl⟩
        have hbA : Below wr.heap.size wr W1 := by rw [hW1.out]; exact (Below.refl _ _).alloc (Nat.le_refl _) _
        have g0 : W1.cell? ⟨wr.heap.size, 0, none⟩ = some (.int .i64 x.1) := by rw [hW1.out]; exact box_cell _ _ _ 0
        have g1 : W1.cell? ⟨wr.heap.size, 1, none⟩ = some (.int .i64 x.2.1) := by rw [hW1.out]; exact box_cell _ _ _ 1
        have g2 : W1.cell? ⟨wr.heap.size, 2, none⟩ = some (.int .i64 x.2.2) := by rw [hW1.out]; exact box_cell _ _ _ 2
        have hb1 := hb.trans (hbA.mono hbs)
        have HB1 := Lib.hid hb1
        obtain ⟨j0, j1, j2⟩ := HJ.out.below hb1 hlt1
        have hEq := dot_eq x d
        have hWe1 := hW1.out.symm
        clear hdk hxr hb hbA hb1
        by_cases heq : x = d
        · have HN : Hid (InC ms ds d) := Lib.hid (.inr (by rw [← heq]; exact List.mem_of_getElem? HDK.out))
          rw [show decide (x = d) = true by simpa using heq] at hEq
          clear heq
          go_upto_region 6 with fail
          clear hWe1
          go_wp2
          go_ret
          exact ⟨true, rfl, by simp [HN.out], HB0.out.trans (HB1.out.mono hsW)⟩
        · have HN : Hid (∀ x ∈ ds.take (k + 1), x ≠ d) := Lib.hid (fun m hm => by
            rw [take_at HDK.out] at hm
            rcases List.mem_append.1 hm with hm | hm
            · exact HO.out m hm
            · simp at hm; rw [hm]; exact heq)
          rw [show decide (x = d) = false by simpa using heq] at hEq
          clear heq
          go_upto_region 6 with fail
          clear hWe1
          go_wp2
          go_roundw
          case rel => exact ⟨k + 1, by omega, by go_num, HN, HB1.out⟩
          case measure => simp [intOf]; omega
      · have hkn : k = n := by omega
        have HN : Hid (¬ InC ms ds d) := Lib.hid (fun h => by
          rcases h with h | h
          · exact HP.out h
          · exact HO.out d (by rw [hkn, hn.out, List.take_length]; exact h) rfl)
        clear hxr hb hkn
        go_wp2
        go_ret
        exact ⟨false, rfl, by simp [HN.out], HB0.out.trans (HB.out.mono hsW)⟩
set_option maxRecDepth 100000 in
set_option maxHeartbeats 6400000 in
theorem top_ref (v : Value) (ms ds : List DotA) (a : ActA) (w : World) (h : RdC w v ms ds) (hok : OkC ms ds) : Calls Try.prog 22 #[v, actV a] w (fun e w' => e = .returned (.int .i64 (topOf ms ds a)) ∧ Below w.heap.size w w') := by
  obtain ⟨mv, dv, rfl, hm, hd⟩ := h
  obtain ⟨r, hr⟩ : ∃ r, Hid (r = topOf ms ds a) := ⟨_, Lib.hid rfl⟩
  rw [← hr.out]
  obtain ⟨W, hW⟩ : ∃ W, Hid (W = (w.alloc (.cells #[mv, dv] 48)).alloc (.cells #[.int .i64 a.1, .int .i64 a.2] 46)) := ⟨_, Lib.hid rfl⟩
  have hb0 : Below w.heap.size w W := by rw [hW.out]; exact ((Below.refl _ _).alloc (Nat.le_refl _) _).alloc (by simp) _
  have hz : W.heap.size = w.heap.size + 2 := by rw [hW.out]; simp
  have hbc : BoxC W w.heap.size mv dv := by
    rw [hW.out]
    exact (show BoxC (w.alloc (.cells #[mv, dv] 48)) w.heap.size mv dv from ⟨box_cell _ _ _ 0, box_cell _ _ _ 1⟩).below ((Below.refl _ _).alloc (Nat.le_refl _) _) (by simp)
  have hba : BoxC W (w.heap.size + 1) (.int .i64 a.1) (.int .i64 a.2) := by
    rw [hW.out]
    have : BoxC ((w.alloc (.cells #[mv, dv] 48)).alloc (.cells #[.int .i64 a.1, .int .i64 a.2] 46)) (w.alloc (.cells #[mv, dv] 48)).heap.size (.int .i64 a.1) (.int .i64 a.2) := ⟨box_cell _ _ _ 0, box_cell _ _ _ 1⟩
    simpa using this
  have hm0 := hm.below hb0
  have hd0 := hd.below hb0
  obtain ⟨A, c, rfl, hc, hx⟩ := hd
  obtain ⟨A1, c1, rfl, hc1, _⟩ := hm
  have HM := Lib.hid hm0
  have HX := Lib.hid (hx.below hb0 (Nat.le_refl _))
  have HOK := Lib.hid hok
  obtain ⟨n, hn⟩ : ∃ n, Hid (n = ds.length) := ⟨_, Lib.hid rfl⟩
  obtain ⟨n1, hn1⟩ : ∃ n1, Hid (n1 = ms.length) := ⟨_, Lib.hid rfl⟩
  have hn64 : n ≤ 64 := by rw [hn.out]; exact hok.2.1
  have hWe := hW.out.symm
  rw [← hn.out] at hbc hWe hc ⊢
  rw [← hn1.out] at hbc hWe HM hc1 ⊢
  have HC := Lib.hid hbc
  have HA := Lib.hid hba
  obtain ⟨l0, l1⟩ := hbc
  obtain ⟨j0, j1⟩ := hba
  have HB0 := Lib.hid hb0
  have hlt0 : w.heap.size < W.heap.size := by omega
  have hlt1 : w.heap.size + 1 < W.heap.size := by omega
  have hsW : w.heap.size ≤ W.heap.size := by omega
  clear hb0 hok hW hx hm0 hd0
  go_enter Try.func22, Try.ntmps22
  go_upto_region 1 with fail
  clear hWe
  have HU := Lib.hid (mark_ref _ ms a W HM.out (by have := HOK.out.1; omega))
  obtain ⟨u, hu⟩ : ∃ u, Hid (u = markOf ms a) := ⟨_, Lib.hid rfl⟩
  rw [← hu.out] at HU
  go_wp2_with fail
  (with_reducible refine HU.out.mono ?_); rintro e w2 ⟨rfl, hb2⟩
  have HB2 := Lib.hid hb2
  clear l0 l1 j0 j1 hb2 HU
  obtain ⟨l0, l1⟩ := HC.out.below HB2.out hlt0
  go_wp2
  go_loopw [18, 5] (fun i t wr => ∃ (k : Nat) (tv : Int), k ≤ n ∧ i = .int .i64 k ∧ t = .int .i64 tv ∧ Hid (tv = (ds.take k).foldl (topF a) u) ∧ Below W.heap.size W wr) (fun i _ _ => n - (intOf i).toNat)
  case atStart => exact ⟨0, u, Nat.zero_le _, rfl, rfl, Lib.hid (by simp), HB2.out⟩
  case round =>
    obtain ⟨k, tv, hk, rfl, rfl, HT, hb⟩ := hrel
    have HB := Lib.hid hb
    have hbs := hb.size
    have hxr := HX.out.below hb hsW
    by_cases hlt : k < n
    · obtain ⟨x, hd⟩ : ∃ x, ds[k]? = some x := ⟨ds[k]'(by have := hn.out; omega), List.getElem?_eq_getElem _⟩
      obtain ⟨ad, rfl, hadlt, hda⟩ := hxr k x hd
      obtain ⟨d0, d1, d2⟩ := hda
      have HTK := Lib.hid (take_at hd)
      obtain ⟨W1, hW1⟩ : ∃ W1, Hid (W1 = wr.alloc (.cells #[.int .i64 x.1, .int .i64 x.2.1, .int .i64 x.2.2] 44)) := ⟨_, Lib.hid rfl⟩
      have hbA : Below wr.heap.size wr W1 := by rw [hW1.out]; exact (Below.refl _ _).alloc (Nat.le_refl _) _
      have hzW1 : wr.heap.size < W1.heap.size := by rw [hW1.out]; simp
      have k0 : BoxD W1 wr.heap.size x := by
        have := boxD wr 44 x
        rw [← hW1.out] at this
        exact this
      have hb1 := hb.trans (hbA.mono hbs)
      have ha1 := HA.out.below hb1 hlt1
      have e0 := k0.1
      have e1 := k0.2.1
      have e2 := k0.2.2
      have j0 := ha1.1
      have j1 := ha1.2
      have hWe1 := hW1.out.symm
      have HX2 := Lib.hid hb1
      clear hd hxr hb hbA k0 ha1 hb1
      by_cases heq : actOf x = a
      · have q1 : (x.1 == a.1) = true := by rw [← heq]; simp [actOf]
        have q2 : (x.2.1 == a.2) = true := by rw [← heq]; simp [actOf]
        have HNX : Hid (max tv x.2.2 = (ds.take (k + 1)).foldl (topF a) u) := Lib.hid (by rw [HTK.out, List.foldl_append, ← HT.out]; simp [topF, heq])
        clear heq
        rcases Int.lt_trichotomy tv x.2.2 with hx | hx | hx
        · have HN2 : Hid (x.2.2 = (ds.take (k + 1)).foldl (topF a) u) := Lib.hid (by rw [← HNX.out]; omega)
          go_upto_region 5 with fail
          clear hWe1
          go_wp2
          go_roundw
          case rel => exact ⟨k + 1, _, by omega, by go_num, rfl, HN2, HX2.out⟩
          case measure => simp [intOf]; omega
        · have HN2 : Hid (x.2.2 = (ds.take (k + 1)).foldl (topF a) u) := Lib.hid (by rw [← HNX.out]; omega)
          subst hx
          go_upto_region 5 with fail
          clear hWe1
          go_wp2
          go_roundw
          case rel => exact ⟨k + 1, _, by omega, by go_num, rfl, HN2, HX2.out⟩
          case measure => simp [intOf]; omega
        · have HN2 : Hid (tv = (ds.take (k + 1)).foldl (topF a) u) := Lib.hid (by rw [← HNX.out]; omega)
          go_upto_region 5 with fail
          clear hWe1
          go_wp2
          go_roundw
          case rel => exact ⟨k + 1, _, by omega, by go_num, rfl, HN2, HX2.out⟩
          case measure => simp [intOf]; omega
      · have HN2 : Hid (tv = (ds.take (k + 1)).foldl (topF a) u) := Lib.hid (by rw [HTK.out, List.foldl_append, ← HT.out]; simp [topF, heq])
        have qq : (x.1 == a.1) = false ∨ (x.1 == a.1) = true ∧ (x.2.1 == a.2) = false := by
          by_cases h1 : x.1 = a.1
          · exact .inr ⟨by simpa using h1, by have : ¬ x.2.1 = a.2 := fun h2 => heq (Prod.ext h1 h2); simpa using this⟩
          · exact .inl (by simpa using h1)
        clear heq
        rcases qq with q1 | ⟨q1, q2⟩
        · skip
          go_upto_region 5 with fail
          clear hWe1
          go_wp2
          go_roundw
          case rel => exact ⟨k + 1, _, by omega, by go_num, rfl, HN2, HX2.out⟩
          case measure => simp [intOf]; omega
        · skip
          go_upto_region 5 with fail
          clear hWe1
          go_wp2
          go_roundw
          case rel => exact ⟨k + 1, _, by omega, by go_num, rfl, HN2, HX2.out⟩
          case measure => simp [intOf]; omega
    · have hkn : k = n := by omega
      have HE : Hid (r = tv) := Lib.hid (by
        rw [hr.out, HT.out, hkn, hn.out, List.take_length, hu.out]; rfl)
      clear hxr hb hkn
      go_wp2
      go_ret
      exact ⟨ret_int HE.out.symm, HB0.out.trans (HB.out.mono hsW)⟩
/-- How many dots there are. -/
def sumM (l : List DotA) (n : Int) : Int := l.foldl (fun t m => t + m.2.2) n
theorem sumM_at {l : List DotA} {k : Nat} {m : DotA} {n : Int} (h : l[k]? = some m) : sumM (l.take (k + 1)) n = sumM (l.take k) n + m.2.2 := by unfold sumM; rw [take_at h, List.foldl_append]; rfl

set_option maxRecDepth 100000 in
set_option maxHeartbeats 6400000 in
theorem size_any (v : Value) (ms ds : List DotA) (w : World) (h : RdC w v ms ds) (hok : OkC ms ds) : Calls Try.prog 23 #[v] w (fun e w' => e = .returned (.int .i64 (sumM ms ds.length)) ∧ Below w.heap.size w w') := by
  obtain ⟨mv, dv, rfl, hm, hd⟩ := h
  obtain ⟨r, hr⟩ : ∃ r, Hid (r = sumM ms ds.length) := ⟨_, Lib.hid rfl⟩
  rw [← hr.out]
  obtain ⟨W, hW⟩ : ∃ W, Hid (W = w.alloc (.cells #[mv, dv] 48)) := ⟨_, Lib.hid rfl⟩
  have hb0 : Below w.heap.size w W := by rw [hW.out]; exact (Below.refl _ _).alloc (Nat.le_refl _) _
  have hlt0 : w.heap.size < W.heap.size := by rw [hW.out]; simp
  have hbc : BoxC W w.heap.size mv dv := by rw [hW.out]; exact ⟨box_cell _ _ _ 0, box_cell _ _ _ 1⟩
  have hrd : RdC W (.agg #[mv, dv]) ms ds := ⟨mv, dv, rfl, hm.below hb0, hd.below hb0⟩
  obtain ⟨A, c, rfl, hc, hx⟩ := hd
  obtain ⟨A1, c1, rfl, hc1, hx1⟩ := hm
  have HX1 := Lib.hid (hx1.below hb0 (Nat.le_refl _))
  have HOK := Lib.hid hok
  have HCN := Lib.hid (can_any _ ms ds W hrd (by have := hok.1; omega) (by have := hok.2.1; omega))
  obtain ⟨n, hn⟩ : ∃ n, Hid (n = ds.length) := ⟨_, Lib.hid rfl⟩
  obtain ⟨n1, hn1⟩ : ∃ n1, Hid (n1 = ms.length) := ⟨_, Lib.hid rfl⟩
  have hn64 : n ≤ 64 := by rw [hn.out]; exact hok.2.1
  have hn164 : n1 ≤ 64 := by rw [hn1.out]; exact hok.1
  have hWe := hW.out.symm
  rw [← hn.out] at hbc hWe HCN hc ⊢
  rw [← hn1.out] at hbc hWe HCN hc1 ⊢
  have HC := Lib.hid hbc
  obtain ⟨l0, l1⟩ := hbc
  have HB0 := Lib.hid hb0
  have hsW : w.heap.size ≤ W.heap.size := by omega
  clear hb0 hrd hok hW hx hx1
  go_enter Try.func23, Try.ntmps23
  go_upto_region 1 with fail
  clear hWe
  go_wp2_with fail
  (with_reducible refine HCN.out.mono ?_); rintro e w1 ⟨b, rfl, hbi, hb1⟩
  obtain rfl : b = true := hbi.2 HOK.out
  have HB1 := Lib.hid hb1
  clear hbi hb1 HCN l0 l1
  obtain ⟨l0, l1⟩ := HC.out.below HB1.out hlt0
  go_wp2
  go_loopw [15, 3] (fun i t wr => ∃ (k : Nat) (tv : Int), k ≤ n1 ∧ i = .int .i64 k ∧ t = .int .i64 tv ∧ 0 ≤ tv ∧ tv ≤ 64 + k * 1099511627776 ∧ Hid (tv = sumM (ms.take k) n) ∧ Below W.heap.size W wr) (fun i _ _ => n1 - (intOf i).toNat)
  case atStart => exact ⟨0, n, Nat.zero_le _, rfl, rfl, by omega, by omega, Lib.hid (by simp [sumM]), HB1.out⟩
  case round =>
    obtain ⟨k, tv, hk, rfl, rfl, ht0, ht1, HT, hb⟩ := hrel
    have HB := Lib.hid hb
    have hbs := hb.size
    have hxr := HX1.out.below hb hsW
    by_cases hlt : k < n1
    · obtain ⟨x, hd⟩ : ∃ x, ms[k]? = some x := ⟨ms[k]'(by have := hn1.out; omega), List.getElem?_eq_getElem _⟩
      obtain ⟨ad, rfl, hadlt, hda⟩ := hxr k x hd
      obtain ⟨d0, d1, d2⟩ := hda
      have hmx := mayB_le (HOK.out.2.2.1.1 k x hd)
      have HT2 : Hid (tv + x.2.2 = sumM (ms.take (k + 1)) n) := Lib.hid (by rw [sumM_at hd, ← HT.out])
      obtain ⟨W1, hW1⟩ : ∃ W1, Hid (W1 = wr.alloc (.cells #[.int .i64 x.1, .int .i64 x.2.1, .int .i64 x.2.2] 55)) := ⟨_, Lib.hid rfl⟩
      have hbA : Below wr.heap.size wr W1 := by rw [hW1.out]; exact (Below.refl _ _).alloc (Nat.le_refl _) _
      have g0 : W1.cell? ⟨wr.heap.size, 0, none⟩ = some (.int .i64 x.1) := by rw [hW1.out]; exact box_cell _ _ _ 0
      have g1 : W1.cell? ⟨wr.heap.size, 1, none⟩ = some (.int .i64 x.2.1) := by rw [hW1.out]; exact box_cell _ _ _ 1
      have g2 : W1.cell? ⟨wr.heap.size, 2, none⟩ = some (.int .i64 x.2.2) := by rw [hW1.out]; exact box_cell _ _ _ 2
      have HB3 := Lib.hid (hb.trans (hbA.mono hbs))
      have iu : IntKind.i64.wrap (tv + x.2.2) = tv + x.2.2 := IntWalk.i64_in _ (by omega)
      have hWe1 := hW1.out.symm
      have ht2 : 0 ≤ tv + x.2.2 := by omega
      have ht3 : tv + x.2.2 ≤ 64 + (k + 1 : Nat) * 1099511627776 := by omega
      clear hd hxr hb hbA hmx
      go_upto_region 7 with fail
      clear hWe1
      go_wp2
      go_roundw
      case rel => exact ⟨k + 1, tv + x.2.2, by omega, by go_num, rfl, ht2, ht3, HT2, HB3.out⟩
      case measure => simp [intOf]; omega
    · have hkn : k = n1 := by omega
      have HE : Hid (r = tv) := Lib.hid (by rw [hr.out, HT.out, hkn, hn1.out, List.take_length, hn.out])
      clear hxr hb hkn
      go_wp2
      go_ret
      exact ⟨ret_int HE.out.symm, HB0.out.trans (HB.out.mono hsW)⟩
set_option maxRecDepth 100000 in
set_option maxHeartbeats 6400000 in
theorem size_ref (v : Value) (ms ds : List DotA) (w : World) (h : RdC w v ms ds) (hok : OkC ms ds) : Calls Try.prog 24 #[v] w (fun e w' => e = .returned (.int .i64 (sumM ms ds.length)) ∧ Below w.heap.size w w') := by
  obtain ⟨mv, dv, rfl, hm, hd⟩ := h
  obtain ⟨r, hr⟩ : ∃ r, Hid (r = sumM ms ds.length) := ⟨_, Lib.hid rfl⟩
  rw [← hr.out]
  obtain ⟨W, hW⟩ : ∃ W, Hid (W = w.alloc (.cells #[mv, dv] 48)) := ⟨_, Lib.hid rfl⟩
  have hb0 : Below w.heap.size w W := by rw [hW.out]; exact (Below.refl _ _).alloc (Nat.le_refl _) _
  have hlt0 : w.heap.size < W.heap.size := by rw [hW.out]; simp
  have hbc : BoxC W w.heap.size mv dv := by rw [hW.out]; exact ⟨box_cell _ _ _ 0, box_cell _ _ _ 1⟩
  have hrd : RdC W (.agg #[mv, dv]) ms ds := ⟨mv, dv, rfl, hm.below hb0, hd.below hb0⟩
  obtain ⟨A, c, rfl, hc, hx⟩ := hd
  obtain ⟨A1, c1, rfl, hc1, hx1⟩ := hm
  have HX1 := Lib.hid (hx1.below hb0 (Nat.le_refl _))
  have HOK := Lib.hid hok
  have HCN := Lib.hid (can_any _ ms ds W hrd (by have := hok.1; omega) (by have := hok.2.1; omega))
  obtain ⟨n, hn⟩ : ∃ n, Hid (n = ds.length) := ⟨_, Lib.hid rfl⟩
  obtain ⟨n1, hn1⟩ : ∃ n1, Hid (n1 = ms.length) := ⟨_, Lib.hid rfl⟩
  have hn64 : n ≤ 64 := by rw [hn.out]; exact hok.2.1
  have hn164 : n1 ≤ 64 := by rw [hn1.out]; exact hok.1
  have hWe := hW.out.symm
  rw [← hn.out] at hbc hWe HCN hc ⊢
  rw [← hn1.out] at hbc hWe HCN hc1 ⊢
  have HC := Lib.hid hbc
  obtain ⟨l0, l1⟩ := hbc
  have HB0 := Lib.hid hb0
  have hsW : w.heap.size ≤ W.heap.size := by omega
  clear hb0 hrd hok hW hx hx1
  go_enter Try.func24, Try.ntmps24
  go_upto_region 1 with fail
  clear hWe
  have HB1 : Hid (Below W.heap.size W W) := Lib.hid (Below.refl _ _)
  clear HCN
  go_wp2
  go_loopw [12, 3] (fun i t wr => ∃ (k : Nat) (tv : Int), k ≤ n1 ∧ i = .int .i64 k ∧ t = .int .i64 tv ∧ 0 ≤ tv ∧ tv ≤ 64 + k * 1099511627776 ∧ Hid (tv = sumM (ms.take k) n) ∧ Below W.heap.size W wr) (fun i _ _ => n1 - (intOf i).toNat)
  case atStart => exact ⟨0, n, Nat.zero_le _, rfl, rfl, by omega, by omega, Lib.hid (by simp [sumM]), HB1.out⟩
  case round =>
    obtain ⟨k, tv, hk, rfl, rfl, ht0, ht1, HT, hb⟩ := hrel
    have HB := Lib.hid hb
    have hbs := hb.size
    have hxr := HX1.out.below hb hsW
    by_cases hlt : k < n1
    · obtain ⟨x, hd⟩ : ∃ x, ms[k]? = some x := ⟨ms[k]'(by have := hn1.out; omega), List.getElem?_eq_getElem _⟩
      obtain ⟨ad, rfl, hadlt, hda⟩ := hxr k x hd
      obtain ⟨d0, d1, d2⟩ := hda
      have hmx := mayB_le (HOK.out.2.2.1.1 k x hd)
      have HT2 : Hid (tv + x.2.2 = sumM (ms.take (k + 1)) n) := Lib.hid (by rw [sumM_at hd, ← HT.out])
      obtain ⟨W1, hW1⟩ : ∃ W1, Hid (W1 = wr.alloc (.cells #[.int .i64 x.1, .int .i64 x.2.1, .int .i64 x.2.2] 55)) := ⟨_, Lib.hid rfl⟩
      have hbA : Below wr.heap.size wr W1 := by rw [hW1.out]; exact (Below.refl _ _).alloc (Nat.le_refl _) _
      have g0 : W1.cell? ⟨wr.heap.size, 0, none⟩ = some (.int .i64 x.1) := by rw [hW1.out]; exact box_cell _ _ _ 0
      have g1 : W1.cell? ⟨wr.heap.size, 1, none⟩ = some (.int .i64 x.2.1) := by rw [hW1.out]; exact box_cell _ _ _ 1
      have g2 : W1.cell? ⟨wr.heap.size, 2, none⟩ = some (.int .i64 x.2.2) := by rw [hW1.out]; exact box_cell _ _ _ 2
      have HB3 := Lib.hid (hb.trans (hbA.mono hbs))
      have iu : IntKind.i64.wrap (tv + x.2.2) = tv + x.2.2 := IntWalk.i64_in _ (by omega)
      have hWe1 := hW1.out.symm
      have ht2 : 0 ≤ tv + x.2.2 := by omega
      have ht3 : tv + x.2.2 ≤ 64 + (k + 1 : Nat) * 1099511627776 := by omega
      clear hd hxr hb hbA hmx
      go_upto_region 5 with fail
      clear hWe1
      go_wp2
      go_roundw
      case rel => exact ⟨k + 1, tv + x.2.2, by omega, by go_num, rfl, ht2, ht3, HT2, HB3.out⟩
      case measure => simp [intOf]; omega
    · have hkn : k = n1 := by omega
      have HE : Hid (r = tv) := Lib.hid (by rw [hr.out, HT.out, hkn, hn1.out, List.take_length, hn.out])
      clear hxr hb hkn
      go_wp2
      go_ret
      exact ⟨ret_int HE.out.symm, HB0.out.trans (HB.out.mono hsW)⟩
end Go.Proofs.Ytfplblhmeohhmaa
