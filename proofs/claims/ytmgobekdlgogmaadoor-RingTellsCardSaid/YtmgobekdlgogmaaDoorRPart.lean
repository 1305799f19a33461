/- The partition of a key in a ring. -/
import Derived.Test.YtmgobekdlgogmaaDoorRRefIn
import Derived.Test.YtmgobekdlgogmaaDoorHashes
import Derived.Test.YtmgobekdlgogmaaDoorKeys
namespace Go.Proofs.YtmgobekdlgogmaaDoor
open Go.RowKit Go.Sort Go.BigFrame
open Go.Lib (byteCells byteCells_length)

theorem position_any (s : ByteArray) (hs : s.size ≤ 9223372036854775807) (w : World) (ht : Tabs w) :
    Calls Tryd.prog 40 #[.string s] w fun e w' => e = .returned (.int .u64 (hash s.data.toList : Int)) ∧ Below w.heap.size w w' := by
  obtain ⟨w1, cap, hconv, hb, hcap, hrd⟩ := conv_any s w
  have hl := slen s
  have hR : Rd w1 w.heap.size w1.heap.size (.slice (some ⟨w.heap.size, 0, none⟩) s.size cap) s.data.toList := ⟨_, cap, by rw [hl], by rw [hl]; exact hcap, hrd⟩
  have HH := Lib.hid (hash_any _ _ _ _ _ hR (by rw [hl]; exact hs) (ht.below hb ht.big))
  clear hl hrd hR
  go_enter Tryd.func40, Tryd.ntmps40
  go_wp2_with fail
  (with_reducible refine HH.out.mono ?_); rintro e w' ⟨rfl, rfl⟩
  go_wp2
  go_ret
  exact ⟨rfl, hb⟩
theorem refPosition_any (s : ByteArray) (hs : s.size ≤ 9223372036854775807) (w : World) :
    Calls Tryd.prog 42 #[.string s] w fun e w' => e = .returned (.int .u64 (hash s.data.toList : Int)) ∧ Below w.heap.size w w' := by
  obtain ⟨w1, cap, hconv, hb, hcap, hrd⟩ := conv_any s w
  have hl := slen s
  have hR : Rd w1 w.heap.size w1.heap.size (.slice (some ⟨w.heap.size, 0, none⟩) s.size cap) s.data.toList := ⟨_, cap, by rw [hl], by rw [hl]; exact hcap, hrd⟩
  have HH := Lib.hid (refHash_any _ _ _ _ _ hR (by rw [hl]; exact hs))
  clear hl hrd hR
  go_enter Tryd.func42, Tryd.ntmps42
  go_wp2_with fail
  (with_reducible refine HH.out.mono ?_); rintro e w' ⟨rfl, rfl⟩
  go_wp2
  go_ret
  exact ⟨rfl, hb⟩
set_option maxRecDepth 100000 in
set_option maxHeartbeats 1600000 in
theorem part_no (p c s : Int) (v : Value) (ms : List MemA) (key : ByteArray) (w : World) (hno : ¬ OkR p c s ms) (hT : Tabs w) (h1 : -9223372036854775808 ≤ p) (h2 : p ≤ 9223372036854775807) (h : RdM w v ms) (hl : ms.length ≤ 4398046511104) :
    Calls Tryd.prog 19 #[.agg #[.int .i64 p, .int .i64 c, .int .i64 s, v], .string key] w (fun e w' => e = .returned (.int .i64 0) ∧ Below w.heap.size w w') := by
  have HV := Lib.hid h
  obtain ⟨A, cap, rfl, hc, hx⟩ := h
  obtain ⟨n, hn⟩ : ∃ n, Hid (n = ms.length) := ⟨_, Lib.hid rfl⟩
  rw [← hn.out] at HV ⊢
  obtain ⟨W, hW⟩ : ∃ W, Hid (W = w.alloc (.cells #[.int .i64 p, .int .i64 c, .int .i64 s, .slice A n cap] 24)) := ⟨_, Lib.hid rfl⟩
  have HB : Hid (Below w.heap.size w W) := Lib.hid (by rw [hW.out]; exact (Below.refl _ _).alloc (Nat.le_refl _) _)
  have HLT : Hid (w.heap.size < W.heap.size) := Lib.hid (by rw [hW.out]; exact (Array.getElem?_eq_some_iff.1 (heap_alloc_new w _)).1)
  have k0 : W.cell? ⟨w.heap.size, 0, none⟩ = some (.int .i64 p) := by rw [hW.out]; exact box_cellR _ _ _ 0
  have k1 : W.cell? ⟨w.heap.size, 1, none⟩ = some (.int .i64 c) := by rw [hW.out]; exact box_cellR _ _ _ 1
  have k2 : W.cell? ⟨w.heap.size, 2, none⟩ = some (.int .i64 s) := by rw [hW.out]; exact box_cellR _ _ _ 2
  have k3 : W.cell? ⟨w.heap.size, 3, none⟩ = some (.slice A n cap) := by rw [hW.out]; exact box_cellR _ _ _ 3
  have HC := Lib.hid (can_any p c s (.slice A n cap) ms W (hT.below HB.out hT.big) h1 h2 (HV.out.below HB.out) hl)
  have HNO := Lib.hid hno
  clear hT h1 h2 hx hno
  go_enter Tryd.func19, Tryd.ntmps19
  go_upto_region 1 with fail
  rw [← hW.out]
  go_wp2_with fail
  (with_reducible refine HC.out.mono ?_); rintro e w1 ⟨b, rfl, hbi, hb1⟩
  cases b with
  | true => exact absurd (hbi.1 rfl) HNO.out
  | false =>
    have HB1 : Hid (Below w.heap.size w w1) := Lib.hid (HB.out.trans (hb1.mono HB.out.size))
    clear hb1 hbi k0 k1 k2 k3
    go_wp2
    go_ret
    exact ⟨rfl, HB1.out⟩

set_option maxRecDepth 100000 in
set_option maxHeartbeats 1600000 in
theorem part_yes (p c s : Int) (v : Value) (ms : List MemA) (key : ByteArray) (w : World) (hok : OkR p c s ms) (hs : key.size ≤ 9223372036854775807) (hT : Tabs w) (h1 : -9223372036854775808 ≤ p) (h2 : p ≤ 9223372036854775807) (h : RdM w v ms) (hl : ms.length ≤ 4398046511104) :
    Calls Tryd.prog 19 #[.agg #[.int .i64 p, .int .i64 c, .int .i64 s, v], .string key] w (fun e w' => e = .returned (.int .i64 (pos (hash key.data.toList : Int) p)) ∧ Below w.heap.size w w') := by
  have HV := Lib.hid h
  obtain ⟨A, cap, rfl, hc, hx⟩ := h
  obtain ⟨n, hn⟩ : ∃ n, Hid (n = ms.length) := ⟨_, Lib.hid rfl⟩
  rw [← hn.out] at HV ⊢
  obtain ⟨W, hW⟩ : ∃ W, Hid (W = w.alloc (.cells #[.int .i64 p, .int .i64 c, .int .i64 s, .slice A n cap] 24)) := ⟨_, Lib.hid rfl⟩
  have HB : Hid (Below w.heap.size w W) := Lib.hid (by rw [hW.out]; exact (Below.refl _ _).alloc (Nat.le_refl _) _)
  have HLT : Hid (w.heap.size < W.heap.size) := Lib.hid (by rw [hW.out]; exact (Array.getElem?_eq_some_iff.1 (heap_alloc_new w _)).1)
  have k0 : W.cell? ⟨w.heap.size, 0, none⟩ = some (.int .i64 p) := by rw [hW.out]; exact box_cellR _ _ _ 0
  have k1 : W.cell? ⟨w.heap.size, 1, none⟩ = some (.int .i64 c) := by rw [hW.out]; exact box_cellR _ _ _ 1
  have k2 : W.cell? ⟨w.heap.size, 2, none⟩ = some (.int .i64 s) := by rw [hW.out]; exact box_cellR _ _ _ 2
  have k3 : W.cell? ⟨w.heap.size, 3, none⟩ = some (.slice A n cap) := by rw [hW.out]; exact box_cellR _ _ _ 3
  have HC := Lib.hid (can_any p c s (.slice A n cap) ms W (hT.below HB.out hT.big) h1 h2 (HV.out.below HB.out) hl)
  have HOK := Lib.hid hok
  have HP : Hid (isPow p = true) := Lib.hid (by
    have := hok.1
    unfold okShape at this
    simp only [Bool.and_eq_true] at this
    exact this.1.1)
  have HT := Lib.hid hT
  have K0 := Lib.hid k0
  obtain ⟨u, hu⟩ : ∃ u, Hid (u = pos (hash key.data.toList : Int) p) := ⟨_, Lib.hid rfl⟩
  obtain ⟨q, hq⟩ : ∃ q : Int, Hid (q = (hash key.data.toList : Int)) := ⟨_, Lib.hid rfl⟩
  clear hT h1 h2 hx hok
  go_enter Tryd.func19, Tryd.ntmps19
  go_upto_region 1 with fail
  rw [← hW.out]
  go_wp2_with fail
  (with_reducible refine HC.out.mono ?_); rintro e w1 ⟨b, rfl, hbi, hb1⟩
  cases b with
  | false => exact absurd (hbi.2 HOK.out) (by decide)
  | true =>
    have HB1 : Hid (Below w.heap.size w w1) := Lib.hid (HB.out.trans (hb1.mono HB.out.size))
    have j0 := cell_regrown ((hb1.cell (p := ⟨w.heap.size, 0, none⟩) HLT.out).trans K0.out)
    have cP : ∀ d os, Calls Tryd.prog 40 #[.string key] (grow (redrawn w1 d) os) fun e w'' => e = .returned (.int .u64 q) ∧ ∃ p : Regrown, w'' = grow (redrawn w1 p.d) p.os := fun d os => by
      rw [hq.out]
      exact Calls.regrown_of (position_any key hs _ (HT.out.below (below_reR HB1.out d os) HT.out.big))
    have cQ : ∀ d os, Calls Tryd.prog 39 #[.int .u64 q, .int .i64 p] (grow (redrawn w1 d) os) fun e w'' => e = .returned (.tuple #[.int .i64 u, .bool true]) ∧ ∃ p : Regrown, w'' = grow (redrawn w1 p.d) p.os := fun d os => by
      rw [hq.out, hu.out]
      exact Calls.regrown_of ((partition_yes _ (Int.natCast_nonneg _) (by have := hash_lt key.data.toList; omega) p HP.out _ (HT.out.below (below_reR HB1.out d os) HT.out.big)).mono fun e w' h => ⟨h.1, by rw [← h.2]; exact Below.refl _ _⟩)
    clear hb1 hbi k0 k1 k2 k3
    rw [show canN true = 0 from rfl]
    go_upto_region 3 with fail
    refine wp_region_quiet_below (by kernel_rfl) (by kernel_rfl) ?_
    repeat (first | go_big_quiet_step (first | exact cP _ _ | exact cQ _ _) | quiet_step (first | exact cP _ _ | exact cQ _ _))
    refine wpQuiet_nil ?_
    intro _ hw'
    obtain ⟨⟨dq, osq⟩, hw''⟩ := hw'
    subst hw''
    have HX2 := Lib.hid (below_reR HB1.out dq osq)
    clear cP cQ j0
    go_wp2
    go_ret
    exact ⟨by rw [← hu.out]; rfl, HX2.out⟩

set_option maxRecDepth 100000 in
set_option maxHeartbeats 1600000 in
theorem refPart_no (p c s : Int) (v : Value) (ms : List MemA) (key : ByteArray) (w : World) (hno : ¬ OkR p c s ms) (h : RdM w v ms) (hl : ms.length ≤ 4398046511104) :
    Calls Tryd.prog 20 #[.agg #[.int .i64 p, .int .i64 c, .int .i64 s, v], .string key] w (fun e w' => e = .returned (.int .i64 0) ∧ Below w.heap.size w w') := by
  have HV := Lib.hid h
  obtain ⟨A, cap, rfl, hc, hx⟩ := h
  obtain ⟨n, hn⟩ : ∃ n, Hid (n = ms.length) := ⟨_, Lib.hid rfl⟩
  rw [← hn.out] at HV ⊢
  obtain ⟨W, hW⟩ : ∃ W, Hid (W = w.alloc (.cells #[.int .i64 p, .int .i64 c, .int .i64 s, .slice A n cap] 24)) := ⟨_, Lib.hid rfl⟩
  have HB : Hid (Below w.heap.size w W) := Lib.hid (by rw [hW.out]; exact (Below.refl _ _).alloc (Nat.le_refl _) _)
  have HLT : Hid (w.heap.size < W.heap.size) := Lib.hid (by rw [hW.out]; exact (Array.getElem?_eq_some_iff.1 (heap_alloc_new w _)).1)
  have k0 : W.cell? ⟨w.heap.size, 0, none⟩ = some (.int .i64 p) := by rw [hW.out]; exact box_cellR _ _ _ 0
  have k1 : W.cell? ⟨w.heap.size, 1, none⟩ = some (.int .i64 c) := by rw [hW.out]; exact box_cellR _ _ _ 1
  have k2 : W.cell? ⟨w.heap.size, 2, none⟩ = some (.int .i64 s) := by rw [hW.out]; exact box_cellR _ _ _ 2
  have k3 : W.cell? ⟨w.heap.size, 3, none⟩ = some (.slice A n cap) := by rw [hW.out]; exact box_cellR _ _ _ 3
  have HC := Lib.hid (refCan_any p c s (.slice A n cap) ms W (HV.out.below HB.out) hl)
  have HNO := Lib.hid hno
  clear hx hno
  go_enter Tryd.func20, Tryd.ntmps20
  go_upto_region 1 with fail
  rw [← hW.out]
  go_wp2_with fail
  (with_reducible refine HC.out.mono ?_); rintro e w1 ⟨b, rfl, hbi, hb1⟩
  cases b with
  | true => exact absurd (hbi.1 rfl) HNO.out
  | false =>
    have HB1 : Hid (Below w.heap.size w w1) := Lib.hid (HB.out.trans (hb1.mono HB.out.size))
    clear hb1 hbi k0 k1 k2 k3
    go_wp2
    go_ret
    exact ⟨rfl, HB1.out⟩

set_option maxRecDepth 100000 in
set_option maxHeartbeats 1600000 in
theorem refPart_yes (p c s : Int) (v : Value) (ms : List MemA) (key : ByteArray) (w : World) (hok : OkR p c s ms) (hs : key.size ≤ 9223372036854775807) (h : RdM w v ms) (hl : ms.length ≤ 4398046511104) :
    Calls Tryd.prog 20 #[.agg #[.int .i64 p, .int .i64 c, .int .i64 s, v], .string key] w (fun e w' => e = .returned (.int .i64 (pos (hash key.data.toList : Int) p)) ∧ Below w.heap.size w w') := by
  have HV := Lib.hid h
  obtain ⟨A, cap, rfl, hc, hx⟩ := h
  obtain ⟨n, hn⟩ : ∃ n, Hid (n = ms.length) := ⟨_, Lib.hid rfl⟩
  rw [← hn.out] at HV ⊢
  obtain ⟨W, hW⟩ : ∃ W, Hid (W = w.alloc (.cells #[.int .i64 p, .int .i64 c, .int .i64 s, .slice A n cap] 24)) := ⟨_, Lib.hid rfl⟩
  have HB : Hid (Below w.heap.size w W) := Lib.hid (by rw [hW.out]; exact (Below.refl _ _).alloc (Nat.le_refl _) _)
  have HLT : Hid (w.heap.size < W.heap.size) := Lib.hid (by rw [hW.out]; exact (Array.getElem?_eq_some_iff.1 (heap_alloc_new w _)).1)
  have k0 : W.cell? ⟨w.heap.size, 0, none⟩ = some (.int .i64 p) := by rw [hW.out]; exact box_cellR _ _ _ 0
  have k1 : W.cell? ⟨w.heap.size, 1, none⟩ = some (.int .i64 c) := by rw [hW.out]; exact box_cellR _ _ _ 1
  have k2 : W.cell? ⟨w.heap.size, 2, none⟩ = some (.int .i64 s) := by rw [hW.out]; exact box_cellR _ _ _ 2
  have k3 : W.cell? ⟨w.heap.size, 3, none⟩ = some (.slice A n cap) := by rw [hW.out]; exact box_cellR _ _ _ 3
  have HC := Lib.hid (refCan_any p c s (.slice A n cap) ms W (HV.out.below HB.out) hl)
  have HOK := Lib.hid hok
  have HP : Hid (isPow p = true) := Lib.hid (by
    have := hok.1
    unfold okShape at this
    simp only [Bool.and_eq_true] at this
    exact this.1.1)
  have K0 := Lib.hid k0
  obtain ⟨u, hu⟩ : ∃ u, Hid (u = pos (hash key.data.toList : Int) p) := ⟨_, Lib.hid rfl⟩
  obtain ⟨q, hq⟩ : ∃ q : Int, Hid (q = (hash key.data.toList : Int)) := ⟨_, Lib.hid rfl⟩
  clear hx hok
  go_enter Tryd.func20, Tryd.ntmps20
  go_upto_region 1 with fail
  rw [← hW.out]
  go_wp2_with fail
  (with_reducible refine HC.out.mono ?_); rintro e w1 ⟨b, rfl, hbi, hb1⟩
  cases b with
  | false => exact absurd (hbi.2 HOK.out) (by decide)
  | true =>
    have HB1 : Hid (Below w.heap.size w w1) := Lib.hid (HB.out.trans (hb1.mono HB.out.size))
    have j0 := cell_regrown ((hb1.cell (p := ⟨w.heap.size, 0, none⟩) HLT.out).trans K0.out)
    have cP : ∀ d os, Calls Tryd.prog 42 #[.string key] (grow (redrawn w1 d) os) fun e w'' => e = .returned (.int .u64 q) ∧ ∃ p : Regrown, w'' = grow (redrawn w1 p.d) p.os := fun d os => by
      rw [hq.out]
      exact Calls.regrown_of (refPosition_any key hs _)
    have cQ : ∀ d os, Calls Tryd.prog 41 #[.int .u64 q, .int .i64 p] (grow (redrawn w1 d) os) fun e w'' => e = .returned (.tuple #[.int .i64 u, .bool true]) ∧ ∃ p : Regrown, w'' = grow (redrawn w1 p.d) p.os := fun d os => by
      rw [hq.out, hu.out]
      exact Calls.regrown_of ((refPartition_yes _ (Int.natCast_nonneg _) (by have := hash_lt key.data.toList; omega) p HP.out _).mono fun e w' h => ⟨h.1, by rw [← h.2]; exact Below.refl _ _⟩)
    clear hb1 hbi k0 k1 k2 k3
    rw [show canN true = 0 from rfl]
    go_upto_region 3 with fail
    refine wp_region_quiet_below (by kernel_rfl) (by kernel_rfl) ?_
    repeat (first | go_big_quiet_step (first | exact cP _ _ | exact cQ _ _) | quiet_step (first | exact cP _ _ | exact cQ _ _))
    refine wpQuiet_nil ?_
    intro _ hw'
    obtain ⟨⟨dq, osq⟩, hw''⟩ := hw'
    subst hw''
    have HX2 := Lib.hid (below_reR HB1.out dq osq)
    clear cP cQ j0
    go_wp2
    go_ret
    exact ⟨by rw [← hu.out]; rfl, HX2.out⟩

end Go.Proofs.YtmgobekdlgogmaaDoor
