/- A node's epoch: the program's and the document's. -/
import Derived.Test.YtmgobekdlgogmaaDoorRMap
namespace Go.Proofs.YtmgobekdlgogmaaDoor
open Go.RowKit Go.Sort Go.BigFrame Go.WideMaps
open Go.Lib (byteCells byteCells_length)

theorem epochField (a b c d : Int) (w : World) : (Instr.field 40 (.agg #[.int .i64 a, .int .i64 b, .int .i64 c, .int .i64 d]) 1).run Tryd.prog w = .ok (.int .i64 b) w := by kernel_rfl

set_option maxRecDepth 100000 in
set_option maxHeartbeats 1600000 in
theorem epoch_no (p c s : Int) (v : Value) (ms : List MemA) (node : Int) (w : World) (hno : ¬ OkR p c s ms) (hT : Tabs w) (h1 : -9223372036854775808 ≤ p) (h2 : p ≤ 9223372036854775807) (h : RdM w v ms) (hl : ms.length ≤ 4398046511104) :
    Calls Tryd.prog 17 #[.agg #[.int .i64 p, .int .i64 c, .int .i64 s, v], .int .i64 node] w (fun e w' => e = .returned (.int .i64 0) ∧ Below w.heap.size w w') := by
  have HV := Lib.hid h
  obtain ⟨A, cap, rfl, hc, hx⟩ := h
  obtain ⟨n, hn⟩ : ∃ n, Hid (n = ms.length) := ⟨_, Lib.hid rfl⟩
  rw [← hn.out] at HV ⊢
  obtain ⟨W, hW⟩ : ∃ W, Hid (W = w.alloc (.cells #[.int .i64 p, .int .i64 c, .int .i64 s, .slice A n cap] 24)) := ⟨_, Lib.hid rfl⟩
  have HB : Hid (Below w.heap.size w W) := Lib.hid (by rw [hW.out]; exact (Below.refl _ _).alloc (Nat.le_refl _) _)
  have HLT : Hid (w.heap.size < W.heap.size) := Lib.hid (by rw [hW.out]; exact (Array.getElem?_eq_some_iff.1 (heap_alloc_new w _)).1)
  have k0 : W.cell? ⟨w.heap.size, 0, none⟩ = some (.int .i64 p) := by rw [hW.out]; exact box_cellR _ _ _ 0
  have k1 : W.cell? ⟨w.heap.size, 1, none⟩ = some (.int .i64 c) := by rw [hW.out]; exact box_cellR _ _ _ 1
  have k2 : W.cell? ⟨w.heap.size, 2, none⟩ = some (.int .i64 s) := by rw [hW.out]; exact box_cellR _ _ _ 2
  have k3 : W.cell? ⟨w.heap.size, 3, none⟩ = some (.slice A n cap) := by rw [hW.out]; exact box_cellR _ _ _ 3
  have HC := Lib.hid (can_any p c s (.slice A n cap) ms W (hT.below HB.out hT.big) h1 h2 (HV.out.below HB.out) hl)
  have HNO := Lib.hid hno
  clear hT h1 h2 hx hno
  go_enter Tryd.func17, Tryd.ntmps17
  go_upto_region 1 with fail
  rw [← hW.out]
  go_wp2_with fail
  (with_reducible refine HC.out.mono ?_); rintro e w1 ⟨b, rfl, hbi, hb1⟩
  cases b with
  | true => exact absurd (hbi.1 rfl) HNO.out
  | false =>
    have HB1 : Hid (Below w.heap.size w w1) := Lib.hid (HB.out.trans (hb1.mono HB.out.size))
    clear hb1 hbi k0 k1 k2 k3
    go_wp2
    go_ret
    exact ⟨rfl, HB1.out⟩

set_option maxRecDepth 100000 in
set_option maxHeartbeats 1600000 in
theorem epoch_yes (p c s : Int) (v : Value) (ms : List MemA) (node : Int) (w : World) (hok : OkR p c s ms) (hn1 : -9223372036854775808 ≤ node) (hn2 : node ≤ 9223372036854775807) (hT : Tabs w) (h1 : -9223372036854775808 ≤ p) (h2 : p ≤ 9223372036854775807) (h : RdM w v ms) (hl : ms.length ≤ 4398046511104) :
    Calls Tryd.prog 17 #[.agg #[.int .i64 p, .int .i64 c, .int .i64 s, v], .int .i64 node] w (fun e w' => e = .returned (.int .i64 (memOf ms node).2.1) ∧ Below w.heap.size w w') := by
  have HV := Lib.hid h
  obtain ⟨A, cap, rfl, hc, hx⟩ := h
  obtain ⟨n, hn⟩ : ∃ n, Hid (n = ms.length) := ⟨_, Lib.hid rfl⟩
  rw [← hn.out] at HV ⊢
  obtain ⟨W, hW⟩ : ∃ W, Hid (W = w.alloc (.cells #[.int .i64 p, .int .i64 c, .int .i64 s, .slice A n cap] 24)) := ⟨_, Lib.hid rfl⟩
  have HB : Hid (Below w.heap.size w W) := Lib.hid (by rw [hW.out]; exact (Below.refl _ _).alloc (Nat.le_refl _) _)
  have HLT : Hid (w.heap.size < W.heap.size) := Lib.hid (by rw [hW.out]; exact (Array.getElem?_eq_some_iff.1 (heap_alloc_new w _)).1)
  have k0 : W.cell? ⟨w.heap.size, 0, none⟩ = some (.int .i64 p) := by rw [hW.out]; exact box_cellR _ _ _ 0
  have k1 : W.cell? ⟨w.heap.size, 1, none⟩ = some (.int .i64 c) := by rw [hW.out]; exact box_cellR _ _ _ 1
  have k2 : W.cell? ⟨w.heap.size, 2, none⟩ = some (.int .i64 s) := by rw [hW.out]; exact box_cellR _ _ _ 2
  have k3 : W.cell? ⟨w.heap.size, 3, none⟩ = some (.slice A n cap) := by rw [hW.out]; exact box_cellR _ _ _ 3
  have HC := Lib.hid (can_any p c s (.slice A n cap) ms W (hT.below HB.out hT.big) h1 h2 (HV.out.below HB.out) hl)
  have HOK := Lib.hid hok
  have HL := Lib.hid hl
  obtain ⟨mm, hmm⟩ : ∃ mm, Hid (mm = memOf ms node) := ⟨_, Lib.hid rfl⟩
  rw [← hmm.out]
  have HR1 : Hid (W.heap[w.heap.size]? = some (.cells #[.int .i64 p, .int .i64 c, .int .i64 s, .slice A n cap] 24 (0, 0))) := Lib.hid (by rw [hW.out]; exact heap_alloc_new w _)
  clear hT h1 h2 hx hok
  go_enter Tryd.func17, Tryd.ntmps17
  go_upto_region 1 with fail
  rw [← hW.out]
  go_wp2_with fail
  (with_reducible refine HC.out.mono ?_); rintro e w1 ⟨b, rfl, hbi, hb1⟩
  cases b with
  | false => exact absurd (hbi.2 HOK.out) (by decide)
  | true =>
    have HB1 : Hid (Below w.heap.size w w1) := Lib.hid (HB.out.trans (hb1.mono HB.out.size))
    have r1 := (hb1.block _ HLT.out).trans HR1.out
    have j0 := cell_of_row w1 _ 0 _ _ (0, 0) r1
    have j1 := cell_of_row w1 _ 1 _ _ (0, 0) r1
    have j2 := cell_of_row w1 _ 2 _ _ (0, 0) r1
    have j3 := cell_of_row w1 _ 3 _ _ (0, 0) r1
    clear hb1 hbi k0 k1 k2 k3 r1
    rw [show canN true = 0 from rfl]
    have HM := Lib.hid (membersOf_any p c s (.slice A n cap) ms w1 HOK.out.2 (HV.out.below HB1.out) HL.out)
    have hkey : keyOf Tryd.prog 3 (.int .i64 node) = some (.int .i64 node) := Maps.keyOf_int_mk Tryd.underlying3 (litWf hn1 hn2)
    have hfield := epochField mm.1 mm.2.1 mm.2.2.1 mm.2.2.2
    have HAT := Lib.hid (mapD_at HOK.out.2 node)
    rw [← hmm.out] at HAT
    go_wp2_with fail
    (with_reducible refine HM.out.mono ?_); rintro e w2 ⟨b2, rfl, hbl, hown, hb2⟩
    have HB2 : Hid (Below w.heap.size w w2) := Lib.hid (HB1.out.trans (hb2.mono HB1.out.size))
    have HO := Lib.hid hown
    clear hown hb2 j0 j1 j2 j3
    go_wp2_with (at_lookup; refine wpList_lookup_own _ rfl _ _ 51 rfl 3 40 lawInt Tryd.underlying51 selfR (zeroMember _) (.held (memV (0, 0, 0, 0))) [] rfl b2 ms.length (mapD ms) rfl HO.out _ _ rfl hkey ?_; intro v ps hv; rw [HAT.out] at hv; have hv2 := selfR_inv hv; unfold memV at hv2; subst hv2; clear hv)
    go_ret
    exact ⟨rfl, HB2.out⟩

theorem memOf_here {ms : List MemA} {k : Nat} {d : MemA} {n : Int} (h : ms[k]? = some d) (hd : d.1 = n) (hb : ∀ (j : Nat) (x : MemA), j < k → ms[j]? = some x → x.1 ≠ n) : memOf ms n = d := by
  unfold memOf lookM
  obtain ⟨hk, he⟩ := List.getElem?_eq_some_iff.1 h
  have : ms.find? (fun m => m.1 == n) = some d := by
    rw [List.find?_eq_some_iff_getElem]
    refine ⟨by simpa using hd, k, hk, he, fun j hj => ?_⟩
    have := hb j _ hj (List.getElem?_eq_getElem (by omega))
    simpa using this
  rw [this]
  rfl
theorem memOf_none {ms : List MemA} {n : Int} (hb : ∀ (j : Nat) (x : MemA), ms[j]? = some x → x.1 ≠ n) : memOf ms n = (0, 0, 0, 0) := by
  unfold memOf lookM
  have : ms.find? (fun m => m.1 == n) = none := List.find?_eq_none.2 fun x hx => by
    obtain ⟨j, hj⟩ := List.mem_iff_getElem?.1 hx
    simpa using hb j x hj
  rw [this]
  rfl
/-- What member answers. -/
def memberV (m : MemA) : Value := .agg #[.int .i64 m.1, .int .i64 m.2.1, .int .i64 m.2.2.1, .int .i64 m.2.2.2]

set_option maxRecDepth 100000 in
set_option maxHeartbeats 3200000 in
theorem refMember_any (p c s : Int) (v : Value) (ms : List MemA) (node : Int) (w : World) (h : RdM w v ms) (hl : ms.length ≤ 4398046511104) :
    Calls Tryd.prog 38 #[.agg #[.int .i64 p, .int .i64 c, .int .i64 s, v], .int .i64 node] w (fun e w' => e = .returned (memberV (memOf ms node)) ∧ Below w.heap.size w w') := by
  obtain ⟨A, cap, rfl, hc, hx⟩ := h
  obtain ⟨n, hn⟩ : ∃ n, Hid (n = ms.length) := ⟨_, Lib.hid rfl⟩
  rw [← hn.out] at hc hl ⊢
  have HX := Lib.hid hx
  obtain ⟨mm, hmm⟩ : ∃ mm, Hid (mm = memOf ms node) := ⟨_, Lib.hid rfl⟩
  rw [← hmm.out]
  obtain ⟨W, hW⟩ : ∃ W, Hid (W = (w.alloc (.cells #[.int .i64 p, .int .i64 c, .int .i64 s, .slice A n cap] 24)).alloc (.cells #[.int .i64 0, .int .i64 0, .int .i64 0, .int .i64 0] 40)) := ⟨_, Lib.hid rfl⟩
  have HB : Hid (Below w.heap.size w W) := Lib.hid (by rw [hW.out]; exact below_allocR (below_allocR (Below.refl _ _)))
  have HZ : Hid (W.heap.size = w.heap.size + 2) := Lib.hid (by rw [hW.out]; simp)
  have k3 : W.cell? ⟨w.heap.size, 3, none⟩ = some (.slice A n cap) := by rw [hW.out]; exact cell_upR _ (box_cellR _ _ _ 3)
  have hrow1 : W.heap[w.heap.size + 1]? = some (.cells #[.int .i64 0, .int .i64 0, .int .i64 0, .int .i64 0] 40 (0, 0)) := by
    have := heap_alloc_new (w.alloc (.cells #[.int .i64 p, .int .i64 c, .int .i64 s, .slice A n cap] 24)) (.cells #[.int .i64 0, .int .i64 0, .int .i64 0, .int .i64 0] 40)
    rw [← hW.out, show (w.alloc (.cells #[.int .i64 p, .int .i64 c, .int .i64 s, .slice A n cap] 24)).heap.size = w.heap.size + 1 by simp] at this
    exact this
  have HROW := Lib.hid hrow1
  have K3 := Lib.hid k3
  have HLT : Hid (w.heap.size + 1 < W.heap.size) := Lib.hid (by have := HZ.out; omega)
  have HLS : Hid (w.heap.size ≤ W.heap.size) := Lib.hid (by have := HZ.out; omega)
  clear hx hrow1 k3
  go_enter Tryd.func38, Tryd.ntmps38
  go_upto_region 1 with fail
  rw [← hW.out]
  go_wp2
  go_loopw [5] (fun i wr => ∃ k : Nat, k ≤ n ∧ i = .int .i64 k ∧ Hid (∀ (j : Nat) (x : MemA), j < k → ms[j]? = some x → x.1 ≠ node) ∧ Below W.heap.size W wr) (fun i _ => n - (intOf i).toNat)
  case atStart => exact ⟨0, Nat.zero_le _, rfl, Lib.hid (fun j x hj => absurd hj (Nat.not_lt_zero _)), Below.refl _ _⟩
  case round =>
    obtain ⟨k, hk, rfl, HM, hb⟩ := hrel
    have HBR : Hid (Below w.heap.size w wr) := Lib.hid (HB.out.trans (hb.mono HLS.out))
    have HBW := Lib.hid hb
    have hbs := hb.size
    have c3 : wr.cell? ⟨w.heap.size, 3, none⟩ = some (.slice A n cap) := (hb.cell (p := ⟨w.heap.size, 3, none⟩) (show w.heap.size < W.heap.size by have := HLT.out; omega)).trans K3.out
    have r1 := (hb.block _ HLT.out).trans HROW.out
    have R1 := Lib.hid r1
    have f0 := frozen_of_row wr _ 0 _ _ r1
    have f1 := frozen_of_row wr _ 1 _ _ r1
    have f2 := frozen_of_row wr _ 2 _ _ r1
    have f3 := frozen_of_row wr _ 3 _ _ r1
    have m0 := cell_of_row wr _ 0 _ _ (0, 0) r1
    have m1 := cell_of_row wr _ 1 _ _ (0, 0) r1
    have m2 := cell_of_row wr _ 2 _ _ (0, 0) r1
    have m3 := cell_of_row wr _ 3 _ _ (0, 0) r1
    clear r1 hb
    by_cases hlt : k < n
    · obtain ⟨d, hd⟩ : ∃ d, ms[k]? = some d := ⟨ms[k]'(by have := hn.out; omega), List.getElem?_eq_getElem _⟩
      obtain ⟨ad, rfl, hadlt, hda⟩ := HX.out k d hd
      obtain ⟨d0, d1, d2, d3⟩ := hda.below HBR.out (show (ad.add (k * 4)).block < w.heap.size by rw [add_block]; exact hadlt)
      have HD := Lib.hid hd
      clear hd hda
      by_cases heq : d.1 = node
      · have t1 : (d.1 == node) = true := by simpa using heq
        have HE : Hid (mm = d) := Lib.hid (by rw [hmm.out]; exact memOf_here HD.out heq HM.out)
        clear heq
        go_wp2
        have hr := set4 R1.out (.int .i64 d.1) (.int .i64 d.2.1) (.int .i64 d.2.2.1) (.int .i64 d.2.2.2)
        have p0 := cell_of_row _ _ 0 _ _ (0, 0) hr
        have p1 := cell_of_row _ _ 1 _ _ (0, 0) hr
        have p2 := cell_of_row _ _ 2 _ _ (0, 0) hr
        have p3 := cell_of_row _ _ 3 _ _ (0, 0) hr
        refine bodyPost_ret (v := memberV d) (by simp [memberV, results, Tryd.results38, go_sem, p0, p1, p2, p3]) rfl ⟨by rw [HE.out], ?_⟩
        exact below_set4 HBR.out (by omega) _ _ _ _
      · have t1 : (d.1 == node) = false := by simpa using heq
        have HN : Hid (∀ (j : Nat) (x : MemA), j < k + 1 → ms[j]? = some x → x.1 ≠ node) := Lib.hid (fun j x hj hx => by
          by_cases hjk : j = k
          · subst hjk; rw [HD.out] at hx; injection hx with hx; rw [← hx]; exact heq
          · exact HM.out j x (by omega) hx)
        clear heq
        go_wp2
        go_roundw
        case rel => exact ⟨k + 1, by omega, by go_num, HN, HBW.out⟩
        case measure => simp [intOf]; omega
    · have hkn : k = n := by omega
      have HE : Hid (mm = (0, 0, 0, 0)) := Lib.hid (by
        rw [hmm.out]
        exact memOf_none fun j x hj => HM.out j x (by have := (List.getElem?_eq_some_iff.1 hj).1; have := hn.out; omega) hj)
      clear hkn
      go_wp2
      have hr := set4 R1.out (.int .i64 0) (.int .i64 0) (.int .i64 0) (.int .i64 0)
      have p0 := cell_of_row _ _ 0 _ _ (0, 0) hr
      have p1 := cell_of_row _ _ 1 _ _ (0, 0) hr
      have p2 := cell_of_row _ _ 2 _ _ (0, 0) hr
      have p3 := cell_of_row _ _ 3 _ _ (0, 0) hr
      refine bodyPost_ret (v := memberV (0, 0, 0, 0)) (by simp [memberV, results, Tryd.results38, go_sem, p0, p1, p2, p3]) rfl ⟨by rw [HE.out], ?_⟩
      exact below_set4 HBR.out (by omega) _ _ _ _

set_option maxRecDepth 100000 in
set_option maxHeartbeats 1600000 in
theorem refEpoch_no (p c s : Int) (v : Value) (ms : List MemA) (node : Int) (w : World) (hno : ¬ OkR p c s ms) (h : RdM w v ms) (hl : ms.length ≤ 4398046511104) :
    Calls Tryd.prog 18 #[.agg #[.int .i64 p, .int .i64 c, .int .i64 s, v], .int .i64 node] w (fun e w' => e = .returned (.int .i64 0) ∧ Below w.heap.size w w') := by
  have HV := Lib.hid h
  obtain ⟨A, cap, rfl, hc, hx⟩ := h
  obtain ⟨n, hn⟩ : ∃ n, Hid (n = ms.length) := ⟨_, Lib.hid rfl⟩
  rw [← hn.out] at HV ⊢
  obtain ⟨W, hW⟩ : ∃ W, Hid (W = w.alloc (.cells #[.int .i64 p, .int .i64 c, .int .i64 s, .slice A n cap] 24)) := ⟨_, Lib.hid rfl⟩
  have HB : Hid (Below w.heap.size w W) := Lib.hid (by rw [hW.out]; exact (Below.refl _ _).alloc (Nat.le_refl _) _)
  have HLT : Hid (w.heap.size < W.heap.size) := Lib.hid (by rw [hW.out]; exact (Array.getElem?_eq_some_iff.1 (heap_alloc_new w _)).1)
  have k0 : W.cell? ⟨w.heap.size, 0, none⟩ = some (.int .i64 p) := by rw [hW.out]; exact box_cellR _ _ _ 0
  have k1 : W.cell? ⟨w.heap.size, 1, none⟩ = some (.int .i64 c) := by rw [hW.out]; exact box_cellR _ _ _ 1
  have k2 : W.cell? ⟨w.heap.size, 2, none⟩ = some (.int .i64 s) := by rw [hW.out]; exact box_cellR _ _ _ 2
  have k3 : W.cell? ⟨w.heap.size, 3, none⟩ = some (.slice A n cap) := by rw [hW.out]; exact box_cellR _ _ _ 3
  have HC := Lib.hid (refCan_any p c s (.slice A n cap) ms W (HV.out.below HB.out) hl)
  have HNO := Lib.hid hno
  clear hx hno
  go_enter Tryd.func18, Tryd.ntmps18
  go_upto_region 1 with fail
  rw [← hW.out]
  go_wp2_with fail
  (with_reducible refine HC.out.mono ?_); rintro e w1 ⟨b, rfl, hbi, hb1⟩
  cases b with
  | true => exact absurd (hbi.1 rfl) HNO.out
  | false =>
    have HB1 : Hid (Below w.heap.size w w1) := Lib.hid (HB.out.trans (hb1.mono HB.out.size))
    clear hb1 hbi k0 k1 k2 k3
    go_wp2
    go_ret
    exact ⟨rfl, HB1.out⟩

set_option maxRecDepth 100000 in
set_option maxHeartbeats 1600000 in
theorem refEpoch_yes (p c s : Int) (v : Value) (ms : List MemA) (node : Int) (w : World) (hok : OkR p c s ms) (h : RdM w v ms) (hl : ms.length ≤ 4398046511104) :
    Calls Tryd.prog 18 #[.agg #[.int .i64 p, .int .i64 c, .int .i64 s, v], .int .i64 node] w (fun e w' => e = .returned (.int .i64 (memOf ms node).2.1) ∧ Below w.heap.size w w') := by
  have HV := Lib.hid h
  obtain ⟨A, cap, rfl, hc, hx⟩ := h
  obtain ⟨n, hn⟩ : ∃ n, Hid (n = ms.length) := ⟨_, Lib.hid rfl⟩
  rw [← hn.out] at HV ⊢
  obtain ⟨W, hW⟩ : ∃ W, Hid (W = w.alloc (.cells #[.int .i64 p, .int .i64 c, .int .i64 s, .slice A n cap] 24)) := ⟨_, Lib.hid rfl⟩
  have HB : Hid (Below w.heap.size w W) := Lib.hid (by rw [hW.out]; exact (Below.refl _ _).alloc (Nat.le_refl _) _)
  have HLT : Hid (w.heap.size < W.heap.size) := Lib.hid (by rw [hW.out]; exact (Array.getElem?_eq_some_iff.1 (heap_alloc_new w _)).1)
  have k0 : W.cell? ⟨w.heap.size, 0, none⟩ = some (.int .i64 p) := by rw [hW.out]; exact box_cellR _ _ _ 0
  have k1 : W.cell? ⟨w.heap.size, 1, none⟩ = some (.int .i64 c) := by rw [hW.out]; exact box_cellR _ _ _ 1
  have k2 : W.cell? ⟨w.heap.size, 2, none⟩ = some (.int .i64 s) := by rw [hW.out]; exact box_cellR _ _ _ 2
  have k3 : W.cell? ⟨w.heap.size, 3, none⟩ = some (.slice A n cap) := by rw [hW.out]; exact box_cellR _ _ _ 3
  have HC := Lib.hid (refCan_any p c s (.slice A n cap) ms W (HV.out.below HB.out) hl)
  have HOK := Lib.hid hok
  have HL := Lib.hid hl
  obtain ⟨mm, hmm⟩ : ∃ mm, Hid (mm = memOf ms node) := ⟨_, Lib.hid rfl⟩
  rw [← hmm.out]
  have HR1 : Hid (W.heap[w.heap.size]? = some (.cells #[.int .i64 p, .int .i64 c, .int .i64 s, .slice A n cap] 24 (0, 0))) := Lib.hid (by rw [hW.out]; exact heap_alloc_new w _)
  clear hx hok
  go_enter Tryd.func18, Tryd.ntmps18
  go_upto_region 1 with fail
  rw [← hW.out]
  go_wp2_with fail
  (with_reducible refine HC.out.mono ?_); rintro e w1 ⟨b, rfl, hbi, hb1⟩
  cases b with
  | false => exact absurd (hbi.2 HOK.out) (by decide)
  | true =>
    have HB1 : Hid (Below w.heap.size w w1) := Lib.hid (HB.out.trans (hb1.mono HB.out.size))
    have r1 := (hb1.block _ HLT.out).trans HR1.out
    have j0 := cell_of_row w1 _ 0 _ _ (0, 0) r1
    have j1 := cell_of_row w1 _ 1 _ _ (0, 0) r1
    have j2 := cell_of_row w1 _ 2 _ _ (0, 0) r1
    have j3 := cell_of_row w1 _ 3 _ _ (0, 0) r1
    clear hb1 hbi k0 k1 k2 k3 r1
    rw [show canN true = 0 from rfl]
    have HM := Lib.hid (refMember_any p c s (.slice A n cap) ms node w1 (HV.out.below HB1.out) HL.out)
    rw [← hmm.out] at HM
    unfold memberV at HM
    have hfield := epochField mm.1 mm.2.1 mm.2.2.1 mm.2.2.2
    go_wp2_with fail
    (with_reducible refine HM.out.mono ?_); rintro e w2 ⟨rfl, hb2⟩
    have HB2 : Hid (Below w.heap.size w w2) := Lib.hid (HB1.out.trans (hb2.mono HB1.out.size))
    clear hb2 j0 j1 j2 j3
    go_wp2
    go_ret
    exact ⟨rfl, HB2.out⟩

end Go.Proofs.YtmgobekdlgogmaaDoor
