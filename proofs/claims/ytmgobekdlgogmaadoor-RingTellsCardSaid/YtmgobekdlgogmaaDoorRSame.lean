/- Two rings are the same: the document's, and slices.Equal at members. -/
import Derived.Test.YtmgobekdlgogmaaDoorRCopied
import Derived.Laws.StructEq
namespace Go.Proofs.YtmgobekdlgogmaaDoor
open Go.RowKit Go.Sort Go.BigFrame
open Go.Lib (byteCells byteCells_length)

theorem neMember (a b : MemA) (w : World) : (binOp .neq 40 (.agg #[.int .i64 a.1, .int .i64 a.2.1, .int .i64 a.2.2.1, .int .i64 a.2.2.2]) (.agg #[.int .i64 b.1, .int .i64 b.2.1, .int .i64 b.2.2.1, .int .i64 b.2.2.2])).run Tryd.prog w = .ok (.bool (!decide (a = b))) w := by
  have u3 := Tryd.underlying3
  have a3 := Tryd.isAgg3
  have z3 := Tryd.sizeOf3
  have hS : Tryd.prog.underlying 40 = some (.struct (Tryd.prog.fieldsOf 40)) := by kernel_rfl
  have hp : Tryd.prog.stoodInHeld 40 = false := by kernel_rfl
  obtain ⟨a1, a2, a4, a5⟩ := a
  obtain ⟨b1, b2, b4, b5⟩ := b
  rw [run_neq_struct, show (10000 : Nat) = 9999 + 1 from rfl, run_equalIn_agg w 9999 40 _ _ hS hp]
  simp only [Program.fieldsOf, Tryd.underlying40]
  go_simp
  by_cases h1 : a1 = b1 <;> by_cases h2 : a2 = b2 <;> by_cases h3 : a4 = b4 <;> by_cases h4 : a5 = b5 <;> simp [h1, h2, h3, h4]

set_option maxRecDepth 100000 in
set_option maxHeartbeats 3200000 in
theorem refSame_any (p c s p1 c1 s1 : Int) (v v1 : Value) (ds es : List MemA) (w : World) (h : RdM w v ds) (h1 : RdM w v1 es) (hl : ds.length ≤ 4398046511104) :
    Calls Tryd.prog 10 #[.agg #[.int .i64 p, .int .i64 c, .int .i64 s, v], .agg #[.int .i64 p1, .int .i64 c1, .int .i64 s1, v1]] w (TellsR (p = p1 ∧ c = c1 ∧ s = s1 ∧ ds = es) w) := by
  obtain ⟨A, cap, rfl, hc, hx⟩ := h
  obtain ⟨A1, cap1, rfl, hc1, hx1⟩ := h1
  obtain ⟨n, hn⟩ : ∃ n, Hid (n = ds.length) := ⟨_, Lib.hid rfl⟩
  obtain ⟨n1, hn1⟩ : ∃ n1, Hid (n1 = es.length) := ⟨_, Lib.hid rfl⟩
  rw [← hn.out] at hl hc ⊢
  rw [← hn1.out] at hc1 ⊢
  have HX := Lib.hid hx
  have HX1 := Lib.hid hx1
  obtain ⟨W, hW⟩ : ∃ W, Hid (W = (w.alloc (.cells #[.int .i64 p, .int .i64 c, .int .i64 s, .slice A n cap] 24)).alloc (.cells #[.int .i64 p1, .int .i64 c1, .int .i64 s1, .slice A1 n1 cap1] 24)) := ⟨_, Lib.hid rfl⟩
  have HB : Hid (Below w.heap.size w W) := Lib.hid (by rw [hW.out]; exact below_allocR (below_allocR (Below.refl _ _)))
  have hz : W.heap.size = w.heap.size + 2 := by rw [hW.out]; simp
  have hrow0 : W.heap[w.heap.size]? = some (.cells #[.int .i64 p, .int .i64 c, .int .i64 s, .slice A n cap] 24 (0, 0)) := by
    rw [hW.out]
    exact (Below.heap_alloc _ _ _ (Array.getElem?_eq_some_iff.1 (heap_alloc_new w _)).1).trans (heap_alloc_new w _)
  have hrow1 : W.heap[w.heap.size + 1]? = some (.cells #[.int .i64 p1, .int .i64 c1, .int .i64 s1, .slice A1 n1 cap1] 24 (0, 0)) := by
    have := heap_alloc_new (w.alloc (.cells #[.int .i64 p, .int .i64 c, .int .i64 s, .slice A n cap] 24)) (.cells #[.int .i64 p1, .int .i64 c1, .int .i64 s1, .slice A1 n1 cap1] 24)
    rw [← hW.out, show (w.alloc (.cells #[.int .i64 p, .int .i64 c, .int .i64 s, .slice A n cap] 24)).heap.size = w.heap.size + 1 by simp] at this
    exact this
  have k0 := cell_of_row _ _ 0 _ _ (0, 0) hrow0
  have k1 := cell_of_row _ _ 1 _ _ (0, 0) hrow0
  have k2 := cell_of_row _ _ 2 _ _ (0, 0) hrow0
  have k3 := cell_of_row _ _ 3 _ _ (0, 0) hrow0
  have m0 := cell_of_row _ _ 0 _ _ (0, 0) hrow1
  have m1 := cell_of_row _ _ 1 _ _ (0, 0) hrow1
  have m2 := cell_of_row _ _ 2 _ _ (0, 0) hrow1
  have m3 := cell_of_row _ _ 3 _ _ (0, 0) hrow1
  have K3 := Lib.hid k3
  have M3 := Lib.hid m3
  have HS : Hid (w.heap.size ≤ W.heap.size) := Lib.hid (by omega)
  have HL0 : Hid (w.heap.size < W.heap.size) := Lib.hid (by omega)
  have HL1 : Hid (w.heap.size + 1 < W.heap.size) := Lib.hid (by omega)
  clear hx hx1 hrow0 hrow1 hz
  go_enter Tryd.func10, Tryd.ntmps10
  go_upto_region 1 with fail
  rw [← hW.out]
  by_cases eqp : p = p1
  case neg =>
    have deqp : (p != p1) = true := by simpa using eqp
    have HN : Hid (¬ (p = p1 ∧ c = c1 ∧ s = s1 ∧ ds = es)) := Lib.hid (fun e => eqp e.1)
    clear eqp
    go_wp2
    go_ret
    exact ⟨false, rfl, iff_of_false (fun h => by cases h) HN.out, HB.out⟩
  have deqp : (p != p1) = false := by simp [eqp]
  have Heqp := Lib.hid eqp
  clear eqp
  by_cases eqc : c = c1
  case neg =>
    have deqc : (c != c1) = true := by simpa using eqc
    have HN : Hid (¬ (p = p1 ∧ c = c1 ∧ s = s1 ∧ ds = es)) := Lib.hid (fun e => eqc e.2.1)
    clear eqc
    go_wp2
    go_ret
    exact ⟨false, rfl, iff_of_false (fun h => by cases h) HN.out, HB.out⟩
  have deqc : (c != c1) = false := by simp [eqc]
  have Heqc := Lib.hid eqc
  clear eqc
  by_cases eqs : s = s1
  case neg =>
    have deqs : (s != s1) = true := by simpa using eqs
    have HN : Hid (¬ (p = p1 ∧ c = c1 ∧ s = s1 ∧ ds = es)) := Lib.hid (fun e => eqs e.2.2.1)
    clear eqs
    go_wp2
    go_ret
    exact ⟨false, rfl, iff_of_false (fun h => by cases h) HN.out, HB.out⟩
  have deqs : (s != s1) = false := by simp [eqs]
  have Heqs := Lib.hid eqs
  clear eqs
  by_cases hne : n = n1
  case neg =>
    have dn : ((n : Int) != (n1 : Int)) = true := by simp; omega
    have HN : Hid (¬ (p = p1 ∧ c = c1 ∧ s = s1 ∧ ds = es)) := Lib.hid (fun e => hne (by rw [hn.out, hn1.out, e.2.2.2]))
    clear hne
    go_wp2
    go_ret
    exact ⟨false, rfl, iff_of_false (fun h => by cases h) HN.out, HB.out⟩
  have dn : ((n : Int) != (n1 : Int)) = false := by simp [hne]
  have HNE := Lib.hid hne
  clear hne
  go_wp2
  go_loopw [5] (fun i wr => ∃ k : Nat, k ≤ n ∧ i = .int .i64 k ∧ Hid (∀ (j : Nat) (x : MemA), j < k → ds[j]? = some x → es[j]? = some x) ∧ Below W.heap.size W wr) (fun i _ => n - (intOf i).toNat)
  case atStart => exact ⟨0, Nat.zero_le _, rfl, Lib.hid (fun j x hj => absurd hj (Nat.not_lt_zero _)), Below.refl _ _⟩
  case round =>
    obtain ⟨k, hk, rfl, HO, hb⟩ := hrel
    have HBW : Hid (Below W.heap.size W wr) := Lib.hid hb
    have HBR : Hid (Below w.heap.size w wr) := Lib.hid (HB.out.trans (hb.mono HS.out))
    have c3 : wr.cell? ⟨w.heap.size, 3, none⟩ = some (.slice A n cap) := (hb.cell (p := ⟨w.heap.size, 3, none⟩) HL0.out).trans K3.out
    have c4 : wr.cell? ⟨w.heap.size + 1, 3, none⟩ = some (.slice A1 n1 cap1) := (hb.cell (p := ⟨w.heap.size + 1, 3, none⟩) HL1.out).trans M3.out
    have hxr := HX.out.below HBR.out (Nat.le_refl _)
    have hxr1 := HX1.out.below HBR.out (Nat.le_refl _)
    clear k0 k1 k2 k3 m0 m1 m2 m3 hb
    by_cases hlt : k < n
    · obtain ⟨x, hd⟩ : ∃ x, ds[k]? = some x := ⟨ds[k]'(by have := hn.out; omega), List.getElem?_eq_getElem _⟩
      obtain ⟨y, he⟩ : ∃ y, es[k]? = some y := ⟨es[k]'(by have := hn1.out; have := HNE.out; omega), List.getElem?_eq_getElem _⟩
      obtain ⟨ad, rfl, hadlt, hda⟩ := hxr k x hd
      obtain ⟨ad1, rfl, hadlt1, hda1⟩ := hxr1 k y he
      obtain ⟨p0, p1', p2, p3⟩ := hda
      obtain ⟨j0, j1, j2, j3⟩ := hda1
      have HD := Lib.hid hd
      have HE := Lib.hid he
      have hltn1 : k < n1 := by have := HNE.out; omega
      have hEq := neMember x y
      clear hd he hxr hxr1
      by_cases heq : x = y
      · have HN : Hid (∀ (j : Nat) (z : MemA), j < k + 1 → ds[j]? = some z → es[j]? = some z) := Lib.hid (fun j z hj hz => by
          by_cases hjk : j = k
          · subst hjk; rw [HD.out] at hz; injection hz with hz; rw [← hz, heq]; exact HE.out
          · exact HO.out j z (by omega) hz)
        rw [show (!decide (x = y)) = false by simpa using heq] at hEq
        clear heq
        go_upto_region 6 with fail
        go_quiet (fail)
        go_wp2
        go_roundw
        case rel => exact ⟨k + 1, by omega, by go_num, HN, below_drewM HBW.out _⟩
        case measure => simp [intOf]; omega
      · have HN : Hid (¬ (p = p1 ∧ c = c1 ∧ s = s1 ∧ ds = es)) := Lib.hid (fun e => by
          have h1 := HD.out
          rw [e.2.2.2, HE.out] at h1
          injection h1 with h1
          exact heq h1.symm)
        rw [show (!decide (x = y)) = true by simpa using heq] at hEq
        clear heq
        go_upto_region 6 with fail
        go_quiet (fail)
        go_wp2
        go_ret
        exact ⟨false, rfl, iff_of_false (fun h => by cases h) HN.out, below_drewM HBR.out _⟩
    · have hkn : k = n := by omega
      have HE : Hid (p = p1 ∧ c = c1 ∧ s = s1 ∧ ds = es) := Lib.hid ⟨Heqp.out, Heqc.out, Heqs.out, by
        apply List.ext_getElem?
        intro j
        by_cases hj : j < n
        · obtain ⟨x, hd⟩ : ∃ x, ds[j]? = some x := ⟨ds[j]'(by have := hn.out; omega), List.getElem?_eq_getElem _⟩
          rw [hd, HO.out j x (by omega) hd]
        · rw [List.getElem?_eq_none (by have := hn.out; omega), List.getElem?_eq_none (by have := hn1.out; have := HNE.out; omega)]⟩
      clear hxr hxr1 hkn
      go_wp2
      go_ret
      exact ⟨true, rfl, iff_of_true rfl HE.out, HBR.out⟩
end Go.Proofs.YtmgobekdlgogmaaDoor
