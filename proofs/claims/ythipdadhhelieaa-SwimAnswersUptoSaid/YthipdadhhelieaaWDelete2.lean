/- slices.DeleteFunc where just the first one goes: its walk. -/
import Derived.Test.YthipdadhhelieaaWDelete
namespace Go.Proofs.Ythipdadhhelieaa
open Go.RowKit Go.Sort Go.BigFrame

/-- The row behind m steps: the others one place ahead. -/
def shL (x : PeerA) (r : List PeerA) (m : Nat) : List PeerA := r.take m ++ (x :: r).drop m
theorem shL_len (x : PeerA) (r : List PeerA) (m : Nat) (h : m ≤ r.length) : (shL x r m).length = r.length + 1 := by
  unfold shL
  rw [List.length_append, List.length_take, List.length_drop, List.length_cons]
  omega
theorem shL_at {x y : PeerA} {r : List PeerA} {m : Nat} (h : r[m]? = some y) : (shL x r m)[m + 1]? = some y := by
  have hm := (List.getElem?_eq_some_iff.1 h).1
  unfold shL
  rw [List.getElem?_append_right (by rw [List.length_take]; omega), List.length_take, List.getElem?_drop, show m + (m + 1 - min m r.length) = m + 1 by omega]
  exact h
theorem shL_here {x : PeerA} {r : List PeerA} {m : Nat} (h : m ≤ r.length) : ∃ z, (shL x r m)[m]? = some z := ⟨(shL x r m)[m]'(by rw [shL_len x r m h]; omega), List.getElem?_eq_getElem _⟩
theorem shL_next {x y : PeerA} {r : List PeerA} {m : Nat} (h : r[m]? = some y) : (shL x r m).set m y = shL x r (m + 1) := by
  have hm := (List.getElem?_eq_some_iff.1 h).1
  apply List.ext_getElem?
  intro j
  by_cases e : j = m
  · subst e
    rw [List.getElem?_set_self (by rw [shL_len x r j (by omega)]; omega)]
    unfold shL
    rw [List.getElem?_append_left (by rw [List.length_take]; omega), List.getElem?_take, if_pos (by omega), h]
  · rw [List.getElem?_set_ne (fun e' => e e'.symm)]
    unfold shL
    by_cases hj : j < m
    · rw [List.getElem?_append_left (by rw [List.length_take]; omega), List.getElem?_append_left (by rw [List.length_take]; omega), List.getElem?_take, List.getElem?_take, if_pos hj, if_pos (by omega)]
    · rw [List.getElem?_append_right (by rw [List.length_take]; omega), List.getElem?_append_right (by rw [List.length_take]; omega), List.length_take, List.length_take, List.getElem?_drop, List.getElem?_drop]
      congr 1
      omega
theorem shL_end (x : PeerA) (r : List PeerA) : (shL x r r.length).take r.length = r := by
  unfold shL
  rw [List.take_append_of_le_length (by rw [List.length_take]; omega), List.take_take, Nat.min_self, List.take_length]

set_option maxRecDepth 100000 in
set_option maxHeartbeats 6400000 in
theorem delete_first (base g n c : Nat) (x : PeerA) (r : List PeerA) (w : World) (ho : OwnD 38 w base (.slice (some ⟨g, 0, none⟩) n c) (x :: r)) (hx : x.1 < 2) (hr : ∀ y ∈ r, 2 ≤ y.1) (hl : r.length ≤ 1048576) :
    Calls Try.prog 32 #[.slice (some ⟨g, 0, none⟩) n c, delV] w fun e w' => ∃ m, e = .returned (.slice (some ⟨g, 0, none⟩) m c) ∧ OwnD 38 w' base (.slice (some ⟨g, 0, none⟩) m c) r ∧ w.grownBy w' (some g) := by
  have hgw := (World.ownsRow.lt ho g rfl).2
  have hnc : n = r.length + 1 ∧ n ≤ c := by
    rcases ho.2 with ⟨e, _⟩ | ⟨g', cap, cur, e, _, _, hc, _⟩
    · cases e
    · injection e with e1 e2 e3
      simp only [List.length_cons] at e2 hc
      omega
  have HN := Lib.hid hnc.1
  have hc := hnc.2
  have hn0 : 0 < n := by omega
  have hln : n ≤ 1048577 := by omega
  have H1 := Lib.hid (indexF_first base g n c x r w ho hx hn0)
  have HO := Lib.hid ho
  have HR := Lib.hid hr
  clear hnc ho hx hr hl
  go_enter Try.func32, Try.ntmps32
  go_wp2_with ((go_at_call 34); (with_reducible refine H1.out.mono ?_); rintro e w1 ⟨rfl, hb1⟩)
  have HB1 := Lib.hid hb1
  have HO1 : Hid (OwnD 38 w1 base (.slice (some ⟨g, 0, none⟩) n c) (shL x r 0)) := Lib.hid (HO.out.below hb1)
  have HG1 : Hid (w.grownBy w1 (some g)) := Lib.hid (grown_of_below hb1 _)
  clear hb1
  go_loopw [5, 6] (fun i j wr => ∃ m : Nat, m + 1 ≤ n ∧ i = .int .i64 m ∧ j = .int .i64 ((m : Int) + 1) ∧ Hid (OwnD 38 wr base (.slice (some ⟨g, 0, none⟩) n c) (shL x r m)) ∧ Hid (w.grownBy wr (some g))) (fun i _ _ => n - (intOf i).toNat)
  case atStart => exact ⟨0, by omega, rfl, by first | rfl | go_num, HO1, HG1⟩
  case round =>
    obtain ⟨m, hm, rfl, rfl, HOL, HGR⟩ := hrel
    have e1 : ((m : Int) + 1).toNat = m + 1 := by omega
    have b0 : (0 : Int) ≤ (m : Int) + 1 := by omega
    have b2 : (0 : Int) ≤ (m : Int) := by omega
    have b3 : (m : Int) < (n : Int) := by omega
    have i1 : IntKind.i64.wrap ((m : Int) + 1) = (m : Int) + 1 := IntWalk.i64_in _ (by omega)
    have i2 : IntKind.i64.wrap ((m : Int) + 1 + 1) = (m : Int) + 1 + 1 := IntWalk.i64_in _ (by omega)
    by_cases hlt : m + 1 < n
    · have d1 : decide ((m : Int) + 1 < (n : Int)) = true := by simp; omega
      have b1 : (m : Int) + 1 < (n : Int) := by omega
      obtain ⟨y, hy⟩ : ∃ y, r[m]? = some y := ⟨r[m]'(by have := HN.out; omega), List.getElem?_eq_getElem _⟩
      have HV := Lib.hid (shL_at (x := x) hy)
      obtain ⟨z, hz⟩ := shL_here (x := x) (r := r) (m := m) (by have := HN.out; omega)
      have HZ := Lib.hid hz
      have HNX := Lib.hid (shL_next (x := x) hy)
      have hdel : decide (y.1 < 2) = false := decide_eq_false (by have := HR.out y (List.mem_of_getElem? hy); omega)
      obtain ⟨c0, c1, c2, _⟩ := HOL.out.cells3 HV.out
      obtain ⟨V, hV⟩ : ∃ V, Hid (V = wr.alloc (.cells #[.int .i64 y.1, .int .i64 y.2.1, .int .i64 y.2.2] 38)) := ⟨_, Lib.hid rfl⟩
      have v0 : V.cell? ⟨wr.heap.size, 0, none⟩ = some (.int .i64 y.1) := by rw [hV.out]; exact box_cell _ _ _ 0
      have v1 : V.cell? ⟨wr.heap.size, 1, none⟩ = some (.int .i64 y.2.1) := by rw [hV.out]; exact box_cell _ _ _ 1
      have v2 : V.cell? ⟨wr.heap.size, 2, none⟩ = some (.int .i64 y.2.2) := by rw [hV.out]; exact box_cell _ _ _ 2
      have hbV : Below wr.heap.size wr V := by rw [hV.out]; exact (Below.refl _ _).alloc (Nat.le_refl _) _
      have HBV := Lib.hid hbV
      have hD := del_any y V
      rw [hdel] at hD
      have HD := Lib.hid hD
      have hzV : wr.heap.size < V.heap.size := by rw [hV.out]; exact (Array.getElem?_eq_some_iff.1 (heap_alloc_new wr _)).1
      clear hy hz hdel hbV hD
      go_upto_region 8 with fail
      rw [← hV.out]
      clear c0 c1 c2
      go_upto_region 9 with ((go_at_call 33); (with_reducible refine HD.out.mono ?_); rintro e w4 ⟨rfl, hb4⟩)
      have u0 := (hb4.cell (p := ⟨wr.heap.size, 0, none⟩) hzV).trans v0
      have u1 := (hb4.cell (p := ⟨wr.heap.size, 1, none⟩) hzV).trans v1
      have u2 := (hb4.cell (p := ⟨wr.heap.size, 2, none⟩) hzV).trans v2
      have HB4 : Hid (Below wr.heap.size wr w4) := Lib.hid (HBV.out.trans (hb4.mono HBV.out.size))
      have HO4 := Lib.hid (HOL.out.below HB4.out)
      have HG4 : Hid (w.grownBy w4 (some g)) := Lib.hid (grown_trans HGR.out (grown_of_below HB4.out _))
      obtain ⟨o0, o1, o2, f0, f1, f2⟩ := HO4.out.cells3 HZ.out
      obtain ⟨hO5, hG5⟩ := HO4.out.put y (k := m) (by rw [shL_len x r m (by have := HN.out; omega)]; have := HN.out; omega)
      rw [HNX.out] at hO5
      have HO5 := Lib.hid hO5
      have HG5 := Lib.hid (grown_trans HG4.out hG5)
      clear hb4 v0 v1 v2 hO5 hG5 hzV
      go_wp2
      go_roundw
      case rel => exact ⟨m + 1, by omega, by go_num, by go_num, HO5, HG5⟩
      case measure => simp [intOf]; omega
    · have hend : m + 1 = n := by omega
      have d1 : decide ((m : Int) + 1 < (n : Int)) = false := by simp; omega
      obtain ⟨w', hcl, ho3, hg3⟩ := run_clear_dots Try.underlying31 Try.zeroValue38 wr (c' := c - m) HOL.out (k := m) (by rw [shL_len x r m (by have := HN.out; omega)]; have := HN.out; omega)
      have hmr : m = r.length := by have := HN.out; omega
      have HO3 : Hid (OwnD 38 w' base (.slice (some ⟨g, 0, none⟩) m c) r) := Lib.hid (by
        rw [hmr, shL_end] at ho3
        rw [hmr]; exact ho3)
      have HG3 := Lib.hid (grown_trans HGR.out hg3)
      have hmn : (m : Int) ≤ (n : Int) := by omega
      clear ho3 hg3 hend hmr
      go_wp2
      go_ret
      exact ⟨_, rfl, HO3.out, HG3.out⟩
end Go.Proofs.Ythipdadhhelieaa
