/- CausalJoins, walked. -/
import Derived.Test.YtfplblhmeohhmaaCJoinsP
import Derived.Deep.DeepCutAuto
namespace Go.Proofs.Ytfplblhmeohhmaa
open Go.RowKit Go.Sort Go.BigFrame
open Go.Lib (byteCells byteCells_length)

/-- What two copies leave. -/
def JCut (W : World) (am ad bm bd : List DotA) (s7 s8 : Value) (wx : World) : Prop :=
  ∃ (gx gy : Nat) (A1 A2 A3 A4 : Option Addr) (n1 n2 n3 n4 c1 c2 c3 c4 : Nat), s7 = .pointer (some ⟨gx, 0, none⟩) ∧ s8 = .pointer (some ⟨gy, 0, none⟩) ∧ Hid (BX wx gx (.slice A1 n1 c1) (.slice A2 n2 c2) am ad) ∧ Hid (BX wx gy (.slice A3 n3 c3) (.slice A4 n4 c4) bm bd) ∧ Below W.heap.size W wx

theorem below_undrew {w w' : World} (h : Below w.drew.heap.size w.drew w') : Below w.heap.size w w' := ⟨h.os, h.tape, h.output, h.size, h.block⟩
theorem row_on {w w' : World} {g : Nat} {o : Obj} (h : w.heap[g]? = some o) (hb : Below w.heap.size w w') : w'.heap[g]? = some o ∧ g < w'.heap.size := by
  have hlt := (Array.getElem?_eq_some_iff.1 h).1
  exact ⟨(hb.block g hlt).trans h, Nat.lt_of_lt_of_le hlt hb.size⟩
theorem row_up {w : World} {g : Nat} {o o' : Obj} (h : w.heap[g]? = some o) : (w.alloc o').heap[g]? = some o := (Below.heap_alloc _ _ _ (Array.getElem?_eq_some_iff.1 h).1).trans h
def OX (T : TypeId) (w : World) (v : Value) (ds : List DotA) : Prop := ∃ b, OwnD T w b v ds
theorem OX.of {T : TypeId} {w : World} {b : Nat} {v : Value} {ds : List DotA} (h : OwnD T w b v ds) : OX T w v ds := ⟨b, h⟩
theorem OX.al {T : TypeId} {w : World} {v : Value} {ds : List DotA} {o : Obj} (h : OX T w v ds) : OX T (w.alloc o) v ds := h.elim fun b h => ⟨b, h.below (below_alloc (Below.refl _ _))⟩
theorem OX.dr {T : TypeId} {w : World} {v : Value} {ds : List DotA} (h : OX T w v ds) : OX T w.drew v ds := h.elim fun b h => ⟨b, h⟩
theorem OX.put {T : TypeId} {w : World} {v u : Value} {ds : List DotA} {g i : Nat} (h : OX T w v ds) (ha : Apart g v) : OX T (w.setCell ⟨g, i, none⟩ u) v ds := h.elim fun b h => ⟨b, h.setOther ha u⟩
theorem OX.on {T : TypeId} {w w' : World} {v : Value} {ds : List DotA} (h : OX T w v ds) (hb : Below w.heap.size w w') : OX T w' v ds := h.elim fun b h => ⟨b, h.below hb⟩
theorem rdC_ox {T T1 : TypeId} {w : World} {mv dv : Value} {ms ds : List DotA} (h : OX T w mv ms) (h1 : OX T1 w dv ds) : RdC w (.agg #[mv, dv]) ms ds := h.elim fun _ h => h1.elim fun _ h1 => h.rdC h1
theorem own_al {T : TypeId} {w : World} {base : Nat} {v : Value} {ds : List DotA} {o : Obj} (h : OwnD T w base v ds) : OwnD T (w.alloc o) base v ds := h.below (below_alloc (Below.refl _ _))
theorem own_dr {T : TypeId} {w : World} {base : Nat} {v : Value} {ds : List DotA} (h : OwnD T w base v ds) : OwnD T w.drew base v ds := h
theorem below_set {w w' : World} {g i : Nat} {v : Value} (h : Below w.heap.size w w') (hg : w.heap.size ≤ g) : Below w.heap.size w (w'.setCell ⟨g, i, none⟩ v) := h.setCell hg v
theorem cell_dr {w : World} {a : Addr} {v : Value} (h : w.cell? a = some v) : w.drew.cell? a = some v := h
theorem rowA {w w' : World} {o : Obj} (hb : Below (w.alloc o).heap.size (w.alloc o) w') : w'.heap[w.heap.size]? = some o ∧ w.heap.size < w'.heap.size :=
  ⟨(hb.block _ (by simp)).trans (heap_alloc_new w o), by have := hb.size; simp at this; omega⟩
theorem rowB {w w' : World} {o o' : Obj} (hb : Below ((w.alloc o).alloc o').heap.size ((w.alloc o).alloc o') w') : w'.heap[w.heap.size]? = some o ∧ w.heap.size < w'.heap.size :=
  ⟨(hb.block _ (by simp; omega)).trans ((Below.heap_alloc _ _ _ (by simp)).trans (heap_alloc_new w o)), by have := hb.size; simp at this; omega⟩
theorem rowC {w w' : World} {o o' : Obj} (hb : Below ((w.alloc o).alloc o').heap.size ((w.alloc o).alloc o') w') : w'.heap[w.heap.size + 1]? = some o' ∧ w.heap.size + 1 < w'.heap.size := by
  have := rowA hb
  simpa using this

set_option maxRecDepth 100000 in
set_option maxHeartbeats 102400000 in
theorem joins_walk (va vb : Value) (am ad bm bd : List DotA) (d : DotA) (w : World) (ha : RdC w va am ad) (hb : RdC w vb bm bd) (hl : am.length ≤ 1048576 ∧ ad.length ≤ 1048576 ∧ bm.length ≤ 1048576 ∧ bd.length ≤ 1048576) :
    Calls Try.prog 6 #[va, vb, dotV d] w fun e w' => e = .returned (.bool true) ∧ Below w.heap.size w w' := by
  obtain ⟨l1, l2, l3, l4⟩ := hl
  obtain ⟨va1, va2, rfl, hma, hda⟩ := ha
  obtain ⟨vb1, vb2, rfl, hmb, hdb⟩ := hb
  obtain ⟨W, hW⟩ : ∃ W, Hid (W = ((w.alloc (.cells #[va1, va2] 48)).alloc (.cells #[vb1, vb2] 48)).alloc (.cells #[.int .i64 d.1, .int .i64 d.2.1, .int .i64 d.2.2] 44)) := ⟨_, Lib.hid rfl⟩
  have hb0 : Below w.heap.size w W := by rw [hW.out]; exact below_alloc (below_alloc (below_alloc (Below.refl _ _)))
  have hz : W.heap.size = w.heap.size + 3 := by rw [hW.out]; simp
  have HBa : Hid (BX W w.heap.size va1 va2 am ad) := Lib.hid ⟨by omega, by rw [hW.out]; exact cell_up _ (cell_up _ (box_cell _ _ _ 0)), by rw [hW.out]; exact cell_up _ (cell_up _ (box_cell _ _ _ 1)), ⟨_, _, rfl, hma.below hb0, hda.below hb0⟩⟩
  have HBb : Hid (BX W (w.heap.size + 1) vb1 vb2 bm bd) := Lib.hid ⟨by omega, by
      rw [hW.out]
      refine cell_up _ (box_at _ _ _ 0 ?_)
      simp, by
      rw [hW.out]
      refine cell_up _ (box_at _ _ _ 1 ?_)
      simp, ⟨_, _, rfl, hmb.below hb0, hdb.below hb0⟩⟩
  have HD : Hid (BoxD W (w.heap.size + 1 + 1) d) := Lib.hid (by
    have := boxD ((w.alloc (.cells #[va1, va2] 48)).alloc (.cells #[vb1, vb2] 48)) 44 d
    rw [← hW.out, show ((w.alloc (.cells #[va1, va2] 48)).alloc (.cells #[vb1, vb2] 48)).heap.size = w.heap.size + 1 + 1 by simp] at this
    exact this)
  have hgd : w.heap.size + 1 + 1 < W.heap.size := by omega
  have HBEL := Lib.hid hb0
  obtain ⟨Aa1, ca1, rfl, _, _⟩ := hma
  obtain ⟨Aa2, ca2, rfl, _, _⟩ := hda
  obtain ⟨Ab1, cb1, rfl, _, _⟩ := hmb
  obtain ⟨Ab2, cb2, rfl, _, _⟩ := hdb
  obtain ⟨na1, hna1⟩ : ∃ n, Hid (n = am.length) := ⟨_, Lib.hid rfl⟩
  obtain ⟨na2, hna2⟩ : ∃ n, Hid (n = ad.length) := ⟨_, Lib.hid rfl⟩
  obtain ⟨nb1, hnb1⟩ : ∃ n, Hid (n = bm.length) := ⟨_, Lib.hid rfl⟩
  obtain ⟨nb2, hnb2⟩ : ∃ n, Hid (n = bd.length) := ⟨_, Lib.hid rfl⟩
  have hWe := hW.out.symm
  rw [← hna1.out, ← hna2.out, ← hnb1.out, ← hnb2.out] at hWe ⊢
  rw [← hna1.out, ← hna2.out] at HBa
  rw [← hnb1.out, ← hnb2.out] at HBb
  have HLA := Lib.hid (show am.length ≤ 1099511627776 ∧ ad.length ≤ 1099511627776 from ⟨by omega, by omega⟩)
  have HLB := Lib.hid (show bm.length ≤ 1099511627776 ∧ bd.length ≤ 1099511627776 from ⟨by omega, by omega⟩)
  obtain ⟨gb, hgb⟩ : ∃ g, Hid (g = w.heap.size + 1) := ⟨_, Lib.hid rfl⟩
  obtain ⟨gd, hgdd⟩ : ∃ g, Hid (g = w.heap.size + 1 + 1) := ⟨_, Lib.hid rfl⟩
  rw [← hgb.out] at HBb
  rw [← hgdd.out] at HD
  have HGD : Hid (gd < W.heap.size) := Lib.hid (by rw [hgdd.out]; exact hgd)
  have hga : w.heap.size < W.heap.size := by omega
  have hgbl : gb < W.heap.size := HBb.out.lt
  clear hb0 hz hgd
  go_enter Try.func6, Try.ntmps6
  go_upto_region 1 with fail
  clear hWe
  rw [← hgdd.out, ← hgb.out]
  go_cut [7, 8] (fun s7 s8 wx => JCut W am ad bm bd s7 s8 wx)
  case first =>
    go_region_held3 (fun w' => w'.cell? ⟨w.heap.size, 0, none⟩ = some (.slice Aa1 na1 ca1) ∧ w'.cell? ⟨w.heap.size, 1, none⟩ = some (.slice Aa2 na2 ca2) ∧ w'.cell? ⟨gb, 0, none⟩ = some (.slice Ab1 nb1 cb1) ∧ w'.cell? ⟨gb, 1, none⟩ = some (.slice Ab2 nb2 cb2))
      (refine ⟨?_, ?_, ?_, ?_⟩ <;> (repeat' (first | with_reducible exact HBa.out.c0 | with_reducible exact HBa.out.c1 | with_reducible exact HBb.out.c0 | with_reducible exact HBb.out.c1 | with_reducible refine cell_up _ ?_ | with_reducible refine cell_dr ?_ | with_reducible refine cell_set ?_ ?_ | with_reducible refine cell_on ?_ hbm | with_reducible refine cell_on ?_ hbd | (dsimp only; omega) | omega)))
      (first
        | (go_at_call_of 28 (Value.agg #[.slice Aa1 na1 ca1, .slice Aa2 na2 ca2])
           refine Calls.mono (context_any (.agg #[.slice Aa1 na1 ca1, .slice Aa2 na2 ca2]) am ad _ (HBa.out.rd.below ?_) HLA.out.1 HLA.out.2) ?_
           · (repeat' (first | with_reducible assumption | exact Below.refl _ _ | refine below_alloc ?_ | refine below_drew ?_))
           rintro e w3 ⟨ma, da, rfl, hom, hod, hbm⟩
           have hbM : Below W.heap.size W w3 := by
             refine below_next ?_ hbm
             (repeat' (first | with_reducible assumption | exact Below.refl _ _ | refine below_alloc ?_ | refine below_drew ?_))
           have hsM := hbM.size
           first
             | (with_reducible have hbn := below_undrew hbm)
             | have hbn := hbm
           first
             | (with_reducible have zz := rowB hbn
                obtain ⟨zr, zmpl⟩ := zz
                have HZp := Lib.hid zr
                have zmpa := cell_of_row w3 _ 0 _ _ (0, 0) zr
                have zmpb := cell_of_row w3 _ 1 _ _ (0, 0) zr
                have zmpc := frozen_of_row w3 _ 0 _ _ zr
                have zmpd := frozen_of_row w3 _ 1 _ _ zr
                clear zr
                with_reducible have zz := rowC hbn
                obtain ⟨zr, zmql⟩ := zz
                have HZq := Lib.hid zr
                have zmqa := cell_of_row w3 _ 0 _ _ (0, 0) zr
                have zmqb := cell_of_row w3 _ 1 _ _ (0, 0) zr
                have zmqc := frozen_of_row w3 _ 0 _ _ zr
                have zmqd := frozen_of_row w3 _ 1 _ _ zr
                clear zr)
             | (with_reducible have zz := rowA hbn
                obtain ⟨zr, zmpl⟩ := zz
                have HZp := Lib.hid zr
                have zmpa := cell_of_row w3 _ 0 _ _ (0, 0) zr
                have zmpb := cell_of_row w3 _ 1 _ _ (0, 0) zr
                have zmpc := frozen_of_row w3 _ 0 _ _ zr
                have zmpd := frozen_of_row w3 _ 1 _ _ zr
                clear zr)
             | skip
           obtain ⟨A1, c1, rfl⟩ := ownD_slice hom
           obtain ⟨A2, c2, rfl⟩ := ownD_slice hod
           obtain ⟨N1, hN1⟩ : ∃ N, Hid (N = am.length) := ⟨_, Lib.hid rfl⟩
           obtain ⟨N2, hN2⟩ : ∃ N, Hid (N = ad.length) := ⟨_, Lib.hid rfl⟩
           rw [← hN1.out] at hom ⊢
           rw [← hN2.out] at hod ⊢)
        | (go_at_call_of 28 (Value.agg #[.slice Ab1 nb1 cb1, .slice Ab2 nb2 cb2])
           refine Calls.mono (context_any (.agg #[.slice Ab1 nb1 cb1, .slice Ab2 nb2 cb2]) bm bd _ (HBb.out.rd.below ?_) HLB.out.1 HLB.out.2) ?_
           · (repeat' (first | with_reducible assumption | exact Below.refl _ _ | refine below_alloc ?_ | refine below_drew ?_))
           rintro e w4 ⟨mb, db, rfl, hpm, hpd, hbd⟩
           have hbD : Below W.heap.size W w4 := by
             refine below_next ?_ hbd
             (repeat' (first | with_reducible assumption | exact Below.refl _ _ | refine below_alloc ?_ | refine below_drew ?_))
           have hsD := hbD.size
           first
             | (with_reducible have hbe := below_undrew hbd)
             | have hbe := hbd
           first
             | (with_reducible have zz := row_on HZp.out hbe
                obtain ⟨zr, zcpl⟩ := zz
                have zcpa := cell_of_row w4 _ 0 _ _ (0, 0) zr
                have zcpb := cell_of_row w4 _ 1 _ _ (0, 0) zr
                have zcpc := frozen_of_row w4 _ 0 _ _ zr
                have zcpd := frozen_of_row w4 _ 1 _ _ zr
                clear zr)
             | (with_reducible have zz := row_on (row_up HZp.out) hbe
                obtain ⟨zr, zcpl⟩ := zz
                have zcpa := cell_of_row w4 _ 0 _ _ (0, 0) zr
                have zcpb := cell_of_row w4 _ 1 _ _ (0, 0) zr
                have zcpc := frozen_of_row w4 _ 0 _ _ zr
                have zcpd := frozen_of_row w4 _ 1 _ _ zr
                clear zr)
             | (with_reducible have zz := row_on (row_up (row_up HZp.out)) hbe
                obtain ⟨zr, zcpl⟩ := zz
                have zcpa := cell_of_row w4 _ 0 _ _ (0, 0) zr
                have zcpb := cell_of_row w4 _ 1 _ _ (0, 0) zr
                have zcpc := frozen_of_row w4 _ 0 _ _ zr
                have zcpd := frozen_of_row w4 _ 1 _ _ zr
                clear zr)
             | skip
           first
             | (with_reducible have zz := row_on HZq.out hbe
                obtain ⟨zr, zcql⟩ := zz
                have zcqa := cell_of_row w4 _ 0 _ _ (0, 0) zr
                have zcqb := cell_of_row w4 _ 1 _ _ (0, 0) zr
                have zcqc := frozen_of_row w4 _ 0 _ _ zr
                have zcqd := frozen_of_row w4 _ 1 _ _ zr
                clear zr)
             | (with_reducible have zz := row_on (row_up HZq.out) hbe
                obtain ⟨zr, zcql⟩ := zz
                have zcqa := cell_of_row w4 _ 0 _ _ (0, 0) zr
                have zcqb := cell_of_row w4 _ 1 _ _ (0, 0) zr
                have zcqc := frozen_of_row w4 _ 0 _ _ zr
                have zcqd := frozen_of_row w4 _ 1 _ _ zr
                clear zr)
             | (with_reducible have zz := row_on (row_up (row_up HZq.out)) hbe
                obtain ⟨zr, zcql⟩ := zz
                have zcqa := cell_of_row w4 _ 0 _ _ (0, 0) zr
                have zcqb := cell_of_row w4 _ 1 _ _ (0, 0) zr
                have zcqc := frozen_of_row w4 _ 0 _ _ zr
                have zcqd := frozen_of_row w4 _ 1 _ _ zr
                clear zr)
             | skip
           first
             | (with_reducible have zz := rowB hbe
                obtain ⟨zr, zdpl⟩ := zz
                have zdpa := cell_of_row w4 _ 0 _ _ (0, 0) zr
                have zdpb := cell_of_row w4 _ 1 _ _ (0, 0) zr
                have zdpc := frozen_of_row w4 _ 0 _ _ zr
                have zdpd := frozen_of_row w4 _ 1 _ _ zr
                clear zr
                with_reducible have zz := rowC hbe
                obtain ⟨zr, zdql⟩ := zz
                have zdqa := cell_of_row w4 _ 0 _ _ (0, 0) zr
                have zdqb := cell_of_row w4 _ 1 _ _ (0, 0) zr
                have zdqc := frozen_of_row w4 _ 0 _ _ zr
                have zdqd := frozen_of_row w4 _ 1 _ _ zr
                clear zr)
             | (with_reducible have zz := rowA hbe
                obtain ⟨zr, zdpl⟩ := zz
                have zdpa := cell_of_row w4 _ 0 _ _ (0, 0) zr
                have zdpb := cell_of_row w4 _ 1 _ _ (0, 0) zr
                have zdpc := frozen_of_row w4 _ 0 _ _ zr
                have zdpd := frozen_of_row w4 _ 1 _ _ zr
                clear zr)
             | skip
           obtain ⟨A3, c3, rfl⟩ := ownD_slice hpm
           obtain ⟨A4, c4, rfl⟩ := ownD_slice hpd
           obtain ⟨N3, hN3⟩ : ∃ N, Hid (N = bm.length) := ⟨_, Lib.hid rfl⟩
           obtain ⟨N4, hN4⟩ : ∃ N, Hid (N = bd.length) := ⟨_, Lib.hid rfl⟩
           rw [← hN3.out] at hpm ⊢
           rw [← hN4.out] at hpd ⊢)
        | fail)
    all_goals
      go_wp2_with fail
      go_meet
      have hse := hbe.size
      have hsn := hbn.size
      try simp at hse
      try simp at hsn
      refine ⟨_, _, A1, A2, A3, A4, N1, N2, N3, N4, c1, c2, c3, c4, rfl, rfl, Lib.hid ⟨?_, ?_, ?_, ?_⟩, Lib.hid ⟨?_, ?_, ?_, ?_⟩, ?_⟩
      · first | (simp; done) | (simp; omega)
      · first | (go_simp; done) | simp [*]
      · first | (go_simp; done) | simp [*]
      · refine rdC_ox (T := 55) (T1 := 44) ?_ ?_
        · (repeat' (first | with_reducible exact OX.of hom | with_reducible refine OX.al ?_ | with_reducible refine OX.dr ?_ | with_reducible refine OX.put ?_ ?_ | with_reducible refine OX.on ?_ hbe | (intro g e; have h1 := World.ownsRow.lt hom g e; (try simp at h1); omega)))
        · (repeat' (first | with_reducible exact OX.of hod | with_reducible refine OX.al ?_ | with_reducible refine OX.dr ?_ | with_reducible refine OX.put ?_ ?_ | with_reducible refine OX.on ?_ hbe | (intro g e; have h1 := World.ownsRow.lt hod g e; (try simp at h1); omega)))
      · first | (simp; done) | (simp; omega)
      · first | (go_simp; done) | simp [*]
      · first | (go_simp; done) | simp [*]
      · refine rdC_ox (T := 55) (T1 := 44) ?_ ?_
        · (repeat' (first | with_reducible exact OX.of hpm | with_reducible refine OX.al ?_ | with_reducible refine OX.dr ?_ | with_reducible refine OX.put ?_ ?_ | with_reducible refine OX.on ?_ hbe | (intro g e; have h1 := World.ownsRow.lt hpm g e; (try simp at h1); omega)))
        · (repeat' (first | with_reducible exact OX.of hpd | with_reducible refine OX.al ?_ | with_reducible refine OX.dr ?_ | with_reducible refine OX.put ?_ ?_ | with_reducible refine OX.on ?_ hbe | (intro g e; have h1 := World.ownsRow.lt hpd g e; (try simp at h1); omega)))
      · (repeat' (first | with_reducible exact hbD | with_reducible refine below_alloc ?_ | with_reducible refine below_set ?_ ?_ | omega))
  case rest =>
    obtain ⟨gx, gy, Ax1, Ax2, Ay1, Ay2, nx1, nx2, ny1, ny2, cx1, cx2, cy1, cy2, rfl, rfl, HBx, HBy, hbc⟩ := hcut
    obtain ⟨wq, hwq⟩ : ∃ wq : World, wq = wc := ⟨_, rfl⟩
    subst hwq
    have HBC : Hid (Below wq.heap.size wq wq) := Lib.hid (Below.refl _ _)
    replace HBa := Lib.hid (HBa.out.below hbc)
    replace HBb := Lib.hid (HBb.out.below hbc)
    replace HD := Lib.hid (HD.out.below hbc HGD.out)
    replace HGD := Lib.hid (Nat.lt_of_lt_of_le HGD.out hbc.size)
    replace HBEL := Lib.hid (below_next HBEL.out hbc)
    have H0a := HBa
    have H0b := HBb
    have H0x := HBx
    have H0y := HBy
    clear hbc
    have kx0 := HBx.out.c0
    have kx1 := HBx.out.c1
    have ky0 := HBy.out.c0
    have ky1 := HBy.out.c1
    have HJ := Lib.hid (join_any normSpec (.agg #[.slice Ax1 nx1 cx1, .slice Ax2 nx2 cx2]) (.agg #[.slice Ay1 ny1 cy1, .slice Ay2 ny2 cy2]) am ad bm bd wq HBx.out.rd HBy.out.rd ⟨l1, l2, l3, l4⟩)
    go_wp2_with fail
    (with_reducible refine HJ.out.mono ?_); rintro e wj ⟨jm, jd, Aj, Bj, nj, pj, cj, dj, ej, rfl, hom, hod, hb, hr⟩
    have Rj := Lib.hid hr
    obtain ⟨Wj, hW⟩ : ∃ W, Hid (W = wj.alloc (.cells #[.slice Aj nj cj, .slice Bj pj dj] 48)) := ⟨_, Lib.hid rfl⟩
    have hbb : Below wq.heap.size wq Wj := by rw [hW.out]; exact below_alloc hb
    have HBj : Hid (BX Wj wj.heap.size (.slice Aj nj cj) (.slice Bj pj dj) jm jd) := Lib.hid (by rw [hW.out]; exact BX.made _ hom hod)
    replace HBa := Lib.hid (HBa.out.below hbb)
    replace HBb := Lib.hid (HBb.out.below hbb)
    replace HBx := Lib.hid (HBx.out.below hbb)
    replace HBy := Lib.hid (HBy.out.below hbb)
    replace HD := Lib.hid (HD.out.below hbb HGD.out)
    replace HGD := Lib.hid (Nat.lt_of_lt_of_le HGD.out hbb.size)
    replace HBC := Lib.hid (HBC.out.trans (hbb.mono HBC.out.size))
    have HRj : Hid (Wj.heap[wj.heap.size]? = some (.cells #[.slice Aj nj cj, .slice Bj pj dj] 48 (0, 0))) := Lib.hid (by rw [hW.out]; exact heap_alloc_new wj _)
    have HBj0 : Hid (wj.heap.size < Wj.heap.size) := Lib.hid (by rw [hW.out]; simp)
    have HOj : Hid (OwnD 55 Wj wq.heap.size (.slice Aj nj cj) jm) := Lib.hid (by rw [hW.out]; exact own_al hom)
    have HPj : Hid (OwnD 44 Wj wq.heap.size (.slice Bj pj dj) jd) := Lib.hid (by rw [hW.out]; exact own_al hod)
    have hWe := hW.out.symm
    clear kx0 kx1 ky0 ky1
    clear hom hod hb hr HJ hbb hW
    go_upto_region 3 with fail
    clear hWe
    have ka0 := HBa.out.c0
    have ka1 := HBa.out.c1
    have kb0 := HBb.out.c0
    have kb1 := HBb.out.c1
    have HJ := Lib.hid (join_ref (.agg #[.slice Aa1 na1 ca1, .slice Aa2 na2 ca2]) (.agg #[.slice Ab1 nb1 cb1, .slice Ab2 nb2 cb2]) am ad bm bd Wj HBa.out.rd HBb.out.rd ⟨l1, l2, l3, l4⟩)
    go_wp2_with fail
    (with_reducible refine HJ.out.mono ?_); rintro e wk ⟨km, kd, Ak, Bk, nk, pk, ck, dk, ek, rfl, hom, hod, hb, hr⟩
    have Rk := Lib.hid hr
    obtain ⟨Wk, hW⟩ : ∃ W, Hid (W = wk.alloc (.cells #[.slice Ak nk ck, .slice Bk pk dk] 48)) := ⟨_, Lib.hid rfl⟩
    have hbb : Below Wj.heap.size Wj Wk := by rw [hW.out]; exact below_alloc hb
    have HBk : Hid (BX Wk wk.heap.size (.slice Ak nk ck) (.slice Bk pk dk) km kd) := Lib.hid (by rw [hW.out]; exact BX.made _ hom hod)
    replace HBa := Lib.hid (HBa.out.below hbb)
    replace HBb := Lib.hid (HBb.out.below hbb)
    replace HBx := Lib.hid (HBx.out.below hbb)
    replace HBy := Lib.hid (HBy.out.below hbb)
    replace HBj := Lib.hid (HBj.out.below hbb)
    replace HD := Lib.hid (HD.out.below hbb HGD.out)
    replace HGD := Lib.hid (Nat.lt_of_lt_of_le HGD.out hbb.size)
    replace HBC := Lib.hid (HBC.out.trans (hbb.mono HBC.out.size))
    replace HRj := Lib.hid ((hbb.block wj.heap.size HBj0.out).trans HRj.out)
    replace HBj0 := Lib.hid (Nat.lt_of_lt_of_le HBj0.out hbb.size)
    replace HOj := Lib.hid (HOj.out.below hbb)
    replace HPj := Lib.hid (HPj.out.below hbb)
    have hWe := hW.out.symm
    clear ka0 ka1 kb0 kb1
    clear hom hod hb hr HJ hbb hW
    go_upto_region 4 with fail
    clear hWe
    obtain ⟨rfl, rfl, rfl⟩ := joinRel_eq Rj.out Rk.out
    have kx0 := HBx.out.c0
    have kx1 := HBx.out.c1
    obtain ⟨kd0, kd1, kd2⟩ := HD.out
    have HJ := Lib.hid (add_any (.agg #[.slice Ax1 nx1 cx1, .slice Ax2 nx2 cx2]) am ad d Wk HBx.out.rd ⟨l1, l2⟩)
    go_wp2_with fail
    (with_reducible refine HJ.out.mono ?_); rintro e wm ⟨mm, md, Am, Bm, nm, pm, cm, dm, em, rfl, hom, hod, hb, hr⟩
    have Rm := Lib.hid hr
    obtain ⟨Wm, hW⟩ : ∃ W, Hid (W = wm.alloc (.cells #[.slice Am nm cm, .slice Bm pm dm] 48)) := ⟨_, Lib.hid rfl⟩
    have hbb : Below Wk.heap.size Wk Wm := by rw [hW.out]; exact below_alloc hb
    have HBm : Hid (BX Wm wm.heap.size (.slice Am nm cm) (.slice Bm pm dm) mm md) := Lib.hid (by rw [hW.out]; exact BX.made _ hom hod)
    replace HBa := Lib.hid (HBa.out.below hbb)
    replace HBb := Lib.hid (HBb.out.below hbb)
    replace HBx := Lib.hid (HBx.out.below hbb)
    replace HBy := Lib.hid (HBy.out.below hbb)
    replace HBj := Lib.hid (HBj.out.below hbb)
    replace HBk := Lib.hid (HBk.out.below hbb)
    replace HD := Lib.hid (HD.out.below hbb HGD.out)
    replace HGD := Lib.hid (Nat.lt_of_lt_of_le HGD.out hbb.size)
    replace HBC := Lib.hid (HBC.out.trans (hbb.mono HBC.out.size))
    replace HRj := Lib.hid ((hbb.block wj.heap.size HBj0.out).trans HRj.out)
    replace HBj0 := Lib.hid (Nat.lt_of_lt_of_le HBj0.out hbb.size)
    replace HOj := Lib.hid (HOj.out.below hbb)
    replace HPj := Lib.hid (HPj.out.below hbb)
    have hWe := hW.out.symm
    clear kx0 kx1
    clear kd0 kd1 kd2
    clear hom hod hb hr HJ hbb hW
    go_upto_region 5 with fail
    clear hWe
    have ka0 := HBa.out.c0
    have ka1 := HBa.out.c1
    obtain ⟨kd0, kd1, kd2⟩ := HD.out
    have HJ := Lib.hid (add_ref (.agg #[.slice Aa1 na1 ca1, .slice Aa2 na2 ca2]) am ad d Wm HBa.out.rd ⟨l1, l2⟩)
    go_wp2_with fail
    (with_reducible refine HJ.out.mono ?_); rintro e wn ⟨nm, nd, An, Bn, nn, pn, cn, dn, en, rfl, hom, hod, hb, hr⟩
    have Rn := Lib.hid hr
    obtain ⟨Wn, hW⟩ : ∃ W, Hid (W = wn.alloc (.cells #[.slice An nn cn, .slice Bn pn dn] 48)) := ⟨_, Lib.hid rfl⟩
    have hbb : Below Wm.heap.size Wm Wn := by rw [hW.out]; exact below_alloc hb
    have HBn : Hid (BX Wn wn.heap.size (.slice An nn cn) (.slice Bn pn dn) nm nd) := Lib.hid (by rw [hW.out]; exact BX.made _ hom hod)
    replace HBa := Lib.hid (HBa.out.below hbb)
    replace HBb := Lib.hid (HBb.out.below hbb)
    replace HBx := Lib.hid (HBx.out.below hbb)
    replace HBy := Lib.hid (HBy.out.below hbb)
    replace HBj := Lib.hid (HBj.out.below hbb)
    replace HBk := Lib.hid (HBk.out.below hbb)
    replace HBm := Lib.hid (HBm.out.below hbb)
    replace HD := Lib.hid (HD.out.below hbb HGD.out)
    replace HGD := Lib.hid (Nat.lt_of_lt_of_le HGD.out hbb.size)
    replace HBC := Lib.hid (HBC.out.trans (hbb.mono HBC.out.size))
    replace HRj := Lib.hid ((hbb.block wj.heap.size HBj0.out).trans HRj.out)
    replace HBj0 := Lib.hid (Nat.lt_of_lt_of_le HBj0.out hbb.size)
    replace HOj := Lib.hid (HOj.out.below hbb)
    replace HPj := Lib.hid (HPj.out.below hbb)
    have hWe := hW.out.symm
    clear ka0 ka1
    clear kd0 kd1 kd2
    clear hom hod hb hr HJ hbb hW
    go_upto_region 6 with fail
    clear hWe
    obtain ⟨rfl, rfl, rfl⟩ := addRel_eq Rm.out Rn.out
    have HLJ := Lib.hid (joinRel_short Rj.out)
    have HLM := Lib.hid (addRel_short Rm.out)
    have kj0 := HBj.out.c0
    have kj1 := HBj.out.c1
    have kk0 := HBk.out.c0
    have kk1 := HBk.out.c1
    have HS := Lib.hid (same3_any (.slice Aj nj cj) (.slice Bj pj dj) (.slice Ak nk ck) (.slice Bk pk dk) ej jm jd Wn HBj.out.rd HBk.out.rd (by have := HLJ.out.1; omega) (by have := HLJ.out.2; omega))
    go_wp2_with fail
    (with_reducible refine HS.out.mono ?_); rintro e w11 ⟨rfl, hb⟩
    clear kj0 kj1 kk0 kk1
    replace HBa := Lib.hid (HBa.out.below hb)
    replace HBb := Lib.hid (HBb.out.below hb)
    replace HBx := Lib.hid (HBx.out.below hb)
    replace HBy := Lib.hid (HBy.out.below hb)
    replace HBj := Lib.hid (HBj.out.below hb)
    replace HBk := Lib.hid (HBk.out.below hb)
    replace HBm := Lib.hid (HBm.out.below hb)
    replace HBn := Lib.hid (HBn.out.below hb)
    replace HD := Lib.hid (HD.out.below hb HGD.out)
    replace HGD := Lib.hid (Nat.lt_of_lt_of_le HGD.out hb.size)
    replace HBC := Lib.hid (HBC.out.trans (hb.mono HBC.out.size))
    replace HRj := Lib.hid ((hb.block wj.heap.size HBj0.out).trans HRj.out)
    replace HBj0 := Lib.hid (Nat.lt_of_lt_of_le HBj0.out hb.size)
    replace HOj := Lib.hid (HOj.out.below hb)
    replace HPj := Lib.hid (HPj.out.below hb)
    clear hb HS
    have km0 := HBm.out.c0
    have km1 := HBm.out.c1
    have kn0 := HBn.out.c0
    have kn1 := HBn.out.c1
    have HS := Lib.hid (same3_any (.slice Am nm cm) (.slice Bm pm dm) (.slice An nn cn) (.slice Bn pn dn) em mm md w11 HBm.out.rd HBn.out.rd (by have := HLM.out.1; omega) (by have := HLM.out.2; omega))
    go_wp2_with fail
    (with_reducible refine HS.out.mono ?_); rintro e w12 ⟨rfl, hb⟩
    clear km0 km1 kn0 kn1
    replace HBa := Lib.hid (HBa.out.below hb)
    replace HBb := Lib.hid (HBb.out.below hb)
    replace HBx := Lib.hid (HBx.out.below hb)
    replace HBy := Lib.hid (HBy.out.below hb)
    replace HBj := Lib.hid (HBj.out.below hb)
    replace HBk := Lib.hid (HBk.out.below hb)
    replace HBm := Lib.hid (HBm.out.below hb)
    replace HBn := Lib.hid (HBn.out.below hb)
    replace HD := Lib.hid (HD.out.below hb HGD.out)
    replace HGD := Lib.hid (Nat.lt_of_lt_of_le HGD.out hb.size)
    replace HBC := Lib.hid (HBC.out.trans (hb.mono HBC.out.size))
    replace HRj := Lib.hid ((hb.block wj.heap.size HBj0.out).trans HRj.out)
    replace HBj0 := Lib.hid (Nat.lt_of_lt_of_le HBj0.out hb.size)
    replace HOj := Lib.hid (HOj.out.below hb)
    replace HPj := Lib.hid (HPj.out.below hb)
    clear hb HS
    have kx0 := HBx.out.c0
    have kx1 := HBx.out.c1
    have ka0 := HBa.out.c0
    have ka1 := HBa.out.c1
    have HS := Lib.hid (same_any (.agg #[.slice Ax1 nx1 cx1, .slice Ax2 nx2 cx2]) (.agg #[.slice Aa1 na1 ca1, .slice Aa2 na2 ca2]) am ad am ad w12 HBx.out.rd HBa.out.rd HLA.out.1 HLA.out.2)
    go_wp2_with fail
    (with_reducible refine HS.out.mono ?_); rintro e w13 ⟨b, rfl, hbi, hb⟩
    obtain rfl : b = true := hbi.2 (by simp)
    clear kx0 kx1 ka0 ka1
    replace HBa := Lib.hid (HBa.out.below hb)
    replace HBb := Lib.hid (HBb.out.below hb)
    replace HBx := Lib.hid (HBx.out.below hb)
    replace HBy := Lib.hid (HBy.out.below hb)
    replace HBj := Lib.hid (HBj.out.below hb)
    replace HD := Lib.hid (HD.out.below hb HGD.out)
    replace HGD := Lib.hid (Nat.lt_of_lt_of_le HGD.out hb.size)
    replace HBC := Lib.hid (HBC.out.trans (hb.mono HBC.out.size))
    replace HRj := Lib.hid ((hb.block wj.heap.size HBj0.out).trans HRj.out)
    replace HBj0 := Lib.hid (Nat.lt_of_lt_of_le HBj0.out hb.size)
    replace HOj := Lib.hid (HOj.out.below hb)
    replace HPj := Lib.hid (HPj.out.below hb)
    clear hb hbi HS
    have ky0 := HBy.out.c0
    have ky1 := HBy.out.c1
    have kb0 := HBb.out.c0
    have kb1 := HBb.out.c1
    have HS := Lib.hid (same_any (.agg #[.slice Ay1 ny1 cy1, .slice Ay2 ny2 cy2]) (.agg #[.slice Ab1 nb1 cb1, .slice Ab2 nb2 cb2]) bm bd bm bd w13 HBy.out.rd HBb.out.rd HLB.out.1 HLB.out.2)
    go_wp2_with fail
    (with_reducible refine HS.out.mono ?_); rintro e w14 ⟨b, rfl, hbi, hb⟩
    obtain rfl : b = true := hbi.2 (by simp)
    clear ky0 ky1 kb0 kb1
    replace HBa := Lib.hid (HBa.out.below hb)
    replace HBb := Lib.hid (HBb.out.below hb)
    replace HBx := Lib.hid (HBx.out.below hb)
    replace HBy := Lib.hid (HBy.out.below hb)
    replace HBj := Lib.hid (HBj.out.below hb)
    replace HD := Lib.hid (HD.out.below hb HGD.out)
    replace HGD := Lib.hid (Nat.lt_of_lt_of_le HGD.out hb.size)
    replace HBC := Lib.hid (HBC.out.trans (hb.mono HBC.out.size))
    replace HRj := Lib.hid ((hb.block wj.heap.size HBj0.out).trans HRj.out)
    replace HBj0 := Lib.hid (Nat.lt_of_lt_of_le HBj0.out hb.size)
    replace HOj := Lib.hid (HOj.out.below hb)
    replace HPj := Lib.hid (HPj.out.below hb)
    clear hb hbi HS
    go_upto_region 8 with fail
    go_cut [87] (fun s wx => s = .bool false ∧ Below w14.heap.size w14 wx)
    case first =>
      have la0 := cell_regrown HBa.out.c0
      have la1 := cell_regrown HBa.out.c1
      have lb0 := cell_regrown HBb.out.c0
      have lb1 := cell_regrown HBb.out.c1
      have lx0 := cell_regrown HBx.out.c0
      have lx1 := cell_regrown HBx.out.c1
      have ly0 := cell_regrown HBy.out.c0
      have ly1 := cell_regrown HBy.out.c1
      have HBB : ∀ dq osq, Hid (Below w14.heap.size w14 (grow (redrawn w14 dq) osq)) := fun dq osq => Lib.hid (below_regrown w14 dq osq)
      by_cases hoa : OkC am ad
      · by_cases hob : OkC bm bd
        · have HOA := Lib.hid hoa
          have HOB := Lib.hid hob
          have cA : ∀ d' os', Calls Try.prog 34 #[.agg #[.slice Aa1 na1 ca1, .slice Aa2 na2 ca2]] (grow (redrawn w14 d') os') fun e w'' => e = .returned (.bool true) ∧ ∃ p : Regrown, w'' = grow (redrawn w14 p.d) p.os :=
            fun d' os' => tells_re (by simp [HOA.out]) (can_ref (.agg #[.slice Aa1 na1 ca1, .slice Aa2 na2 ca2]) am ad _ (HBa.out.rd.below (below_regrown w14 d' os')) HLA.out.1 HLA.out.2)
          have cB : ∀ d' os', Calls Try.prog 34 #[.agg #[.slice Ab1 nb1 cb1, .slice Ab2 nb2 cb2]] (grow (redrawn w14 d') os') fun e w'' => e = .returned (.bool true) ∧ ∃ p : Regrown, w'' = grow (redrawn w14 p.d) p.os :=
            fun d' os' => tells_re (by simp [HOB.out]) (can_ref (.agg #[.slice Ab1 nb1 cb1, .slice Ab2 nb2 cb2]) bm bd _ (HBb.out.rd.below (below_regrown w14 d' os')) HLB.out.1 HLB.out.2)
          clear hoa hob
          obtain ⟨b, hb⟩ : ∃ b : Bool, (b = true ↔ LeqC am ad bm bd) := by
            by_cases h : LeqC am ad bm bd
            · exact ⟨true, by simp [h]⟩
            · exact ⟨false, by simp [h]⟩
          have cC : ∀ d' os', Calls Try.prog 35 #[.agg #[.slice Ax1 nx1 cx1, .slice Ax2 nx2 cx2], .agg #[.slice Ay1 ny1 cy1, .slice Ay2 ny2 cy2]] (grow (redrawn w14 d') os') fun e w'' => e = .returned (.bool b) ∧ ∃ p : Regrown, w'' = grow (redrawn w14 p.d) p.os :=
            fun d' os' => tells_re (hb) (leq_any (.agg #[.slice Ax1 nx1 cx1, .slice Ax2 nx2 cx2]) (.agg #[.slice Ay1 ny1 cy1, .slice Ay2 ny2 cy2]) am ad bm bd _ (HBx.out.rd.below (below_regrown w14 d' os')) (HBy.out.rd.below (below_regrown w14 d' os')) HOA.out HOB.out)
          have cD : ∀ d' os', Calls Try.prog 36 #[.agg #[.slice Aa1 na1 ca1, .slice Aa2 na2 ca2], .agg #[.slice Ab1 nb1 cb1, .slice Ab2 nb2 cb2]] (grow (redrawn w14 d') os') fun e w'' => e = .returned (.bool b) ∧ ∃ p : Regrown, w'' = grow (redrawn w14 p.d) p.os :=
            fun d' os' => tells_re (hb) (leq_ref (.agg #[.slice Aa1 na1 ca1, .slice Aa2 na2 ca2]) (.agg #[.slice Ab1 nb1 cb1, .slice Ab2 nb2 cb2]) am ad bm bd _ (HBa.out.rd.below (below_regrown w14 d' os')) (HBb.out.rd.below (below_regrown w14 d' os')) HOA.out HOB.out)
          have q1 : (b != b) = false := by simp
          clear hb
          refine wp_region_quiet_below (by kernel_rfl) (by kernel_rfl) ?_
          repeat (first | go_big_quiet_step (first | with_reducible exact cA _ _ | with_reducible exact cB _ _ | with_reducible exact cC _ _ | with_reducible exact cD _ _) | quiet_step (first | with_reducible exact cA _ _ | with_reducible exact cB _ _ | with_reducible exact cC _ _ | with_reducible exact cD _ _))
          refine wpQuiet_nil ?_
          intro _ hw'
          obtain ⟨⟨dq, osq⟩, hw''⟩ := hw'
          subst hw''
          have HX2 := HBB dq osq
          clear HBB
          go_wp2_with fail
          go_meet
          exact ⟨rfl, HX2.out⟩
        · have HOA := Lib.hid hoa
          have HOB := Lib.hid hob
          have cA : ∀ d' os', Calls Try.prog 34 #[.agg #[.slice Aa1 na1 ca1, .slice Aa2 na2 ca2]] (grow (redrawn w14 d') os') fun e w'' => e = .returned (.bool true) ∧ ∃ p : Regrown, w'' = grow (redrawn w14 p.d) p.os :=
            fun d' os' => tells_re (by simp [HOA.out]) (can_ref (.agg #[.slice Aa1 na1 ca1, .slice Aa2 na2 ca2]) am ad _ (HBa.out.rd.below (below_regrown w14 d' os')) HLA.out.1 HLA.out.2)
          have cB : ∀ d' os', Calls Try.prog 34 #[.agg #[.slice Ab1 nb1 cb1, .slice Ab2 nb2 cb2]] (grow (redrawn w14 d') os') fun e w'' => e = .returned (.bool false) ∧ ∃ p : Regrown, w'' = grow (redrawn w14 p.d) p.os :=
            fun d' os' => tells_re (by simp [HOB.out]) (can_ref (.agg #[.slice Ab1 nb1 cb1, .slice Ab2 nb2 cb2]) bm bd _ (HBb.out.rd.below (below_regrown w14 d' os')) HLB.out.1 HLB.out.2)
          clear hoa hob
          refine wp_region_quiet_below (by kernel_rfl) (by kernel_rfl) ?_
          repeat (first | go_big_quiet_step (first | with_reducible exact cA _ _ | with_reducible exact cB _ _) | quiet_step (first | with_reducible exact cA _ _ | with_reducible exact cB _ _))
          refine wpQuiet_nil ?_
          intro _ hw'
          obtain ⟨⟨dq, osq⟩, hw''⟩ := hw'
          subst hw''
          have HX2 := HBB dq osq
          clear HBB
          go_wp2_with fail
          go_meet
          exact ⟨rfl, HX2.out⟩
      · have HOA := Lib.hid hoa
        have cA : ∀ d' os', Calls Try.prog 34 #[.agg #[.slice Aa1 na1 ca1, .slice Aa2 na2 ca2]] (grow (redrawn w14 d') os') fun e w'' => e = .returned (.bool false) ∧ ∃ p : Regrown, w'' = grow (redrawn w14 p.d) p.os :=
          fun d' os' => tells_re (by simp [HOA.out]) (can_ref (.agg #[.slice Aa1 na1 ca1, .slice Aa2 na2 ca2]) am ad _ (HBa.out.rd.below (below_regrown w14 d' os')) HLA.out.1 HLA.out.2)
        clear hoa
        refine wp_region_quiet_below (by kernel_rfl) (by kernel_rfl) ?_
        repeat (first | go_big_quiet_step (first | with_reducible exact cA _ _) | quiet_step (first | with_reducible exact cA _ _))
        refine wpQuiet_nil ?_
        intro _ hw'
        obtain ⟨⟨dq, osq⟩, hw''⟩ := hw'
        subst hw''
        have HX2 := HBB dq osq
        clear HBB
        go_wp2_with fail
        go_meet
        exact ⟨rfl, HX2.out⟩
    case rest =>
      obtain ⟨rfl, hb⟩ := hcut
      replace HBC := Lib.hid (HBC.out.trans (hb.mono HBC.out.size))
      have HSP : Hid (SP wj.heap.size wq.heap.size wq (.slice Aj nj cj) (.slice Bj pj dj) jm jd wc) := Lib.hid ⟨(hb.block wj.heap.size HBj0.out).trans HRj.out, HOj.out.below hb, HPj.out.below hb, HBC.out⟩
      have hnj : nj = jm.length ∧ nj ≤ 64 := by
        obtain ⟨A', c', e'⟩ := ownD_slice HOj.out
        injection e' with _ e' _
        have := HLJ.out.1
        exact ⟨e', by omega⟩
      have hpj : pj = jd.length ∧ pj ≤ 64 := by
        obtain ⟨A', c', e'⟩ := ownD_slice HPj.out
        injection e' with _ e' _
        have := HLJ.out.2
        exact ⟨e', by omega⟩
      have hnj64 := hnj.2
      have hpj64 := hpj.2
      have HNJ := Lib.hid hnj.1
      have HPJ := Lib.hid hpj.1
      have hq0 := HSP.out.c0
      clear hb hnj hpj
      go_wp2
      clear hq0
      go_loopw [91] (fun i wr => ∃ (k : Nat) (L : List DotA), k ≤ nj ∧ i = .int .i64 k ∧ Hid (L.length = nj) ∧ Hid (SP wj.heap.size wq.heap.size wq (.slice Aj nj cj) (.slice Bj pj dj) L jd wr)) (fun i _ => nj - (intOf i).toNat)
      case atStart => exact ⟨0, jm, Nat.zero_le _, rfl, Lib.hid HNJ.out.symm, HSP⟩
      case round =>
        obtain ⟨k, L, hk, rfl, HL, HS⟩ := hrel
        have q0 := HS.out.c0
        by_cases hlt : k < nj
        · obtain ⟨x, hx⟩ : ∃ x, L[k]? = some x := ⟨L[k]'(by have := HL.out; omega), List.getElem?_eq_getElem _⟩
          obtain ⟨gm, hgm⟩ : ∃ gm, Aj = some ⟨gm, 0, none⟩ := by
            rcases HS.out.om.2 with ⟨_, h0⟩ | ⟨gm, _, _, e', _⟩
            · have := HL.out; omega
            · injection e' with e' _ _
              exact ⟨gm, e'⟩
          subst hgm
          obtain ⟨_, _, c2, _, _, f2⟩ := HS.out.om.cells3 hx
          have HS2 := Lib.hid (HS.out.spoilM (-1) hx)
          have HL2 : Hid ((L.set k (x.1, x.2.1, (-1 : Int))).length = nj) := Lib.hid (by rw [List.length_set]; exact HL.out)
          clear hx
          go_wp2
          go_roundw
          case rel => exact ⟨k + 1, _, by omega, by go_num, HL2, HS2⟩
          case measure => simp [intOf]; omega
        · have q1 := HS.out.c1
          go_wp2
          clear hlt q0 q1
          obtain ⟨wa, hwa⟩ : ∃ wa : World, wa = wr := ⟨_, rfl⟩
          subst hwa
          go_loopw [103] (fun i wr => ∃ (k : Nat) (L2 : List DotA), k ≤ pj ∧ i = .int .i64 k ∧ Hid (L2.length = pj) ∧ Hid (SP wj.heap.size wq.heap.size wq (.slice Aj nj cj) (.slice Bj pj dj) L L2 wr)) (fun i _ => pj - (intOf i).toNat)
          case atStart => exact ⟨0, jd, Nat.zero_le _, rfl, Lib.hid HPJ.out.symm, HS⟩
          case round =>
            obtain ⟨k2, L2, hk2, rfl, HL2, HS2⟩ := hrel
            have q1 := HS2.out.c1
            by_cases hlt2 : k2 < pj
            · obtain ⟨x, hx⟩ : ∃ x, L2[k2]? = some x := ⟨L2[k2]'(by have := HL2.out; omega), List.getElem?_eq_getElem _⟩
              obtain ⟨gm, hgm⟩ : ∃ gm, Bj = some ⟨gm, 0, none⟩ := by
                rcases HS2.out.od.2 with ⟨_, h0⟩ | ⟨gm, _, _, e', _⟩
                · have := HL2.out; omega
                · injection e' with e' _ _
                  exact ⟨gm, e'⟩
              subst hgm
              obtain ⟨_, _, c2, _, _, f2⟩ := HS2.out.od.cells3 hx
              have HS3 := Lib.hid (HS2.out.spoilD (-1) hx)
              have HL3 : Hid ((L2.set k2 (x.1, x.2.1, (-1 : Int))).length = pj) := Lib.hid (by rw [List.length_set]; exact HL2.out)
              clear hx
              go_wp2
              go_roundw
              case rel => exact ⟨k2 + 1, _, by omega, by go_num, HL3, HS3⟩
              case measure => simp [intOf]; omega
            · have HBF := HS2.out.bel
              have HBa := Lib.hid (H0a.out.below HBF)
              have HBb := Lib.hid (H0b.out.below HBF)
              have HBx := Lib.hid (H0x.out.below HBF)
              have HBy := Lib.hid (H0y.out.below HBF)
              have HFIN := Lib.hid (below_next HBEL.out HBF)
              clear q1 HBF
              have kx0 := HBx.out.c0
              have kx1 := HBx.out.c1
              have ka0 := HBa.out.c0
              have ka1 := HBa.out.c1
              have HS := Lib.hid (same_any (.agg #[.slice Ax1 nx1 cx1, .slice Ax2 nx2 cx2]) (.agg #[.slice Aa1 na1 ca1, .slice Aa2 na2 ca2]) am ad am ad wr HBx.out.rd HBa.out.rd HLA.out.1 HLA.out.2)
              go_wp2_with fail
              (with_reducible refine HS.out.mono ?_); rintro e w21 ⟨b, rfl, hbi, hb⟩
              obtain rfl : b = true := hbi.2 (by simp)
              clear kx0 kx1 ka0 ka1
              replace HBy := Lib.hid (HBy.out.below hb)
              replace HBb := Lib.hid (HBb.out.below hb)
              replace HFIN := Lib.hid (below_next HFIN.out hb)
              clear hb hbi HS
              have ky0 := HBy.out.c0
              have ky1 := HBy.out.c1
              have kb0 := HBb.out.c0
              have kb1 := HBb.out.c1
              have HS := Lib.hid (same_any (.agg #[.slice Ay1 ny1 cy1, .slice Ay2 ny2 cy2]) (.agg #[.slice Ab1 nb1 cb1, .slice Ab2 nb2 cb2]) bm bd bm bd w21 HBy.out.rd HBb.out.rd HLB.out.1 HLB.out.2)
              go_wp2_with fail
              (with_reducible refine HS.out.mono ?_); rintro e w22 ⟨b, rfl, hbi, hb⟩
              obtain rfl : b = true := hbi.2 (by simp)
              replace HFIN := Lib.hid (below_next HFIN.out hb)
              clear hb hbi HS
              go_wp2
              go_ret
              exact ⟨rfl, HFIN.out⟩
end Go.Proofs.Ytfplblhmeohhmaa
