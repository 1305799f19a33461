/- On: the answer to the only open ping, of a node that is known to be alive. -/
import Derived.Test.YthipdadhhelieaaQTake
namespace Go.Proofs.Ythipdadhhelieaa
open Go.RowKit Go.Sort Go.BigFrame

set_option maxRecDepth 100000 in
set_option maxHeartbeats 6400000 in
theorem on_pong (g base : Nat) (hgb : g < base) (t : TabA) (ks : Nat) (hks : ks < 8) (hself : t.self = (ks : Int)) (hkn : t.knows ks = true) (q : Nat) (hq8 : q < 8) (hqs : q ≠ ks) (to r now : Int) (p : PingA) (hp1 : p.1 = (q : Int)) (hp2 : p.2.1 = r) (hnt : t.takes q ((q : Int), 0, 1) = false) (w : World) (h : TabAt w g t) (ho : OwnG w base t.opened [p]) :
    Calls Try.prog 20 #[.pointer (some ⟨g, 0, none⟩), pongV (q : Int) to r, .int .i64 now] w fun e w' => ∃ ov, e = .returned (.tuple #[.slice none 0 0, .slice none 0 0]) ∧ TabAt w' g { t.pass now with opened := ov } ∧ OwnG w' base ov [] ∧ Moves g t.opened.ownBlock w w' := by
  obtain ⟨W, hW⟩ : ∃ W, Hid (W = w.alloc (.cells #[.int .i64 7, .int .i64 (q : Int), .int .i64 to, .int .i64 r, .string .empty, .slice none 0 0, .slice none 0 0, .slice none 0 0, .int .i64 (q : Int), .int .i64 0, .int .i64 (-1), .int .i64 0, .int .i64 0, .int .i64 0, .slice none 0 0, .slice none 0 0, .slice none 0 0] 56)) := ⟨_, Lib.hid rfl⟩
  have hB : Below w.heap.size w W := by rw [hW.out]; exact (Below.refl _ _).alloc (Nat.le_refl _) _
  have hT := h.below hB h.lt
  have hm : W.heap[w.heap.size]? = some (.cells #[.int .i64 7, .int .i64 (q : Int), .int .i64 to, .int .i64 r, .string .empty, .slice none 0 0, .slice none 0 0, .slice none 0 0, .int .i64 (q : Int), .int .i64 0, .int .i64 (-1), .int .i64 0, .int .i64 0, .int .i64 0, .slice none 0 0, .slice none 0 0, .slice none 0 0] 56 (0, 0)) := by rw [hW.out]; exact heap_alloc_new w _
  have H0 : Hid (Calls Try.prog 40 #[.pointer (some ⟨g, 0, none⟩)] W fun e w' => e = .returned (.bool true) ∧ W = w') := Lib.hid (by have := made_any g t ks hks hself W hT; rw [hkn] at this; exact this)
  have H1 := Lib.hid (pass_any g t now W hT)
  have HG := Lib.hid h.lt
  have HNE : Hid (w.heap.size ≠ g) := Lib.hid (by have := h.lt; omega)
  obtain ⟨t1, ht1⟩ : ∃ t1, Hid (t1 = t.pass now) := ⟨_, Lib.hid rfl⟩
  rw [← ht1.out] at H1 ⊢
  have HS1 : Hid (t1.self = (ks : Int)) := Lib.hid (by rw [ht1.out]; exact hself)
  have HNT : Hid (t1.takes q ((q : Int), 0, 1) = false) := Lib.hid (by rw [ht1.out, pass_takes]; exact hnt)
  have HOP : Hid (t1.opened = t.opened) := Lib.hid (by rw [ht1.out]; rfl)
  have HOW : Hid (OwnG W base t1.opened [p]) := Lib.hid (by rw [HOP.out]; exact row_below ho hB)
  have HB := Lib.hid hB
  have HM := Lib.hid hm
  have HISN : ∀ U, Calls Try.prog 38 #[.int .i64 (q : Int)] U fun e w' => e = .returned (.bool true) ∧ w' = U := fun U => (isNode_any (q : Int) U).mono fun e w' hp => ⟨by rw [hp.1]; unfold isNodeB; simp; omega, hp.2.symm⟩
  have HIN := Lib.hid HISN
  have HHN := fun U (hU : TabAt U g t1) => Lib.hid (hear_not g t1 q hq8 ((q : Int), 0, 1) rfl HNT.out U hU)
  have HTH := fun U (hU : TabAt U g t1) (hO : OwnG U base t1.opened [p]) => Lib.hid (take_hit g base hgb t1 p (q : Int) r to hp1 hp2 U hU hO)
  have dqs : ((q : Int) == (ks : Int)) = false := by simp; omega
  clear h ho hB hT hm hself hkn hnt HISN hp1 hp2 hqs
  go_enter Try.func20, Try.ntmps20
  go_upto_region 1 with fail
  rw [← hW.out]
  go_upto_region 4 with (first
    | (go_at_call 40
       (with_reducible refine H0.out.mono ?_); rintro e w1 ⟨rfl, rfl⟩)
    | (go_at_call 41
       (with_reducible refine H1.out.mono ?_); rintro e w2 ⟨rfl, hx2, hg2⟩
       have HT2 := Lib.hid hx2
       have HG2 : Hid (Turns g w.heap.size w w2) := Lib.hid ((Turns.of HB.out).trans (hg2.mono HB.out.size))
       have HM2 : Hid (w2.heap[w.heap.size]? = some (.cells #[.int .i64 7, .int .i64 (q : Int), .int .i64 to, .int .i64 r, .string .empty, .slice none 0 0, .slice none 0 0, .slice none 0 0, .int .i64 (q : Int), .int .i64 0, .int .i64 (-1), .int .i64 0, .int .i64 0, .int .i64 0, .slice none 0 0, .slice none 0 0, .slice none 0 0] 56 (0, 0))) := Lib.hid ((hg2.block _ (Array.getElem?_eq_some_iff.1 HM.out).1 HNE.out).trans HM.out)
       have HO2 : Hid (OwnG w2 base t1.opened [p]) := Lib.hid (row_turn HOW.out hg2 hgb)
       clear hx2 hg2))
  have x0 : w2.cell? ⟨w.heap.size, 0, none⟩ = some (.int .i64 7) := cell_of_row _ _ 0 _ _ (0, 0) HM2.out
  have x1 : w2.cell? ⟨w.heap.size, 1, none⟩ = some (.int .i64 (q : Int)) := cell_of_row _ _ 1 _ _ (0, 0) HM2.out
  have x2 : w2.cell? ⟨g, 0, none⟩ = some (.int .i64 (ks : Int)) := by rw [← HS1.out]; exact HT2.out.cell 0
  go_quiet ((go_at_call 38; (with_reducible refine Calls.quiet_of_same (HIN.out _))))
  obtain ⟨V, hV⟩ : ∃ V, Hid (V = w2.drewN nq) := ⟨_, Lib.hid rfl⟩
  rw [← hV.out]
  have HBV : Hid (Below w2.heap.size w2 V) := Lib.hid (by rw [hV.out]; exact below_drewN (Below.refl _ _) nq)
  have HTV := Lib.hid (HT2.out.below HBV.out HT2.out.lt)
  have v1 : V.cell? ⟨w.heap.size, 1, none⟩ = some (.int .i64 (q : Int)) := by rw [hV.out]; exact x1
  clear x0 x1 x2
  have HH := HHN V HTV.out
  go_upto_region 7 with (first
            | (go_at_call 42
               (with_reducible refine HH.out.mono ?_); rintro e w3 ⟨rfl, hb3⟩
               have hb23 := HBV.out.trans (hb3.mono HBV.out.size)
               have hm3 := (hb23.block _ (Array.getElem?_eq_some_iff.1 HM2.out).1).trans HM2.out
               have y0 : w3.cell? ⟨w.heap.size, 0, none⟩ = some (.int .i64 7) := cell_of_row _ _ 0 _ _ (0, 0) hm3
               have y1 : w3.cell? ⟨w.heap.size, 1, none⟩ = some (.int .i64 (q : Int)) := cell_of_row _ _ 1 _ _ (0, 0) hm3
               have y2 : w3.cell? ⟨w.heap.size, 2, none⟩ = some (.int .i64 to) := cell_of_row _ _ 2 _ _ (0, 0) hm3
               have y3 : w3.cell? ⟨w.heap.size, 3, none⟩ = some (.int .i64 r) := cell_of_row _ _ 3 _ _ (0, 0) hm3
               have y4 : w3.cell? ⟨w.heap.size, 4, none⟩ = some (.string .empty) := cell_of_row _ _ 4 _ _ (0, 0) hm3
               have y5 : w3.cell? ⟨w.heap.size, 5, none⟩ = some (.slice none 0 0) := cell_of_row _ _ 5 _ _ (0, 0) hm3
               have y6 : w3.cell? ⟨w.heap.size, 6, none⟩ = some (.slice none 0 0) := cell_of_row _ _ 6 _ _ (0, 0) hm3
               have y7 : w3.cell? ⟨w.heap.size, 7, none⟩ = some (.slice none 0 0) := cell_of_row _ _ 7 _ _ (0, 0) hm3
               have y8 : w3.cell? ⟨w.heap.size, 8, none⟩ = some (.int .i64 (q : Int)) := cell_of_row _ _ 8 _ _ (0, 0) hm3
               have y9 : w3.cell? ⟨w.heap.size, 9, none⟩ = some (.int .i64 0) := cell_of_row _ _ 9 _ _ (0, 0) hm3
               have y10 : w3.cell? ⟨w.heap.size, 10, none⟩ = some (.int .i64 (-1)) := cell_of_row _ _ 10 _ _ (0, 0) hm3
               have y11 : w3.cell? ⟨w.heap.size, 11, none⟩ = some (.int .i64 0) := cell_of_row _ _ 11 _ _ (0, 0) hm3
               have y12 : w3.cell? ⟨w.heap.size, 12, none⟩ = some (.int .i64 0) := cell_of_row _ _ 12 _ _ (0, 0) hm3
               have y13 : w3.cell? ⟨w.heap.size, 13, none⟩ = some (.int .i64 0) := cell_of_row _ _ 13 _ _ (0, 0) hm3
               have y14 : w3.cell? ⟨w.heap.size, 14, none⟩ = some (.slice none 0 0) := cell_of_row _ _ 14 _ _ (0, 0) hm3
               have y15 : w3.cell? ⟨w.heap.size, 15, none⟩ = some (.slice none 0 0) := cell_of_row _ _ 15 _ _ (0, 0) hm3
               have y16 : w3.cell? ⟨w.heap.size, 16, none⟩ = some (.slice none 0 0) := cell_of_row _ _ 16 _ _ (0, 0) hm3
               have HT3 := Lib.hid (HT2.out.below hb23 HT2.out.lt)
               have HO3 : Hid (OwnG w3 base t1.opened [p]) := Lib.hid (row_below HO2.out hb23)
               have HG3 : Hid (Turns g w.heap.size w w3) := Lib.hid (HG2.out.trans ((Turns.of hb23).mono HG2.out.size))
               clear hb3 hb23 hm3))
  have HTK := HTH w3 HT3.out HO3.out
  go_wp2_with ((go_at_call 54); (with_reducible refine HTK.out.mono ?_); rintro e w4 ⟨ov, rfl, ht4, ho4, hv4⟩)
  go_ret2
  refine ⟨ov, rfl, ht4, ho4, ?_⟩
  rw [HOP.out] at hv4
  exact (Moves.of HG3.out).trans hv4
end Go.Proofs.Ythipdadhhelieaa
