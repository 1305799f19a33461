/- Walk over one member. -/
import Derived.Test.YtmgobekdlgogmaaDoorRWay
import Derived.Deep.RegionHeld3
namespace Go.Proofs.YtmgobekdlgogmaaDoor
open Go.RowKit Go.Sort Go.BigFrame
open Go.Lib (byteCells byteCells_length)

set_option maxRecDepth 100000 in
set_option maxHeartbeats 3200000 in
theorem walk_one (p c node q : Int) (n : Nat) (v : Value) (w : World) (hok : OkR p c (n : Int) [(node, 1, 1, 1)]) (hn : n ≤ 16) (hT : Tabs w) (h1 : -9223372036854775808 ≤ p) (h2 : p ≤ 9223372036854775807) (h : RdM w v [(node, 1, 1, 1)]) :
    Calls Tryd.prog 60 #[.agg #[.int .i64 p, .int .i64 c, .int .i64 (n : Int), v], .int .u64 q] w (GivesI [node] w) := by
  have hmm := @run_makeMap Tryd.prog
  have HV := Lib.hid h
  obtain ⟨A, cap, rfl, _, _⟩ := h
  obtain ⟨m, hm⟩ : ∃ m, Hid (m = [((node, 1, 1, 1) : MemA)].length) := ⟨_, Lib.hid rfl⟩
  rw [← hm.out] at HV ⊢
  obtain ⟨W, hW⟩ : ∃ W, Hid (W = w.alloc (.cells #[.int .i64 p, .int .i64 c, .int .i64 (n : Int), .slice A m cap] 24)) := ⟨_, Lib.hid rfl⟩
  have HB : Hid (Below w.heap.size w W) := Lib.hid (by rw [hW.out]; exact (Below.refl _ _).alloc (Nat.le_refl _) _)
  have HZ : Hid (W.heap.size = w.heap.size + 1) := Lib.hid (by rw [hW.out]; simp)
  have b0 : BoxR W w.heap.size p c n (.slice A m cap) := by rw [hW.out]; exact boxR_new _ _ _ _ _ _
  have B0 := Lib.hid b0
  have HTW := Lib.hid (hT.below HB.out hT.big)
  have HBIG : Hid (3 ≤ W.heap.size) := Lib.hid (Nat.le_trans hT.big HB.out.size)
  have HI := Lib.hid (in_yes p c n (.slice A m cap) [(node, 1, 1, 1)] W hok HTW.out h1 h2 (HV.out.below HB.out) (by simp))
  rw [show inOf [((node, 1, 1, 1) : MemA)] = [node] from rfl] at HI
  have HND : Hid (0 ≤ node ∧ node < 8) := Lib.hid (by
    have := hok.2.1 0 (node, 1, 1, 1) rfl
    unfold okMem nodeB at this
    simp at this
    first | exact this.1.1 | exact this.1 | exact this)
  have hkey : keyOf Tryd.prog 3 (.int .i64 node) = some (.int .i64 node) := Maps.keyOf_int_mk Tryd.underlying3 (litWf (by have := HND.out; omega) (by have := HND.out; omega))
  have HN := Lib.hid hn
  obtain ⟨k0, k1, k2, k3⟩ := b0
  clear hok hT h1 h2 hn
  go_enter Tryd.func60, Tryd.ntmps60
  go_upto_region 1 with fail
  rw [← hW.out]
  go_wp2_with fail
  (with_reducible refine HI.out.mono ?_); rintro e w1 ⟨A1, n1, c1, rfl, ho1, hn1, hb1⟩
  have e1 : n1 = 1 := hn1
  subst e1
  have HB1 : Hid (Below W.heap.size W w1) := Lib.hid hb1
  have HO1 := Lib.hid ho1
  obtain ⟨A1', c1', e1, _, hx1⟩ := ho1.rd
  have e2 : A1' = A1 := by injection e1 with e1; exact e1.symm
  subst e2
  obtain ⟨ad, rfl, hadlt, hcell⟩ := hx1 0 node rfl
  have HCELL := Lib.hid hcell
  obtain ⟨W2, hW2⟩ : ∃ W2, Hid (W2 = (w1.alloc (.map #[] 0)).alloc (.cells #[.map (some w1.heap.size)] 81)) := ⟨_, Lib.hid rfl⟩
  have HB2 : Hid (Below w1.heap.size w1 W2) := Lib.hid (by rw [hW2.out]; exact below_allocR (below_allocR (Below.refl _ _)))
  have HZ2 : Hid (W2.heap.size = w1.heap.size + 2) := Lib.hid (by rw [hW2.out]; simp)
  have om0 : W2.ownsMap Tryd.prog 3 selfR w1.heap.size 0 (.map []) := by
    rw [hW2.out]
    exact (World.ownsMap_made w1 Tryd.prog 3 selfR).alloc _
  have OM0 := Lib.hid om0
  have hc6 : W2.cell? ⟨w1.heap.size + 1, 0, none⟩ = some (.map (some w1.heap.size)) := by
    have := box_cellR (w1.alloc (.map #[] 0)) #[.map (some w1.heap.size)] 81 0
    rw [← hW2.out, show (w1.alloc (.map #[] 0)).heap.size = w1.heap.size + 1 by simp] at this
    exact this
  have HC6 := Lib.hid hc6
  clear hb1 ho1 hx1 e1 hn1 om0 k0 k1 k2 k3 hc6 hcell
  go_upto_region 3 with fail
  rw [← hW2.out]
  go_wp2
  go_loopw [14] (fun i wr => ∃ (k : Nat) (D : DataW Value), k ≤ 1 ∧ i = .int .i64 k ∧ Hid (wr.ownsMap Tryd.prog 3 selfR w1.heap.size k D) ∧ Hid (wr.cell? ⟨w1.heap.size + 1, 0, none⟩ = some (.map (some w1.heap.size))) ∧ Hid (w1.heap.size + 2 ≤ wr.heap.size) ∧ Below w1.heap.size w1 wr) (fun i _ => 1 - (intOf i).toNat)
  case atStart => exact ⟨0, _, Nat.zero_le _, rfl, OM0, HC6, Lib.hid (by have := HZ2.out; omega), HB2.out⟩
  case round =>
    obtain ⟨k, D, hk, rfl, HM, HC, HSZ, hb⟩ := hrel
    have HBR : Hid (Below w1.heap.size w1 wr) := Lib.hid hb
    have HWR : Hid (Below W.heap.size W wr) := Lib.hid (HB1.out.trans (hb.mono HB1.out.size))
    by_cases hlt : k < 1
    · obtain rfl : k = 0 := by omega
      have kc : wr.cell? (ad.add 0) = some (.int .i64 node) := (hb.cell (p := ad.add 0) (by rw [add_block]; exact hadlt)).trans HCELL.out
      rw [show ad.add 0 = ad by unfold Addr.add; simp] at kc
      have kb : BoxR wr.drew w.heap.size p c n (.slice A m cap) ∧ wr.drew.cell? ⟨w1.heap.size + 1, 0, none⟩ = some (.map (some w1.heap.size)) := ⟨(show BoxR wr _ _ _ _ _ from B0.out.below HWR.out (by have := HZ.out; omega)), HC.out⟩
      have HWD : Hid (Below W.heap.size W wr.drew) := Lib.hid HWR.out.drew
      have HBD : Hid (Below w1.heap.size w1 wr.drew) := Lib.hid HBR.out.drew
      have HMD : Hid (wr.drew.ownsMap Tryd.prog 3 selfR w1.heap.size 0 D) := Lib.hid HM.out
      clear hb hlt hk
      go_wp2_with fail
      go_region_held3 (fun w' => (w'.cell? ⟨w.heap.size, 0, none⟩ = some (.int .i64 p) ∧ w'.cell? ⟨w.heap.size, 1, none⟩ = some (.int .i64 c) ∧ w'.cell? ⟨w.heap.size, 2, none⟩ = some (.int .i64 (n : Int)) ∧ w'.cell? ⟨w.heap.size, 3, none⟩ = some (.slice A m cap)) ∧ w'.cell? ⟨w1.heap.size + 1, 0, none⟩ = some (.map (some w1.heap.size)))
        (first | exact kb | exact k6 | exact k7 | go_keep)
        (first
          | (go_at_call 68
             (with_reducible refine (wayTo_any p c node q n HN.out A m cap _ (HTW.out.below HWD.out HBIG.out)).mono ?_); rintro e w6 ⟨u6, rfl, hb6⟩
             have HB6 : Hid (Below w1.heap.size w1 w6) := Lib.hid (HBD.out.trans (hb6.mono HBD.out.size))
             have k6 : BoxR w6 w.heap.size p c n (.slice A m cap) ∧ w6.cell? ⟨w1.heap.size + 1, 0, none⟩ = some (.map (some w1.heap.size)) := ⟨kb.1.below hb6 (show w.heap.size < wr.heap.size by have := HZ.out; have := HWR.out.size; omega), (hb6.cell (p := ⟨w1.heap.size + 1, 0, none⟩) (show w1.heap.size + 1 < wr.heap.size by have := HSZ.out; omega)).trans kb.2⟩
             have HM6 : Hid (w6.ownsMap Tryd.prog 3 selfR w1.heap.size 0 D) := Lib.hid (ownsV_same HMD.out (hb6.block _ (show w1.heap.size < wr.heap.size by have := HSZ.out; omega)))
             obtain ⟨w7, hrun7, hown7, hg7⟩ := World.ownsMap.update (t := 81) (e := 56) HM6.out lawInt Tryd.underlying81 (by unfold maxLen; omega) hkey (show selfR (.int .u64 u6) = some (.held (.int .u64 u6), []) from rfl)
             have hz6 : w1.heap.size + 2 ≤ w6.heap.size := Nat.le_trans HSZ.out hb6.size
             have HB67 : Hid (Below w1.heap.size w6 w7) := Lib.hid ((Below.refl _ _).grown hg7 (by omega) (fun j e => by injection e with e; omega))
             have k7 : BoxR w7 w.heap.size p c n (.slice A m cap) ∧ w7.cell? ⟨w1.heap.size + 1, 0, none⟩ = some (.map (some w1.heap.size)) := ⟨k6.1.below HB67.out (by have := HZ.out; have := HB1.out.size; omega), by
               rw [World.cell?_of_block (w := w6) (hg7.block (w1.heap.size + 1) (by omega) (fun e => by injection e with e; omega))]
               exact k6.2⟩))
      have HC7 := Lib.hid k7.2
      have HM7 := Lib.hid hown7
      have HB7 : Hid (Below w1.heap.size w1 w7) := Lib.hid (HB6.out.trans HB67.out)
      have HS7 : Hid (w1.heap.size + 2 ≤ w7.heap.size) := Lib.hid (Nat.le_trans hz6 hg7.size)
      clear hrun7 hown7 hg7 hb6 kb k6 k7 kc hz6
      go_wp2
      go_roundw
      case rel => exact ⟨1, _, by omega, by first | rfl | go_num, HM7, HC7, HS7, HB7.out⟩
      case measure => simp [intOf]
    · have HBE : Hid (Below w.heap.size w wr) := Lib.hid (HB.out.trans (HWR.out.mono HB.out.size))
      have HOE : Hid (OwnI wr W.heap.size (.slice (some ad) 1 c1) [node]) := Lib.hid (HO1.out.below hb)
      have HS := Lib.hid (sortOne (some ad) c1 (.func (.func 70) #[] #[.pointer (some ⟨w1.heap.size + 1, 0, none⟩)]) wr)
      clear hb
      go_wp2_with fail
      (with_reducible refine HS.out.mono ?_); rintro e w8 ⟨rfl, rfl⟩
      go_wp2
      go_ret
      exact ⟨some ad, 1, c1, rfl, HOE.out.base_le (by have := HZ.out; omega), rfl, HBE.out⟩
end Go.Proofs.YtmgobekdlgogmaaDoor
