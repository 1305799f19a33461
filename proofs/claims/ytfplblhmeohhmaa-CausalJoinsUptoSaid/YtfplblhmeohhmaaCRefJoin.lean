/- Join, by the document. -/
import Derived.Test.YtfplblhmeohhmaaCTwo
import Derived.Test.YtfplblhmeohhmaaCRefCan
namespace Go.Proofs.Ytfplblhmeohhmaa
open Go.RowKit Go.Sort Go.BigFrame
open Go.Lib (byteCells byteCells_length)

set_option maxRecDepth 100000 in
set_option maxHeartbeats 102400000 in
theorem join_ref (v v1 : Value) (ms ds ms1 ds1 : List DotA) (w : World) (h : RdC w v ms ds) (h1 : RdC w v1 ms1 ds1) (hl : ms.length ≤ 1048576 ∧ ds.length ≤ 1048576 ∧ ms1.length ≤ 1048576 ∧ ds1.length ≤ 1048576) :
    Calls Try.prog 30 #[v, v1] w (AnsC (JoinRel ms ds ms1 ds1) w) := by
  obtain ⟨hl1, hl2, hl3, hl4⟩ := hl
  obtain ⟨mv, dv, rfl, hm, hd⟩ := h
  obtain ⟨mv1, dv1, rfl, hm1, hd1⟩ := h1
  obtain ⟨W, hW⟩ : ∃ W, Hid (W = ((w.alloc (.cells #[mv, dv] 48)).alloc (.cells #[mv1, dv1] 48)).alloc (.cells #[.slice none 0 0, .slice none 0 0] 48)) := ⟨_, Lib.hid rfl⟩
  have hb0 : Below w.heap.size w W := by rw [hW.out]; exact below_alloc (below_alloc (below_alloc (Below.refl _ _)))
  have hz : W.heap.size = w.heap.size + 3 := by rw [hW.out]; simp
  have hbc : BoxC W w.heap.size mv dv := by
    rw [hW.out]
    exact ⟨cell_up _ (cell_up _ (box_cell _ _ _ 0)), cell_up _ (cell_up _ (box_cell _ _ _ 1))⟩
  have hba : BoxC W (w.heap.size + 1) mv1 dv1 := by
    have : BoxC ((w.alloc (.cells #[mv, dv] 48)).alloc (.cells #[mv1, dv1] 48)) (w.alloc (.cells #[mv, dv] 48)).heap.size mv1 dv1 := ⟨box_cell _ _ _ 0, box_cell _ _ _ 1⟩
    rw [show (w.alloc (.cells #[mv, dv] 48)).heap.size = w.heap.size + 1 by simp] at this
    rw [hW.out]
    exact ⟨cell_up _ this.1, cell_up _ this.2⟩
  have hrow : W.heap[w.heap.size + 2]? = some (.cells #[.slice none 0 0, .slice none 0 0] 48 (0, 0)) := by
    have := heap_alloc_new ((w.alloc (.cells #[mv, dv] 48)).alloc (.cells #[mv1, dv1] 48)) (.cells #[.slice none 0 0, .slice none 0 0] 48)
    rw [← hW.out, show ((w.alloc (.cells #[mv, dv] 48)).alloc (.cells #[mv1, dv1] 48)).heap.size = w.heap.size + 2 by simp] at this
    exact this
  have hrd : RdC W (.agg #[mv, dv]) ms ds := ⟨mv, dv, rfl, hm.below hb0, hd.below hb0⟩
  have hrd1 : RdC W (.agg #[mv1, dv1]) ms1 ds1 := ⟨mv1, dv1, rfl, hm1.below hb0, hd1.below hb0⟩
  have HM := Lib.hid (hm.below hb0)
  have HD := Lib.hid (hd.below hb0)
  have HM1 := Lib.hid (hm1.below hb0)
  have HD1 := Lib.hid (hd1.below hb0)
  have HCN := Lib.hid (can_ref _ ms ds W hrd (by omega) (by omega))
  obtain ⟨A, c, rfl, hc, _⟩ := hd
  obtain ⟨A1, c1, rfl, hc1, _⟩ := hm
  obtain ⟨A2, c2, rfl, hc2, _⟩ := hd1
  obtain ⟨A3, c3, rfl, hc3, _⟩ := hm1
  have HRD1 := Lib.hid hrd1
  have HC := Lib.hid hbc
  have HA := Lib.hid hba
  have HROW := Lib.hid hrow
  have HB0 := Lib.hid hb0
  obtain ⟨n, hn⟩ : ∃ n, Hid (n = ds.length) := ⟨_, Lib.hid rfl⟩
  obtain ⟨n1, hn1⟩ : ∃ n1, Hid (n1 = ms.length) := ⟨_, Lib.hid rfl⟩
  obtain ⟨n2, hn2⟩ : ∃ n2, Hid (n2 = ds1.length) := ⟨_, Lib.hid rfl⟩
  obtain ⟨n3, hn3⟩ : ∃ n3, Hid (n3 = ms1.length) := ⟨_, Lib.hid rfl⟩
  have hWe := hW.out.symm
  rw [← hn.out] at hWe HCN hbc HC HD ⊢
  rw [← hn1.out] at hWe HCN hbc HC HM ⊢
  rw [← hn2.out] at hWe HRD1 HA HD1 ⊢
  rw [← hn3.out] at hWe HRD1 HA HM1 ⊢
  obtain ⟨l0, l1⟩ := hbc
  have hlt0 : w.heap.size < W.heap.size := by omega
  have hlt1 : w.heap.size + 1 < W.heap.size := by omega
  have hlt2 : w.heap.size + 2 < W.heap.size := by omega
  have hsW : w.heap.size ≤ W.heap.size := by omega
  have HZ := Lib.hid hz
  clear hb0 hrd hrd1 hba hrow hz hc hc1 hc2 hc3
  go_enter Try.func30, Try.ntmps30
  go_upto_region 1 with fail
  clear hWe
  go_wp2_with fail
  (with_reducible refine HCN.out.mono ?_); rintro e w1 ⟨b, rfl, hbi, hb1⟩
  have HB1 := Lib.hid hb1
  have HBI := Lib.hid hbi
  clear hb1 hbi l0 l1 HCN
  cases b with
  | false =>
    have HNO : Hid (¬ OkC ms ds) := Lib.hid (fun h => by have := HBI.out.2 h; cases this)
    have r1 := (HB1.out.block _ hlt2).trans HROW.out
    have q0 : w1.cell? ⟨w.heap.size + 2, 0, none⟩ = some (.slice none 0 0) := cell_of_row w1 _ 0 _ _ (0, 0) r1
    have q1 : w1.cell? ⟨w.heap.size + 2, 1, none⟩ = some (.slice none 0 0) := cell_of_row w1 _ 1 _ _ (0, 0) r1
    have f0 : w1.frozen? ⟨w.heap.size + 2, 0, none⟩ = false := frozen_of_row w1 _ 0 _ _ r1
    have f1 : w1.frozen? ⟨w.heap.size + 2, 1, none⟩ = false := frozen_of_row w1 _ 1 _ _ r1
    have HR := Lib.hid (Joins.block_setCell (Joins.block_setCell r1 (i := 0) (.slice none 0 0)) (i := 1) (.slice none 0 0))
    clear r1
    go_wp2
    have p0 := cell_of_row _ _ 0 _ _ (0, 0) HR.out
    have p1 := cell_of_row _ _ 1 _ _ (0, 0) HR.out
    refine bodyPost_ret (v := .tuple #[.agg #[.slice none 0 0, .slice none 0 0], .int .i64 30]) (by simp [results, Try.results30, go_sem, p0, p1]) rfl ⟨[], [], none, none, 0, 0, 0, 0, 30, rfl, ownD_nil _ _ _, ownD_nil _ _ _, ?_, .inl ⟨fun h => HNO.out h.1, rfl, rfl, rfl⟩⟩
    exact ((HB0.out.trans (HB1.out.mono hsW)).setCell (show w.heap.size ≤ w.heap.size + 2 by omega) _).setCell (show w.heap.size ≤ w.heap.size + 2 by omega) _
  | true =>
    have HOK := Lib.hid (HBI.out.1 rfl)
    obtain ⟨k0, k1⟩ := HA.out.below HB1.out hlt1
    have HCN1 := Lib.hid (can_ref _ ms1 ds1 w1 (HRD1.out.below HB1.out) (by omega) (by omega))
    go_wp2_with fail
    (with_reducible refine HCN1.out.mono ?_); rintro e w2 ⟨b, rfl, hbi, hb2⟩
    have HB2 := Lib.hid (HB1.out.trans (hb2.mono HB1.out.size))
    have HBI1 := Lib.hid hbi
    have r1 := (HB2.out.block _ hlt2).trans HROW.out
    have q0 : w2.cell? ⟨w.heap.size + 2, 0, none⟩ = some (.slice none 0 0) := cell_of_row w2 _ 0 _ _ (0, 0) r1
    have q1 : w2.cell? ⟨w.heap.size + 2, 1, none⟩ = some (.slice none 0 0) := cell_of_row w2 _ 1 _ _ (0, 0) r1
    have f0 : w2.frozen? ⟨w.heap.size + 2, 0, none⟩ = false := frozen_of_row w2 _ 0 _ _ r1
    have f1 : w2.frozen? ⟨w.heap.size + 2, 1, none⟩ = false := frozen_of_row w2 _ 1 _ _ r1
    have HR1 := Lib.hid r1
    clear k0 k1 hbi hb2 HCN1 r1
    cases b with
    | false =>
      have HNO : Hid (¬ OkC ms1 ds1) := Lib.hid (fun h => by have := HBI1.out.2 h; cases this)
      have HR := Lib.hid (Joins.block_setCell (Joins.block_setCell HR1.out (i := 0) (.slice none 0 0)) (i := 1) (.slice none 0 0))
      go_wp2
      have p0 := cell_of_row _ _ 0 _ _ (0, 0) HR.out
      have p1 := cell_of_row _ _ 1 _ _ (0, 0) HR.out
      refine bodyPost_ret (v := .tuple #[.agg #[.slice none 0 0, .slice none 0 0], .int .i64 30]) (by simp [results, Try.results30, go_sem, p0, p1]) rfl ⟨[], [], none, none, 0, 0, 0, 0, 30, rfl, ownD_nil _ _ _, ownD_nil _ _ _, ?_, .inl ⟨fun h => HNO.out h.2, rfl, rfl, rfl⟩⟩
      exact ((HB0.out.trans (HB2.out.mono hsW)).setCell (show w.heap.size ≤ w.heap.size + 2 by omega) _).setCell (show w.heap.size ≤ w.heap.size + 2 by omega) _
    | true =>
      have HOK1 := Lib.hid (HBI1.out.1 rfl)
      clear q0 q1 f0 f1
      have HS0 : Hid (w2.cell? ⟨w.heap.size, 0, none⟩ = some (.slice A1 n1 c1) ∧ w2.cell? ⟨w.heap.size, 1, none⟩ = some (.slice A n c) ∧ w2.cell? ⟨w.heap.size + 1, 0, none⟩ = some (.slice A3 n3 c3) ∧ w2.cell? ⟨w.heap.size + 1, 1, none⟩ = some (.slice A2 n2 c2)) :=
        Lib.hid ⟨(HC.out.below HB2.out hlt0).1, (HC.out.below HB2.out hlt0).2, (HA.out.below HB2.out hlt1).1, (HA.out.below HB2.out hlt1).2⟩
      have HM2 := Lib.hid (HM.out.below HB2.out)
      have HD2 := Lib.hid (HD.out.below HB2.out)
      have HM12 := Lib.hid (HM1.out.below HB2.out)
      have HD12 := Lib.hid (HD1.out.below HB2.out)
      have hlm : (ms ++ ms1).length ≤ 1048576 := by have := HOK.out.1; have := HOK1.out.1; rw [List.length_append]; omega
      have hld : (ds ++ ds1).length ≤ 1048576 := by have := HOK.out.2.1; have := HOK1.out.2.1; rw [List.length_append]; omega
      have HLM := Lib.hid hlm
      have HLD := Lib.hid hld
      have hlt4 : w.heap.size + 2 < w2.heap.size := Nat.lt_of_lt_of_le hlt2 HB2.out.size
      obtain ⟨_, _, em1, _, hxm1⟩ := HM2.out
      injection em1 with ea eb ec
      subst ea ec
      obtain ⟨_, _, em2, _, hxm2⟩ := HM12.out
      injection em2 with ea2 eb2 ec2
      subst ea2 ec2
      obtain ⟨_, _, em3, _, hxd1⟩ := HD2.out
      injection em3 with ea3 eb3 ec3
      subst ea3 ec3
      obtain ⟨_, _, em4, _, hxd2⟩ := HD12.out
      injection em4 with ea4 eb4 ec4
      subst ea4 ec4
      have XM1 := Lib.hid hxm1
      have XM2 := Lib.hid hxm2
      have XD1 := Lib.hid hxd1
      have XD2 := Lib.hid hxd2
      have hp := P2.start w2
      have HP0 : Hid (ms.length + ms1.length ≤ 1099511627776 ∧ ds.length + ds1.length ≤ 1099511627776) := Lib.hid ⟨by omega, by omega⟩
      clear hlm hld hxm1 hxm2 hxd1 hxd2 eb eb2 eb3 eb4
      go_wp2_with fail
      go_region_held3 (fun w' => w'.cell? ⟨w.heap.size, 0, none⟩ = some (.slice A1 n1 c1) ∧ w'.cell? ⟨w.heap.size, 1, none⟩ = some (.slice A n c) ∧ w'.cell? ⟨w.heap.size + 1, 0, none⟩ = some (.slice A3 n3 c3) ∧ w'.cell? ⟨w.heap.size + 1, 1, none⟩ = some (.slice A2 n2 c2))
        (first
          | (refine ⟨cell_on HS0.out.1 ?_, cell_on HS0.out.2.1 ?_, cell_on HS0.out.2.2.1 ?_, cell_on HS0.out.2.2.2 ?_⟩ <;> ((repeat' (first | assumption | exact Below.refl _ _ | refine below_alloc ?_ | refine below_drew ?_ | refine below_next hp.bel ?_)); done))
          | (refine ⟨cell_set (cell_set (cell_on HS0.out.1 ?_) ?_) ?_, cell_set (cell_set (cell_on HS0.out.2.1 ?_) ?_) ?_, cell_set (cell_set (cell_on HS0.out.2.2.1 ?_) ?_) ?_, cell_set (cell_set (cell_on HS0.out.2.2.2 ?_) ?_) ?_⟩ <;> first | exact hbN | (dsimp only; omega) | omega))
        (first
          | (refine step_append_M _ (by rfl) (.tmp 15) (.tmp 17) (by rfl) (by rfl) (by rfl) ((hp.grow ?_).emptyM) (XM1.out.below (below_next hp.bel ?_) (Nat.le_refl _)) hn1.out ?_ ?_
             · (repeat' (first | assumption | exact Below.refl _ _ | refine below_alloc ?_ | refine below_drew ?_))
             · (repeat' (first | assumption | exact Below.refl _ _ | refine below_alloc ?_ | refine below_drew ?_))
             · have := HP0.out.1; simp; omega
             intro AA NN CC ww rr hp
             have hbb := hp.bel)
          | (refine step_append_M _ (by rfl) (.tmp 18) (.tmp 20) (by rfl) (by rfl) (by rfl) (hp.grow ?_) (XM2.out.below (below_next hp.bel ?_) (Nat.le_refl _)) hn3.out ?_ ?_
             · (repeat' (first | assumption | exact Below.refl _ _ | refine below_alloc ?_ | refine below_drew ?_))
             · (repeat' (first | assumption | exact Below.refl _ _ | refine below_alloc ?_ | refine below_drew ?_))
             · have := HP0.out.1; simp; omega
             intro AA NN CC ww rr hp
             have hbb := hp.bel)
          | (refine step_append_D _ (by rfl) (.tmp 22) (.tmp 24) (by rfl) (by rfl) (by rfl) ((hp.grow ?_).emptyD) (XD1.out.below (below_next hp.bel ?_) (Nat.le_refl _)) hn.out ?_ ?_
             · (repeat' (first | assumption | exact Below.refl _ _ | refine below_alloc ?_ | refine below_drew ?_))
             · (repeat' (first | assumption | exact Below.refl _ _ | refine below_alloc ?_ | refine below_drew ?_))
             · have := HP0.out.2; simp; omega
             intro AA NN CC ww rr hp
             have hbb := hp.bel)
          | (refine step_append_D _ (by rfl) (.tmp 25) (.tmp 27) (by rfl) (by rfl) (by rfl) (hp.grow ?_) (XD2.out.below (below_next hp.bel ?_) (Nat.le_refl _)) hn2.out ?_ ?_
             · (repeat' (first | assumption | exact Below.refl _ _ | refine below_alloc ?_ | refine below_drew ?_))
             · (repeat' (first | assumption | exact Below.refl _ _ | refine below_alloc ?_ | refine below_drew ?_))
             · have := HP0.out.2; simp; omega
             intro AA NN CC ww rr hp
             have hbb := hp.bel)
          | (go_at_call 64
             refine Calls.mono (normal_ref _ _ (ms ++ ms1) (ds ++ ds1) _ (by simpa using hp.om.rd) (by simpa using hp.od.rd) HLM.out HLD.out) ?_
             rintro e w5 hpo
             obtain ⟨ms5, ds5, A5, A6, n5, n6, c5, c6, er, rfl, hm5, hd5, hb5, hr5⟩ := normRel_of hpo
             have hbN : Below w2.heap.size w2 w5 := below_next hp.bel hb5
             have r5 := (hbN.block _ hlt4).trans HR1.out
             have q0 := cell_of_row w5 _ 0 _ _ (0, 0) r5
             have q1 := cell_of_row w5 _ 1 _ _ (0, 0) r5
             have f0 := frozen_of_row w5 _ 0 _ _ r5
             have f1 := frozen_of_row w5 _ 1 _ _ r5
             have R5 := Lib.hid r5
             have HM6 := Lib.hid (hm5.base_le (below_size hp.bel))
             have HD6 := Lib.hid (hd5.base_le (below_size hp.bel))
             have HR6 := Lib.hid hr5
             have HBN := Lib.hid hbN
             clear r5 hm5 hd5 hr5)
          | fail)
      all_goals
        go_wp2
        have hr := Joins.block_setCell (Joins.block_setCell R5.out (i := 0) (.slice A5 n5 c5)) (i := 1) (.slice A6 n6 c6)
        have p0 := cell_of_row _ _ 0 _ _ (0, 0) hr
        have p1 := cell_of_row _ _ 1 _ _ (0, 0) hr
        have ap2 : Apart (w.heap.size + 2) (.slice A5 n5 c5) := fun g e => by have := (World.ownsRow.lt HM6.out g e).1; omega
        have ap3 : Apart (w.heap.size + 2) (.slice A6 n6 c6) := fun g e => by have := (World.ownsRow.lt HD6.out g e).1; omega
        have hle : w.heap.size ≤ w2.heap.size := by omega
        refine bodyPost_ret (v := .tuple #[.agg #[.slice A5 n5 c5, .slice A6 n6 c6], .int .i64 er]) (by simp [results, Try.results30, go_sem, p0, p1]) rfl ⟨ms5, ds5, A5, A6, n5, n6, c5, c6, er, rfl, ?_, ?_, ?_, .inr ⟨HOK.out, HOK1.out, HR6.out⟩⟩
        · exact ((HM6.out.setOther ap2 _).setOther ap2 _).base_le hle
        · exact ((HD6.out.setOther ap3 _).setOther ap3 _).base_le hle
        · exact ((HB0.out.trans ((HB2.out.trans (HBN.out.mono HB2.out.size)).mono hsW)).setCell (show w.heap.size ≤ w.heap.size + 2 by omega) _).setCell (show w.heap.size ≤ w.heap.size + 2 by omega) _
end Go.Proofs.Ytfplblhmeohhmaa
