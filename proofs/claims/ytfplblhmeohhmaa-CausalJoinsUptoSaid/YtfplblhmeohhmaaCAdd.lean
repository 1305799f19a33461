/- Add: the program's. -/
import Derived.Test.YtfplblhmeohhmaaCJoinM
namespace Go.Proofs.Ytfplblhmeohhmaa
open Go.RowKit Go.Sort Go.BigFrame
open Go.Lib (byteCells byteCells_length)

/-- What Add answers. -/
def AddRel (ms ds : List DotA) (d : DotA) (ms' ds' : List DotA) (er : Int) : Prop :=
  (¬ OkC ms ds ∧ ms' = [] ∧ ds' = [] ∧ er = 30) ∨ (OkC ms ds ∧ NormRel ms (ds ++ [d]) ms' ds' er)
theorem rd_one (w : World) (g : Nat) (d : DotA) (h : BoxD w g d) (hg : g < w.heap.size) : RdD w (.slice (some ⟨g, 0, none⟩) 1 1) [d] :=
  ⟨some ⟨g, 0, none⟩, 1, rfl, Nat.le_refl _, fun j x hx => ⟨_, rfl, hg, by
    cases j with
    | zero =>
      have e : d = x := by simpa using hx
      subst e
      rw [show (⟨g, 0, none⟩ : Addr).add (0 * 3) = ⟨g, 0, none⟩ by simp [Addr.add]]
      exact ⟨h.1, h.2.1, h.2.2⟩
    | succ j => simp at hx⟩⟩

set_option maxRecDepth 100000 in
set_option maxHeartbeats 12800000 in
theorem add_any (v : Value) (ms ds : List DotA) (d : DotA) (w : World) (h : RdC w v ms ds) (hl : ms.length ≤ 1048576 ∧ ds.length ≤ 1048576) :
    Calls Try.prog 31 #[v, dotV d] w (AnsC (AddRel ms ds d) w) := by
  obtain ⟨hl1, hl2⟩ := hl
  obtain ⟨mv, dv, rfl, hm, hd⟩ := h
  obtain ⟨W, hW⟩ : ∃ W, Hid (W = ((w.alloc (.cells #[mv, dv] 48)).alloc (.cells #[.int .i64 d.1, .int .i64 d.2.1, .int .i64 d.2.2] 44)).alloc (.cells #[.slice none 0 0, .slice none 0 0] 48)) := ⟨_, Lib.hid rfl⟩
  have hb0 : Below w.heap.size w W := by rw [hW.out]; exact below_alloc (below_alloc (below_alloc (Below.refl _ _)))
  have hz : W.heap.size = w.heap.size + 3 := by rw [hW.out]; simp
  have hbc : BoxC W w.heap.size mv dv := by
    rw [hW.out]
    exact ⟨cell_up _ (cell_up _ (box_cell _ _ _ 0)), cell_up _ (cell_up _ (box_cell _ _ _ 1))⟩
  have hba : BoxD W (w.heap.size + 1) d := by
    have : BoxD ((w.alloc (.cells #[mv, dv] 48)).alloc (.cells #[.int .i64 d.1, .int .i64 d.2.1, .int .i64 d.2.2] 44)) (w.alloc (.cells #[mv, dv] 48)).heap.size d := boxD _ _ d
    rw [show (w.alloc (.cells #[mv, dv] 48)).heap.size = w.heap.size + 1 by simp] at this
    rw [hW.out]
    exact ⟨cell_up _ this.1, cell_up _ this.2.1, cell_up _ this.2.2⟩
  have hrow : W.heap[w.heap.size + 2]? = some (.cells #[.slice none 0 0, .slice none 0 0] 48 (0, 0)) := by
    have := heap_alloc_new ((w.alloc (.cells #[mv, dv] 48)).alloc (.cells #[.int .i64 d.1, .int .i64 d.2.1, .int .i64 d.2.2] 44)) (.cells #[.slice none 0 0, .slice none 0 0] 48)
    rw [← hW.out, show ((w.alloc (.cells #[mv, dv] 48)).alloc (.cells #[.int .i64 d.1, .int .i64 d.2.1, .int .i64 d.2.2] 44)).heap.size = w.heap.size + 2 by simp] at this
    exact this
  have hrd : RdC W (.agg #[mv, dv]) ms ds := ⟨mv, dv, rfl, hm.below hb0, hd.below hb0⟩
  have HM := Lib.hid (hm.below hb0)
  have HD := Lib.hid (hd.below hb0)
  have HCN := Lib.hid (can_any _ ms ds W hrd (by omega) (by omega))
  obtain ⟨A, c, rfl, hc, _⟩ := hd
  obtain ⟨A1, c1, rfl, hc1, _⟩ := hm
  have HC := Lib.hid hbc
  have HA := Lib.hid hba
  have HROW := Lib.hid hrow
  have HB0 := Lib.hid hb0
  obtain ⟨n, hn⟩ : ∃ n, Hid (n = ds.length) := ⟨_, Lib.hid rfl⟩
  obtain ⟨n1, hn1⟩ : ∃ n1, Hid (n1 = ms.length) := ⟨_, Lib.hid rfl⟩
  have hWe := hW.out.symm
  rw [← hn.out] at hWe HCN hbc HC HD ⊢
  rw [← hn1.out] at hWe HCN hbc HC HM ⊢
  obtain ⟨l0, l1⟩ := hbc
  have hlt0 : w.heap.size < W.heap.size := by omega
  have hlt1 : w.heap.size + 1 < W.heap.size := by omega
  have hlt2 : w.heap.size + 2 < W.heap.size := by omega
  have hsW : w.heap.size ≤ W.heap.size := by omega
  clear hb0 hrd hba hrow hz hc hc1
  go_enter Try.func31, Try.ntmps31
  go_upto_region 1 with fail
  clear hWe
  go_wp2_with fail
  (with_reducible refine HCN.out.mono ?_); rintro e w2 ⟨b, rfl, hbi, hb1⟩
  have HB2 := Lib.hid hb1
  have HBI := Lib.hid hbi
  have r1 := (HB2.out.block _ hlt2).trans HROW.out
  have q0 : w2.cell? ⟨w.heap.size + 2, 0, none⟩ = some (.slice none 0 0) := cell_of_row w2 _ 0 _ _ (0, 0) r1
  have q1 : w2.cell? ⟨w.heap.size + 2, 1, none⟩ = some (.slice none 0 0) := cell_of_row w2 _ 1 _ _ (0, 0) r1
  have f0 : w2.frozen? ⟨w.heap.size + 2, 0, none⟩ = false := frozen_of_row w2 _ 0 _ _ r1
  have f1 : w2.frozen? ⟨w.heap.size + 2, 1, none⟩ = false := frozen_of_row w2 _ 1 _ _ r1
  have HR1 := Lib.hid r1
  clear hb1 hbi l0 l1 HCN r1
  cases b with
  | false =>
    have HNO : Hid (¬ OkC ms ds) := Lib.hid (fun h => by have := HBI.out.2 h; cases this)
    have HR := Lib.hid (Joins.block_setCell (Joins.block_setCell HR1.out (i := 0) (.slice none 0 0)) (i := 1) (.slice none 0 0))
    go_wp2
    have p0 := cell_of_row _ _ 0 _ _ (0, 0) HR.out
    have p1 := cell_of_row _ _ 1 _ _ (0, 0) HR.out
    refine bodyPost_ret (v := .tuple #[.agg #[.slice none 0 0, .slice none 0 0], .int .i64 30]) (by simp [results, Try.results31, go_sem, p0, p1]) rfl ⟨[], [], none, none, 0, 0, 0, 0, 30, rfl, ownD_nil _ _ _, ownD_nil _ _ _, ?_, .inl ⟨HNO.out, rfl, rfl, rfl⟩⟩
    exact ((HB0.out.trans (HB2.out.mono hsW)).setCell (show w.heap.size ≤ w.heap.size + 2 by omega) _).setCell (show w.heap.size ≤ w.heap.size + 2 by omega) _
  | true =>
    have HOK := Lib.hid (HBI.out.1 rfl)
    clear q0 q1 f0 f1
    have HS0 : Hid (w2.cell? ⟨w.heap.size, 0, none⟩ = some (.slice A1 n1 c1) ∧ w2.cell? ⟨w.heap.size, 1, none⟩ = some (.slice A n c) ∧ w2.cell? ⟨w.heap.size + 1, 0, none⟩ = some (.int .i64 d.1) ∧ w2.cell? ⟨w.heap.size + 1, 1, none⟩ = some (.int .i64 d.2.1) ∧ w2.cell? ⟨w.heap.size + 1, 2, none⟩ = some (.int .i64 d.2.2)) :=
      Lib.hid ⟨(HC.out.below HB2.out hlt0).1, (HC.out.below HB2.out hlt0).2, (HA.out.below HB2.out hlt1).1, (HA.out.below HB2.out hlt1).2.1, (HA.out.below HB2.out hlt1).2.2⟩
    have HM2 := Lib.hid (HM.out.below HB2.out)
    have HD2 := Lib.hid (HD.out.below HB2.out)
    have hlm : ms.length ≤ 1048576 := by have := HOK.out.1; omega
    have hld : (ds ++ [d]).length ≤ 1048576 := by have := HOK.out.2.1; rw [List.length_append, List.length_singleton]; omega
    have HLM := Lib.hid hlm
    have HLD := Lib.hid hld
    have hlt4 : w.heap.size + 2 < w2.heap.size := Nat.lt_of_lt_of_le hlt2 HB2.out.size
    clear hlm hld
    go_wp2_with fail
    go_region_held3 (fun w' => w'.cell? ⟨w.heap.size, 0, none⟩ = some (.slice A1 n1 c1) ∧ w'.cell? ⟨w.heap.size, 1, none⟩ = some (.slice A n c) ∧ w'.cell? ⟨w.heap.size + 1, 0, none⟩ = some (.int .i64 d.1) ∧ w'.cell? ⟨w.heap.size + 1, 1, none⟩ = some (.int .i64 d.2.1) ∧ w'.cell? ⟨w.heap.size + 1, 2, none⟩ = some (.int .i64 d.2.2))
      (first
        | (refine ⟨cell_on HS0.out.1 ?_, cell_on HS0.out.2.1 ?_, cell_on HS0.out.2.2.1 ?_, cell_on HS0.out.2.2.2.1 ?_, cell_on HS0.out.2.2.2.2 ?_⟩ <;> ((repeat' (first | assumption | exact Below.refl _ _ | refine below_alloc ?_ | refine below_drew ?_)); done))
        | (refine ⟨cell_set (cell_set (cell_on HS0.out.1 ?_) ?_) ?_, cell_set (cell_set (cell_on HS0.out.2.1 ?_) ?_) ?_, cell_set (cell_set (cell_on HS0.out.2.2.1 ?_) ?_) ?_, cell_set (cell_set (cell_on HS0.out.2.2.2.1 ?_) ?_) ?_, cell_set (cell_set (cell_on HS0.out.2.2.2.2 ?_) ?_) ?_⟩ <;> first | exact hbN | (dsimp only; omega) | omega))
      (first
        | (go_at_call 76
           refine Calls.mono (concatDot_any _ (.slice A n c) (.slice (some ⟨w2.heap.size, 0, none⟩) 1 1) ds [d] _ ?_ ?_ (HD2.out.below ?_) (rd_one _ _ d ⟨?_, ?_, ?_⟩ ?_) ?_ ?_) ?_
           · (first | (refine box_at _ _ _ 0 ?_; (first | rfl | (simp; done))) | (refine cell_up _ ?_; refine box_at _ _ _ 0 ?_; (first | rfl | (simp; done))))
           · (first | (refine box_at _ _ _ 1 ?_; (first | rfl | (simp; done))) | (refine cell_up _ ?_; refine box_at _ _ _ 1 ?_; (first | rfl | (simp; done))))
           · (repeat' (first | assumption | exact Below.refl _ _ | refine below_alloc ?_ | refine below_drew ?_))
           · (first | (refine box_at _ _ _ 0 ?_; (first | rfl | (simp; done))) | (refine cell_up _ ?_; refine box_at _ _ _ 0 ?_; (first | rfl | (simp; done))))
           · (first | (refine box_at _ _ _ 1 ?_; (first | rfl | (simp; done))) | (refine cell_up _ ?_; refine box_at _ _ _ 1 ?_; (first | rfl | (simp; done))))
           · (first | (refine box_at _ _ _ 2 ?_; (first | rfl | (simp; done))) | (refine cell_up _ ?_; refine box_at _ _ _ 2 ?_; (first | rfl | (simp; done))))
           · simp; omega
           · have := HOK.out.2.1; omega
           · simp
           rintro e w4 ⟨vd, rfl, hod, hbd⟩
           have hbD : Below w2.heap.size w2 w4 := by
             refine below_next ?_ hbd
             (repeat' (first | assumption | exact Below.refl _ _ | refine below_alloc ?_ | refine below_drew ?_)))
        | (go_at_call 74
           refine Calls.mono (normSpec (.slice A1 n1 c1) vd ms (ds ++ [d]) _ (HM2.out.below hbD) hod.rd HLM.out HLD.out) ?_
           rintro e w5 hp
           obtain ⟨ms5, ds5, A5, A6, n5, n6, c5, c6, er, rfl, hm5, hd5, hb5, hr5⟩ := normRel_of hp
           have hbN : Below w2.heap.size w2 w5 := below_next hbD hb5
           have r5 := (hbN.block _ hlt4).trans HR1.out
           have q0 := cell_of_row w5 _ 0 _ _ (0, 0) r5
           have q1 := cell_of_row w5 _ 1 _ _ (0, 0) r5
           have f0 := frozen_of_row w5 _ 0 _ _ r5
           have f1 := frozen_of_row w5 _ 1 _ _ r5
           have R5 := Lib.hid r5
           have HM6 := Lib.hid (hm5.base_le (below_size hbD))
           have HD6 := Lib.hid (hd5.base_le (below_size hbD))
           have HR6 := Lib.hid hr5
           have HBN := Lib.hid hbN
           clear r5 hm5 hd5 hr5)
        | fail)
    all_goals
      go_wp2
      have hr := Joins.block_setCell (Joins.block_setCell R5.out (i := 0) (.slice A5 n5 c5)) (i := 1) (.slice A6 n6 c6)
      have p0 := cell_of_row _ _ 0 _ _ (0, 0) hr
      have p1 := cell_of_row _ _ 1 _ _ (0, 0) hr
      have ap2 : Apart (w.heap.size + 2) (.slice A5 n5 c5) := fun g e => by have := (World.ownsRow.lt HM6.out g e).1; omega
      have ap3 : Apart (w.heap.size + 2) (.slice A6 n6 c6) := fun g e => by have := (World.ownsRow.lt HD6.out g e).1; omega
      have hle : w.heap.size ≤ w2.heap.size := by omega
      refine bodyPost_ret (v := .tuple #[.agg #[.slice A5 n5 c5, .slice A6 n6 c6], .int .i64 er]) (by simp [results, Try.results31, go_sem, p0, p1]) rfl ⟨ms5, ds5, A5, A6, n5, n6, c5, c6, er, rfl, ?_, ?_, ?_, .inr ⟨HOK.out, HR6.out⟩⟩
      · exact ((HM6.out.setOther ap2 _).setOther ap2 _).base_le hle
      · exact ((HD6.out.setOther ap3 _).setOther ap3 _).base_le hle
      · exact ((HB0.out.trans ((HB2.out.trans (HBN.out.mono HB2.out.size)).mono hsW)).setCell (show w.heap.size ≤ w.heap.size + 2 by omega) _).setCell (show w.heap.size ≤ w.heap.size + 2 by omega) _
end Go.Proofs.Ytfplblhmeohhmaa
