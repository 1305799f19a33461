/- slices.Clone at marks and at dots; a copy of a context. -/
import Derived.Test.YtfplblhmeohhmaaCRefAdd
import Derived.Test.YtfplblhmeohhmaaCRefJoin
import Derived.Test.YtfplblhmeohhmaaCSame
namespace Go.Proofs.Ytfplblhmeohhmaa
open Go.RowKit Go.Sort Go.BigFrame
open Go.Lib (byteCells byteCells_length)

set_option maxRecDepth 100000 in
set_option maxHeartbeats 1600000 in
theorem cloneMark_any (v : Value) (ds : List DotA) (w : World) (h : RdD w v ds) (hl : ds.length ≤ 1099511627776) : Calls Try.prog 72 #[v] w (GivesD 55 ds w) := by
  obtain ⟨A, c, rfl, hc, hx⟩ := h
  obtain ⟨n, hn⟩ : ∃ n, Hid (n = ds.length) := ⟨_, Lib.hid rfl⟩
  rw [← hn.out] at hl hc ⊢
  have he := fun u => Lib.run_eql_slice_nil (P := Try.prog) u 41 55 A n c 0 0 Try.underlying41
  cases A with
  | none =>
    have hb : Hid (ds = []) := Lib.hid (by
      match ds, hx with
      | [], _ => rfl
      | x :: r, hx => obtain ⟨ad, e, _⟩ := hx 0 x rfl; cases e)
    have he : ∀ u : World, (binOp .eql 41 (.slice none n c) (.slice none 0 0)).run Try.prog u = .ok (.bool true) u := fun u => he u
    clear hx
    go_enter Try.func72, Try.ntmps72
    go_wp2
    go_ret
    exact ⟨_, rfl, by rw [hb.out]; exact ownD_nil _ _ _, Below.refl _ _⟩
  | some ad =>
    have he : ∀ u : World, (binOp .eql 41 (.slice (some ad) n c) (.slice none 0 0)).run Try.prog u = .ok (.bool false) u := fun u => he u
    have hown0 : OwnD 55 (w.alloc (.cells #[] 55)) w.heap.size (.slice (some ⟨w.heap.size, 0, none⟩) 0 0) [] := World.ownsRow_made w #[] 0 (Nat.le_refl _) (by decide) (by simp)
    have hx' := hx.below (below_alloc (o := .cells #[] 55) (Below.refl w.heap.size w)) (Nat.le_refl _)
    have HX := Lib.hid hx'
    have HO := Lib.hid hown0
    clear hx hx' hown0
    go_enter Try.func72, Try.ntmps72
    go_wp2_with (at_builtin; refine wpList_append_dots Try.underlying41 infoMark _ rfl (.tmp 5) (.tmp 6) rfl rfl HO.out rfl hn.out HX.out ?_ ?_ ?_)
    case _ => have := hn.out; simp; omega
    case _ => simp
    intro v1 w1 hown1 hg1 hat1
    go_wp2
    go_ret
    exact ⟨_, rfl, by simpa using hown1, (below_alloc (Below.refl _ _)).grown hg1 (by simp) (by simp [Value.ownBlock])⟩

set_option maxRecDepth 100000 in
set_option maxHeartbeats 1600000 in
theorem cloneDot_any (v : Value) (ds : List DotA) (w : World) (h : RdD w v ds) (hl : ds.length ≤ 1099511627776) : Calls Try.prog 73 #[v] w (GivesD 44 ds w) := by
  obtain ⟨A, c, rfl, hc, hx⟩ := h
  obtain ⟨n, hn⟩ : ∃ n, Hid (n = ds.length) := ⟨_, Lib.hid rfl⟩
  rw [← hn.out] at hl hc ⊢
  have he := fun u => Lib.run_eql_slice_nil (P := Try.prog) u 42 44 A n c 0 0 Try.underlying42
  cases A with
  | none =>
    have hb : Hid (ds = []) := Lib.hid (by
      match ds, hx with
      | [], _ => rfl
      | x :: r, hx => obtain ⟨ad, e, _⟩ := hx 0 x rfl; cases e)
    have he : ∀ u : World, (binOp .eql 42 (.slice none n c) (.slice none 0 0)).run Try.prog u = .ok (.bool true) u := fun u => he u
    clear hx
    go_enter Try.func73, Try.ntmps73
    go_wp2
    go_ret
    exact ⟨_, rfl, by rw [hb.out]; exact ownD_nil _ _ _, Below.refl _ _⟩
  | some ad =>
    have he : ∀ u : World, (binOp .eql 42 (.slice (some ad) n c) (.slice none 0 0)).run Try.prog u = .ok (.bool false) u := fun u => he u
    have hown0 : OwnD 44 (w.alloc (.cells #[] 44)) w.heap.size (.slice (some ⟨w.heap.size, 0, none⟩) 0 0) [] := World.ownsRow_made w #[] 0 (Nat.le_refl _) (by decide) (by simp)
    have hx' := hx.below (below_alloc (o := .cells #[] 44) (Below.refl w.heap.size w)) (Nat.le_refl _)
    have HX := Lib.hid hx'
    have HO := Lib.hid hown0
    clear hx hx' hown0
    go_enter Try.func73, Try.ntmps73
    go_wp2_with (at_builtin; refine wpList_append_dots Try.underlying42 infoDot _ rfl (.tmp 5) (.tmp 6) rfl rfl HO.out rfl hn.out HX.out ?_ ?_ ?_)
    case _ => have := hn.out; simp; omega
    case _ => simp
    intro v1 w1 hown1 hg1 hat1
    go_wp2
    go_ret
    exact ⟨_, rfl, by simpa using hown1, (below_alloc (Below.refl _ _)).grown hg1 (by simp) (by simp [Value.ownBlock])⟩

set_option maxRecDepth 100000 in
set_option maxHeartbeats 6400000 in
/-- A copy of a context. -/
theorem context_any (v : Value) (ms ds : List DotA) (w : World) (h : RdC w v ms ds) (hlm : ms.length ≤ 1099511627776) (hld : ds.length ≤ 1099511627776) : Calls Try.prog 28 #[v] w (MadeC ms ds w) := by
  obtain ⟨mv, dv, rfl, hm, hd⟩ := h
  obtain ⟨W, hW⟩ : ∃ W, Hid (W = (w.alloc (.cells #[mv, dv] 48)).alloc (.cells #[.slice none 0 0, .slice none 0 0] 48)) := ⟨_, Lib.hid rfl⟩
  have hb0 : Below w.heap.size w W := by rw [hW.out]; exact below_alloc (below_alloc (Below.refl _ _))
  have hz : W.heap.size = w.heap.size + 2 := by rw [hW.out]; simp
  have hbc : BoxC W w.heap.size mv dv := by
    rw [hW.out]
    exact ⟨cell_up _ (box_cell _ _ _ 0), cell_up _ (box_cell _ _ _ 1)⟩
  have hrow : W.heap[w.heap.size + 1]? = some (.cells #[.slice none 0 0, .slice none 0 0] 48 (0, 0)) := by
    have := heap_alloc_new (w.alloc (.cells #[mv, dv] 48)) (.cells #[.slice none 0 0, .slice none 0 0] 48)
    rw [← hW.out, show (w.alloc (.cells #[mv, dv] 48)).heap.size = w.heap.size + 1 by simp] at this
    exact this
  have HM := Lib.hid (hm.below hb0)
  have HD := Lib.hid (hd.below hb0)
  obtain ⟨A, c, rfl, hc, _⟩ := hd
  obtain ⟨A1, c1, rfl, hc1, _⟩ := hm
  have HS0 := Lib.hid hbc
  have HR1 := Lib.hid hrow
  have HB0 := Lib.hid hb0
  have HLM := Lib.hid hlm
  have HLD := Lib.hid hld
  obtain ⟨n, hn⟩ : ∃ n, Hid (n = ds.length) := ⟨_, Lib.hid rfl⟩
  obtain ⟨n1, hn1⟩ : ∃ n1, Hid (n1 = ms.length) := ⟨_, Lib.hid rfl⟩
  have hWe := hW.out.symm
  rw [← hn.out] at hWe HS0 HD ⊢
  rw [← hn1.out] at hWe HS0 HM ⊢
  have hlt2 : w.heap.size + 1 < W.heap.size := by omega
  have hsW : w.heap.size ≤ W.heap.size := by omega
  clear hb0 hbc hrow hz hc hc1 hlm hld
  go_enter Try.func28, Try.ntmps28
  go_upto_region 1 with fail
  clear hWe
  go_region_held3 (fun w' => w'.cell? ⟨w.heap.size, 0, none⟩ = some (.slice A1 n1 c1) ∧ w'.cell? ⟨w.heap.size, 1, none⟩ = some (.slice A n c))
    (first
      | (refine ⟨cell_on HS0.out.1 ?_, cell_on HS0.out.2 ?_⟩ <;> ((repeat' (first | assumption | exact Below.refl _ _ | refine below_alloc ?_ | refine below_drew ?_)); done))
      | (refine ⟨cell_set (cell_set (cell_on HS0.out.1 ?_) ?_) ?_, cell_set (cell_set (cell_on HS0.out.2 ?_) ?_) ?_⟩ <;> first | exact hbM | exact hbD | (dsimp only; omega) | omega)
      | (refine ⟨cell_set (cell_set (cell_on HS0.out.1 hbD) ?_) ?_, cell_set (cell_set (cell_on HS0.out.2 hbD) ?_) ?_⟩ <;> first | (dsimp only; omega) | omega))
    (first
      | (go_at_call 72
         refine Calls.mono (cloneMark_any (.slice A1 n1 c1) ms _ (HM.out.below ?_) HLM.out) ?_
         · (repeat' (first | assumption | exact Below.refl _ _ | refine below_alloc ?_ | refine below_drew ?_))
         rintro e w3 ⟨vm, rfl, hom, hbm⟩
         have hbM : Below W.heap.size W w3 := by
           refine below_next ?_ hbm
           (repeat' (first | assumption | exact Below.refl _ _ | refine below_alloc ?_ | refine below_drew ?_))
         obtain ⟨A5, c5, rfl⟩ := ownD_slice hom
         obtain ⟨N5, hN5⟩ : ∃ N, Hid (N = ms.length) := ⟨_, Lib.hid rfl⟩
         rw [← hN5.out] at hom ⊢
         have r5 := (hbM.block _ hlt2).trans HR1.out
         have q0 := cell_of_row w3 _ 0 _ _ (0, 0) r5
         have q1 := cell_of_row w3 _ 1 _ _ (0, 0) r5
         have f0 := frozen_of_row w3 _ 0 _ _ r5
         have f1 := frozen_of_row w3 _ 1 _ _ r5)
      | (go_at_call 73
         refine Calls.mono (cloneDot_any (.slice A n c) ds _ (HD.out.below ?_) HLD.out) ?_
         · (repeat' (first | assumption | exact Below.refl _ _ | refine below_alloc ?_ | refine below_drew ?_))
         rintro e w4 ⟨vd, rfl, hod, hbd⟩
         have hbD : Below W.heap.size W w4 := by
           refine below_next ?_ hbd
           (repeat' (first | assumption | exact Below.refl _ _ | refine below_alloc ?_ | refine below_drew ?_))
         obtain ⟨A6, c6, rfl⟩ := ownD_slice hod
         obtain ⟨N6, hN6⟩ : ∃ N, Hid (N = ds.length) := ⟨_, Lib.hid rfl⟩
         rw [← hN6.out] at hod ⊢
         have r6 := (hbD.block _ hlt2).trans HR1.out
         have s0 := cell_of_row w4 _ 0 _ _ (0, 0) r6
         have s1 := cell_of_row w4 _ 1 _ _ (0, 0) r6
         have g0 := frozen_of_row w4 _ 0 _ _ r6
         have g1 := frozen_of_row w4 _ 1 _ _ r6)
      | fail)
  go_wp2
  have hr := Joins.block_setCell (Joins.block_setCell r6 (i := 0) (.slice A5 N5 c5)) (i := 1) (.slice A6 N6 c6)
  have p0 := cell_of_row _ _ 0 _ _ (0, 0) hr
  have p1 := cell_of_row _ _ 1 _ _ (0, 0) hr
  have hm6 : OwnD 55 w4 W.heap.size (.slice A5 N5 c5) ms := hom.below hbd
  have hd6 : OwnD 44 w4 W.heap.size (.slice A6 N6 c6) ds := hod.base_le hbM.size
  have ap2 : Apart (w.heap.size + 1) (.slice A5 N5 c5) := fun g e => by have := (World.ownsRow.lt hm6 g e).1; omega
  have ap3 : Apart (w.heap.size + 1) (.slice A6 N6 c6) := fun g e => by have := (World.ownsRow.lt hd6 g e).1; omega
  refine bodyPost_ret (v := .agg #[.slice A5 N5 c5, .slice A6 N6 c6]) (by simp [results, Try.results28, go_sem, p0, p1]) rfl ⟨_, _, rfl, ?_, ?_, ?_⟩
  · exact ((hm6.setOther ap2 _).setOther ap2 _).base_le hsW
  · exact ((hd6.setOther ap3 _).setOther ap3 _).base_le hsW
  · exact ((HB0.out.trans (hbD.mono hsW)).setCell (show w.heap.size ≤ w.heap.size + 1 by omega) _).setCell (show w.heap.size ≤ w.heap.size + 1 by omega) _
end Go.Proofs.Ytfplblhmeohhmaa
