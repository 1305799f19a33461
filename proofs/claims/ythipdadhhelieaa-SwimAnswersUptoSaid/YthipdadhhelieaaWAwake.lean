/- A program that is awake: what every law of this layer calls. -/
import Derived.Test.YthipdadhhelieaaWBegin
namespace Go.Proofs.Ythipdadhhelieaa
open Go.RowKit Go.Sort Go.BigFrame

theorem infoPeer : (Try.prog.info? 38).map (fun i => (i.zero, i.size, i.bytes)) = some (some (.agg #[.int .i64 0, .int .i64 0, .int .i64 0]), 3, 24) := by kernel_rfl
def T0 : TabA := ⟨0, 0, noSt, noSt, noSt, noSt, noSt, noSt, noSt, noSt, .slice none 0 0, (-1, 0, 0, false)⟩
/-- A table of node 0 that was just made. -/
def T1 : TabA := ⟨0, 0, ((0, 0, 1), 0), noSt, noSt, noSt, noSt, noSt, noSt, noSt, .slice none 0 0, (-1, 0, 0, false)⟩

set_option maxRecDepth 100000 in
set_option maxHeartbeats 1600000 in
theorem new_zero (w : World) : Calls Try.prog 11 #[.int .i64 0] w fun e w' => ∃ g, w.heap.size ≤ g ∧ e = .returned (.tuple #[.pointer (some ⟨g, 0, none⟩), .int .i64 0]) ∧ TabAt w' g T1 ∧ Below w.heap.size w w' := by
  obtain ⟨W, hW⟩ : ∃ W, Hid (W = w.alloc (.cells T0.cells 69)) := ⟨_, Lib.hid rfl⟩
  have HB : Hid (Below w.heap.size w W) := Lib.hid (by rw [hW.out]; exact (Below.refl _ _).alloc (Nat.le_refl _) _)
  have HT : Hid (TabAt W w.heap.size T0) := Lib.hid (by rw [hW.out]; exact heap_alloc_new w _)
  have H0 : Hid (Calls Try.prog 38 #[.int .i64 0] w fun e w' => e = .returned (.bool true) ∧ w = w') := Lib.hid (isNode_any 0 w)
  have H1 : Hid (Calls Try.prog 39 #[.pointer (some ⟨w.heap.size, 0, none⟩), .agg #[.int .i64 0, .int .i64 0, .int .i64 1]] W fun e w' => e = .returned (.tuple #[]) ∧ TabAt w' w.heap.size T1 ∧ Turns w.heap.size W.heap.size W w') := Lib.hid (learn_any w.heap.size T0 0 (by decide) (0, 0, 1) rfl W HT.out)
  go_enter Try.func11, Try.ntmps11
  go_upto_region 4 with ((go_at_call 38); (with_reducible refine H0.out.mono ?_); rintro e w1 ⟨rfl, rfl⟩)
  have hWe : w.alloc (.cells T0.cells 69) = W := hW.out.symm
  unfold T0 TabA.cells noSt at hWe
  simp only at hWe
  rw [hWe]
  clear hWe
  go_wp2_with ((go_at_call 39); (with_reducible refine H1.out.mono ?_); rintro e w2 ⟨rfl, ht2, hg2⟩)
  go_ret2
  exact ⟨w.heap.size, Nat.le_refl _, rfl, ht2, ((Turns.of HB.out).trans (hg2.mono HB.out.size)).below (Nat.le_refl _)⟩

set_option maxRecDepth 100000 in
set_option maxHeartbeats 1600000 in
/-- Hear of node 1. -/
theorem hear_one (g b : Nat) (w : World) (h : TabAt w g T1) (hr : w.heap[b]? = some (.cells #[.int .i64 1, .int .i64 0, .int .i64 1] 38 (0, 0))) (hbg : b ≠ g) :
    Calls Try.prog 15 #[.pointer (some ⟨g, 0, none⟩), .slice (some ⟨b, 0, none⟩) 1 1, .int .i64 0] w fun e w' => ∃ A c, e = .returned (.slice A 1 c) ∧ TabAt w' g T2 ∧ Turns g w.heap.size w w' := by
  have HT := Lib.hid h
  have HR := Lib.hid hr
  have HBG := Lib.hid hbg
  have hbl : b < w.heap.size := (Array.getElem?_eq_some_iff.1 hr).1
  have H0 : Hid (Calls Try.prog 40 #[.pointer (some ⟨g, 0, none⟩)] w fun e w' => e = .returned (.bool true) ∧ w = w') := Lib.hid (made_any g T1 0 (by decide) rfl w h)
  have H1 : Hid (Calls Try.prog 41 #[.pointer (some ⟨g, 0, none⟩), .int .i64 0] w fun e w' => e = .returned (.tuple #[]) ∧ TabAt w' g T1 ∧ Turns g w.heap.size w w') := Lib.hid (pass_any g T1 0 w h)
  have H2 : ∀ w', TabAt w' g T1 → Hid (Calls Try.prog 42 #[.pointer (some ⟨g, 0, none⟩), .agg #[.int .i64 1, .int .i64 0, .int .i64 1]] w' fun e w'' => ∃ b1, w'.heap.size ≤ b1 ∧ e = .returned (.slice (some ⟨b1, 0, none⟩) 1 1) ∧ OwnD 38 w'' w'.heap.size (.slice (some ⟨b1, 0, none⟩) 1 1) [(1, 0, 1)] ∧ TabAt w'' g T2 ∧ Turns g w'.heap.size w' w'') := fun w' hT => Lib.hid (hear_new g T1 1 (by decide) (1, 0, 1) rfl (by decide) (by decide) (by decide) w' hT)
  clear h hr hbg
  go_enter Try.func15, Try.ntmps15
  go_upto_region 4 with (first
    | (go_at_call 40
       (with_reducible refine H0.out.mono ?_); rintro e w1 ⟨rfl, rfl⟩)
    | (go_at_call 41
       (with_reducible refine H1.out.mono ?_); rintro e w1 ⟨rfl, ht1, hg1⟩))
  have HG1 := Lib.hid hg1
  have HT1 := Lib.hid ht1
  have hr1 := (hg1.block b hbl HBG.out).trans HR.out
  have HR1 := Lib.hid hr1
  clear ht1 hg1 hr1 H0 H1
  go_wp2
  go_loopw [18, 7] (fun i x wr => (i = .int .i64 0 ∧ x = .slice none 0 0 ∧ Hid (wr = w1)) ∨ (i = .int .i64 1 ∧ (∃ A c, x = .slice A 1 c) ∧ Hid (TabAt wr g T2 ∧ Turns g w.heap.size w wr))) (fun i _ _ => 1 - (intOf i).toNat)
  case atStart => exact .inl ⟨rfl, rfl, Lib.hid rfl⟩
  case round =>
    rcases hrel with ⟨rfl, rfl, hwr⟩ | ⟨rfl, ⟨A, c, rfl⟩, hx⟩
    · obtain ⟨V, hV⟩ : ∃ V, Hid (V = wr.alloc (.cells #[.int .i64 1, .int .i64 0, .int .i64 1] 38)) := ⟨_, Lib.hid rfl⟩
      have HWR : Hid (TabAt wr g T1 ∧ Turns g w.heap.size w wr ∧ wr.heap[b]? = some (.cells #[.int .i64 1, .int .i64 0, .int .i64 1] 38 (0, 0))) := Lib.hid (by rw [hwr.out]; exact ⟨HT1.out, HG1.out, HR1.out⟩)
      have hBV : Below wr.heap.size wr V := by rw [hV.out]; exact (Below.refl _ _).alloc (Nat.le_refl _) _
      have HTV : Hid (TabAt V g T1) := Lib.hid (HWR.out.1.below hBV HWR.out.1.lt)
      have k0 : wr.cell? ⟨b, 0, none⟩ = some (.int .i64 1) := cell_of_row _ _ 0 _ _ (0, 0) HWR.out.2.2
      have k1 : wr.cell? ⟨b, 1, none⟩ = some (.int .i64 0) := cell_of_row _ _ 1 _ _ (0, 0) HWR.out.2.2
      have k2 : wr.cell? ⟨b, 2, none⟩ = some (.int .i64 1) := cell_of_row _ _ 2 _ _ (0, 0) HWR.out.2.2
      have v0 : V.cell? ⟨wr.heap.size, 0, none⟩ = some (.int .i64 1) := by rw [hV.out]; exact box_cell _ _ _ 0
      have v1 : V.cell? ⟨wr.heap.size, 1, none⟩ = some (.int .i64 0) := by rw [hV.out]; exact box_cell _ _ _ 1
      have v2 : V.cell? ⟨wr.heap.size, 2, none⟩ = some (.int .i64 1) := by rw [hV.out]; exact box_cell _ _ _ 2
      have HGV : Hid (Turns g w.heap.size w V) := Lib.hid (HWR.out.2.1.trans ((Turns.of hBV).mono HWR.out.2.1.size))
      have hH := H2 V HTV.out
      clear hBV H2 hwr
      go_upto_region 8 with fail
      rw [← hV.out]
      clear k0 k1 k2
      go_wp2_with (first
        | (go_at_call 42
           (with_reducible refine hH.out.mono ?_); rintro e w3 ⟨b1, hb1, rfl, ho3, ht3, hg3⟩
           obtain ⟨A3, c3, he3, _, hr3⟩ := ho3.rd
           obtain ⟨rfl, _, rfl⟩ : A3 = some ⟨b1, 0, none⟩ ∧ 1 = 1 ∧ c3 = 1 := by injection he3 with e1 e2 e3; exact ⟨e1.symm, rfl, e3.symm⟩
           have HR3 := Lib.hid hr3
           have HT3 := Lib.hid ht3
           have HG3 := Lib.hid hg3
           have hz3 : w3.heap.size ≤ w3.heap.size := Nat.le_refl _
           clear ho3 hr3 ht3 hg3 he3)
        | (at_builtin; go_must (refine wpList_append_dots Try.underlying31 infoPeer _ rfl (.tmp 22) (.tmp 25) rfl (by rfl) (ownD_nil 38 w3 w3.heap.size) (by rfl) (by rfl) HR3.out (by decide) hz3 ?_)))
      intro v5 w5 ho5 hg5 _
      have hT5 : TabAt w5 g T2 := HT3.out.keep (hg5.block g HT3.out.lt (by simp [_root_.Go.Value.ownBlock]))
      have hG5 : Turns g w.heap.size w w5 := (HGV.out.trans (HG3.out.mono HGV.out.size)).trans ((Turns.of (Below.of_grown hg5 (by rfl) (Nat.le_refl _))).mono (Nat.le_trans HGV.out.size HG3.out.size))
      obtain ⟨A5, c5, hv5⟩ := ownD_slice ho5
      have hv5 : v5 = .slice A5 1 c5 := hv5
      subst hv5
      clear hg5 ho5
      go_wp2
      go_roundw
      case rel => exact .inr ⟨by first | rfl | go_num, ⟨A5, c5, rfl⟩, Lib.hid ⟨hT5, hG5⟩⟩
      case measure => simp [intOf]
    · go_wp2
      go_ret
      exact ⟨A, c, rfl, hx.out.1, hx.out.2⟩
end Go.Proofs.Ythipdadhhelieaa
