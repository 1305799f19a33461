/- GossipNobody. -/
import Derived.Test.YtefciibkcafbiaaGBase
import Derived.Test.YtefciibkcafbiaaGClone
namespace Go.Proofs.Ytefciibkcafbiaa
open Go.RowKit Go.Sort Go.BigFrame

theorem new_three (w : World) : Calls Try.prog 6 #[.int .i64 3] w fun e w' => ∃ g, w.heap.size ≤ g ∧ e = .returned (.tuple #[.pointer (some ⟨g, 0, none⟩), .int .i64 0]) ∧ BoxAt w' g true 3 (-1) 0 ∧ Below w.heap.size w w' := by
  have H0 := fun w => Lib.hid (isNode_any 3 w)
  have e3 : isNodeB 3 = true := rfl
  rw [e3] at H0
  go_enter Try.func6, Try.ntmps6
  go_wp2_with ((go_at_call 14); (with_reducible refine (H0 _).out.mono ?_); rintro e w1 ⟨rfl, rfl⟩)
  go_ret2
  exact ⟨_, Nat.le_refl _, rfl, heap_alloc_new w _, (Below.refl _ _).alloc (Nat.le_refl _) _⟩
theorem hear_nothing (g : Nat) (s t a : Int) (w : World) (h : BoxAt w g true s t a) : Calls Try.prog 7 #[.pointer (some ⟨g, 0, none⟩), .slice none 0 0] w fun e w' => e = .returned (.int .i64 0) ∧ w = w' := by
  have H0 := Lib.hid (isMade_box g true s t a w h)
  clear h
  go_enter Try.func7, Try.ntmps7
  go_upto_region 3 with ((go_at_call 15); (with_reducible refine H0.out.mono ?_); rintro e w1 ⟨rfl, rfl⟩)
  go_wp2
  refine wp_loop_rounds 1 ?_
  rw [rounds_succ]
  go_wp2
  refine wp_loop_rounds 1 ?_
  rw [rounds_succ]
  go_wp2
  go_ret
  exact ⟨rfl, rfl⟩

set_option maxRecDepth 100000 in
set_option maxHeartbeats 3200000 in
theorem nobody_walk (l : Value) (ps : List PeerA) (now : Int) (w : World) (h : RdD w l ps) (hl : ps.length ≤ 1048576) :
    Calls Try.prog 5 #[l, .int .i64 now] w fun e w' => e = .returned (.bool true) ∧ Below w.heap.size w w' := by
  obtain ⟨W1, hW1⟩ : ∃ W1, Hid (W1 = w.alloc (.cells (bcells false 0 0 0) 66)) := ⟨_, Lib.hid rfl⟩
  obtain ⟨W2, hW2⟩ : ∃ W2, Hid (W2 = W1.alloc (.cells #[.pointer none, .pointer (some ⟨w.heap.size, 0, none⟩)] 23)) := ⟨_, Lib.hid rfl⟩
  have z1 : W1.heap.size = w.heap.size + 1 := by rw [hW1.out]; simp
  have b1 : Below w.heap.size w W1 := by rw [hW1.out]; exact (Below.refl _ _).alloc (Nat.le_refl _) _
  have b2 : Below W1.heap.size W1 W2 := by rw [hW2.out]; exact (Below.refl _ _).alloc (Nat.le_refl _) _
  have r1 : BoxAt W1 w.heap.size false 0 0 0 := by rw [hW1.out]; exact heap_alloc_new w _
  have r2 : W2.heap[W1.heap.size]? = some (.cells #[.pointer none, .pointer (some ⟨w.heap.size, 0, none⟩)] 23 (0, 0)) := by rw [hW2.out]; exact heap_alloc_new W1 _
  have R1 : Hid (BoxAt W2 w.heap.size false 0 0 0) := Lib.hid (r1.below b2 (by omega))
  have R2 := Lib.hid r2
  have HL2 : Hid (W1.heap.size < W2.heap.size) := Lib.hid (Array.getElem?_eq_some_iff.1 r2).1
  have HB : Hid (Below w.heap.size w W2) := Lib.hid (b1.trans (b2.mono (by omega)))
  have HRd : Hid (RdD W2 l ps) := Lib.hid (h.below HB.out)
  have hAll : w.alloc (.cells (bcells false 0 0 0) 66) = W1 := hW1.out.symm
  unfold bcells at hAll
  have hWe := hW2.out.symm
  have HN := fun w' => Lib.hid (new_three w')
  clear z1 b1 b2 r1 r2 h
  go_enter Try.func5, Try.ntmps5
  go_upto_region 2 with fail
  clear hAll hWe hW1 hW2
  go_loopw [13] (fun i wr => ∃ j : Nat, j ≤ 2 ∧ i = .int .i64 j ∧ Below W2.heap.size W2 wr) (fun i _ => 2 - (intOf i).toNat)
  case atStart => exact ⟨0, Nat.zero_le _, rfl, Below.refl _ _⟩
  case round =>
    obtain ⟨j, hj, rfl, hb⟩ := hrel
    have s1 := (hb.block _ HL2.out).trans R2.out
    have p0 : wr.cell? ⟨W1.heap.size, 0, none⟩ = some (.pointer none) := cell_of_row _ _ 0 _ _ (0, 0) s1
    have p1 : wr.cell? ⟨W1.heap.size, 1, none⟩ = some (.pointer (some ⟨w.heap.size, 0, none⟩)) := cell_of_row _ _ 1 _ _ (0, 0) s1
    have HTZ := Lib.hid (R1.out.below hb R1.out.lt)
    rcases (by omega : j = 0 ∨ j = 1 ∨ j = 2) with rfl | rfl | rfl
    · skip
      have hU : Unm wr (.pointer none) := .inl rfl
      have HC := Lib.hid (clone_peers l ps wr (HRd.out.below hb) hl)
      have HBE := Lib.hid hb
      clear hb s1
      go_wp2_with (first
        | (go_at_call 8
           (with_reducible refine HC.out.mono ?_); rintro e w1 ⟨u1, rfl, _, hb1⟩
           have HB1 := Lib.hid hb1
           have HU1 := Lib.hid (hU.below hb1 (Nat.le_refl _))
           have HH := Lib.hid (hear_un (.pointer none) u1 w1 HU1.out)
           have HR := Lib.hid (rumours_un (.pointer none) w1 HU1.out)
           have HT := Lib.hid (fun q => tick_un (.pointer none) q now (w1.alloc (.cells #[.int .i64 1, .int .i64 2] 3)) (HU1.out.below ((Below.refl _ _).alloc (Nat.le_refl _) _) (Nat.le_refl _)))
           clear hb1)
        | (go_at_call 7
           (with_reducible refine HH.out.mono ?_); rintro e w2 ⟨rfl, rfl⟩)
        | (go_at_call 13
           (with_reducible refine HR.out.mono ?_); rintro e w3 ⟨rfl, rfl⟩)
        | (go_at_call 11
           (with_reducible refine (HT.out _).mono ?_); rintro e w4 ⟨rfl, hb4⟩
           have HB4 := Lib.hid hb4
           clear hb4))
      go_roundw
      case rel => exact ⟨1, by omega, by first | rfl | go_num, (HBE.out.trans (HB1.out.mono HBE.out.size)).trans ((((Below.refl _ _).alloc (Nat.le_refl _) _).trans (HB4.out.mono (by simp))).mono (Nat.le_trans HBE.out.size HB1.out.size))⟩
      case measure => simp [intOf]
    · skip
      have hU : Unm wr (.pointer (some ⟨w.heap.size, 0, none⟩)) := .inr ⟨_, rfl, HTZ.out⟩
      have HC := Lib.hid (clone_peers l ps wr (HRd.out.below hb) hl)
      have HBE := Lib.hid hb
      clear hb s1
      go_wp2_with (first
        | (go_at_call 8
           (with_reducible refine HC.out.mono ?_); rintro e w1 ⟨u1, rfl, _, hb1⟩
           have HB1 := Lib.hid hb1
           have HU1 := Lib.hid (hU.below hb1 (Nat.le_refl _))
           have HH := Lib.hid (hear_un (.pointer (some ⟨w.heap.size, 0, none⟩)) u1 w1 HU1.out)
           have HR := Lib.hid (rumours_un (.pointer (some ⟨w.heap.size, 0, none⟩)) w1 HU1.out)
           have HT := Lib.hid (fun q => tick_un (.pointer (some ⟨w.heap.size, 0, none⟩)) q now (w1.alloc (.cells #[.int .i64 1, .int .i64 2] 3)) (HU1.out.below ((Below.refl _ _).alloc (Nat.le_refl _) _) (Nat.le_refl _)))
           clear hb1)
        | (go_at_call 7
           (with_reducible refine HH.out.mono ?_); rintro e w2 ⟨rfl, rfl⟩)
        | (go_at_call 13
           (with_reducible refine HR.out.mono ?_); rintro e w3 ⟨rfl, rfl⟩)
        | (go_at_call 11
           (with_reducible refine (HT.out _).mono ?_); rintro e w4 ⟨rfl, hb4⟩
           have HB4 := Lib.hid hb4
           clear hb4))
      go_roundw
      case rel => exact ⟨2, by omega, by first | rfl | go_num, (HBE.out.trans (HB1.out.mono HBE.out.size)).trans ((((Below.refl _ _).alloc (Nat.le_refl _) _).trans (HB4.out.mono (by simp))).mono (Nat.le_trans HBE.out.size HB1.out.size))⟩
      case measure => simp [intOf]
    · have HBE := Lib.hid hb
      clear hb s1
      go_wp2_with (first
        | (go_at_call 6
           (with_reducible refine (HN _).out.mono ?_); rintro e w2 ⟨g, hg, rfl, hbox, hb2⟩
           have HB2 := Lib.hid hb2
           have HH := Lib.hid (hear_nothing g 3 (-1) 0 w2 hbox)
           clear hg hbox hb2)
        | (go_at_call 7
           (with_reducible refine HH.out.mono ?_); rintro e w3 ⟨rfl, rfl⟩))
      go_ret
      exact ⟨rfl, HB.out.trans ((HBE.out.trans (HB2.out.mono HBE.out.size)).mono HB.out.size)⟩
end Go.Proofs.Ytefciibkcafbiaa
