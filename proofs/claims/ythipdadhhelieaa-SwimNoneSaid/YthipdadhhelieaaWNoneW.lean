/- SwimNone. -/
import Derived.Test.YthipdadhhelieaaWNone
namespace Go.Proofs.Ythipdadhhelieaa
open Go.RowKit Go.Sort Go.BigFrame

set_option maxRecDepth 100000 in
set_option maxHeartbeats 3200000 in
theorem none_walk (A0 : Option Addr) (l0 c0 : Nat) (op now : Int) (A1 : Option Addr) (l1 c1 : Nat) (k f r o n t : Int) (w : World) :
    Calls Try.prog 5 #[.slice A0 l0 c0, .agg #[.int .i64 op, .int .i64 now, .slice A1 l1 c1, .int .i64 k, .int .i64 f, .int .i64 r, .int .i64 o, .int .i64 n], .int .i64 t] w fun e w' => e = .returned (.bool true) ∧ Below w.heap.size w w' := by
  obtain ⟨W0, hW0⟩ : ∃ W0, Hid (W0 = w.alloc (.cells #[.int .i64 op, .int .i64 now, .slice A1 l1 c1, .int .i64 k, .int .i64 f, .int .i64 r, .int .i64 o, .int .i64 n] 33)) := ⟨_, Lib.hid rfl⟩
  obtain ⟨W1, hW1⟩ : ∃ W1, Hid (W1 = W0.alloc (.cells TZ.cells 69)) := ⟨_, Lib.hid rfl⟩
  obtain ⟨W2, hW2⟩ : ∃ W2, Hid (W2 = W1.alloc (.cells #[.pointer none, .pointer (some ⟨w.heap.size + 1, 0, none⟩)] 23)) := ⟨_, Lib.hid rfl⟩
  have z0 : W0.heap.size = w.heap.size + 1 := by rw [hW0.out]; simp
  have z1 : W1.heap.size = w.heap.size + 1 + 1 := by rw [hW1.out]; simp [z0]
  have b0 : Below w.heap.size w W0 := by rw [hW0.out]; exact (Below.refl _ _).alloc (Nat.le_refl _) _
  have b1 : Below W0.heap.size W0 W1 := by rw [hW1.out]; exact (Below.refl _ _).alloc (Nat.le_refl _) _
  have b2 : Below W1.heap.size W1 W2 := by rw [hW2.out]; exact (Below.refl _ _).alloc (Nat.le_refl _) _
  have r0 : W0.heap[w.heap.size]? = some (.cells #[.int .i64 op, .int .i64 now, .slice A1 l1 c1, .int .i64 k, .int .i64 f, .int .i64 r, .int .i64 o, .int .i64 n] 33 (0, 0)) := by rw [hW0.out]; exact heap_alloc_new w _
  have r1 : W1.heap[w.heap.size + 1]? = some (.cells TZ.cells 69 (0, 0)) := by rw [hW1.out, ← z0]; exact heap_alloc_new W0 _
  have r2 : W2.heap[w.heap.size + 1 + 1]? = some (.cells #[.pointer none, .pointer (some ⟨w.heap.size + 1, 0, none⟩)] 23 (0, 0)) := by rw [hW2.out, ← z1]; exact heap_alloc_new W1 _
  have R0 : Hid (W2.heap[w.heap.size]? = some (.cells #[.int .i64 op, .int .i64 now, .slice A1 l1 c1, .int .i64 k, .int .i64 f, .int .i64 r, .int .i64 o, .int .i64 n] 33 (0, 0))) := Lib.hid ((b2.block _ (by omega)).trans ((b1.block _ (by omega)).trans r0))
  have R1 : Hid (TabAt W2 (w.heap.size + 1) TZ) := Lib.hid ((b2.block _ (by omega)).trans r1)
  have R2 : Hid (W2.heap[W1.heap.size]? = some (.cells #[.pointer none, .pointer (some ⟨w.heap.size + 1, 0, none⟩)] 23 (0, 0))) := Lib.hid (by rw [hW2.out]; exact heap_alloc_new W1 _)
  have HL1 : Hid (W1.heap.size < W2.heap.size) := Lib.hid (Array.getElem?_eq_some_iff.1 R2.out).1
  have HL0 : Hid (w.heap.size < W2.heap.size) := Lib.hid (Array.getElem?_eq_some_iff.1 R0.out).1
  have HB : Hid (Below w.heap.size w W2) := Lib.hid ((b0.trans (b1.mono (by omega))).trans (b2.mono (by omega)))
  have HZ : Hid (w.heap.size + 1 + 1 < W2.heap.size) := Lib.hid (Array.getElem?_eq_some_iff.1 r2).1
  have hAll : (w.alloc (.cells #[.int .i64 op, .int .i64 now, .slice A1 l1 c1, .int .i64 k, .int .i64 f, .int .i64 r, .int .i64 o, .int .i64 n] 33)).alloc (.cells TZ.cells 69) = W1 := by rw [← hW0.out, hW1.out]
  unfold TZ TabA.cells noSt at hAll
  simp only at hAll
  have hWe := hW2.out.symm
  have HAW := fun w' => Lib.hid (awake_any w')
  have HM := fun w' => Lib.hid (msg_any op now A1 l1 c1 k f r o n t w')
  clear z0 z1 b0 b1 b2 r0 r1 r2
  go_enter Try.func5, Try.ntmps5
  go_upto_region 2 with fail
  clear hAll hWe hW0 hW1 hW2 HZ
  go_loopw [17] (fun i wr => ∃ j : Nat, j ≤ 2 ∧ i = .int .i64 j ∧ Below W2.heap.size W2 wr) (fun i _ => 2 - (intOf i).toNat)
  case atStart => exact ⟨0, Nat.zero_le _, rfl, Below.refl _ _⟩
  case round =>
    obtain ⟨j, hj, rfl, hb⟩ := hrel
    have s0 := (hb.block _ HL0.out).trans R0.out
    have s1 := (hb.block _ HL1.out).trans R2.out
    have HTZ := Lib.hid (R1.out.below hb R1.out.lt)
    have p0 : wr.cell? ⟨W1.heap.size, 0, none⟩ = some (.pointer none) := cell_of_row _ _ 0 _ _ (0, 0) s1
    have p1 : wr.cell? ⟨W1.heap.size, 1, none⟩ = some (.pointer (some ⟨w.heap.size + 1, 0, none⟩)) := cell_of_row _ _ 1 _ _ (0, 0) s1
    have k1 : wr.cell? ⟨w.heap.size, 1, none⟩ = some (.int .i64 now) := cell_of_row _ _ 1 _ _ (0, 0) s0
    have g0 := cell_regrown (cell_of_row _ _ 0 _ _ (0, 0) s0 : wr.cell? ⟨w.heap.size, 0, none⟩ = some (.int .i64 op))
    have g1 := cell_regrown (cell_of_row _ _ 1 _ _ (0, 0) s0 : wr.cell? ⟨w.heap.size, 1, none⟩ = some (.int .i64 now))
    have g2 := cell_regrown (cell_of_row _ _ 2 _ _ (0, 0) s0 : wr.cell? ⟨w.heap.size, 2, none⟩ = some (.slice A1 l1 c1))
    have g3 := cell_regrown (cell_of_row _ _ 3 _ _ (0, 0) s0 : wr.cell? ⟨w.heap.size, 3, none⟩ = some (.int .i64 k))
    have g4 := cell_regrown (cell_of_row _ _ 4 _ _ (0, 0) s0 : wr.cell? ⟨w.heap.size, 4, none⟩ = some (.int .i64 f))
    have g5 := cell_regrown (cell_of_row _ _ 5 _ _ (0, 0) s0 : wr.cell? ⟨w.heap.size, 5, none⟩ = some (.int .i64 r))
    have g6 := cell_regrown (cell_of_row _ _ 6 _ _ (0, 0) s0 : wr.cell? ⟨w.heap.size, 6, none⟩ = some (.int .i64 o))
    have g7 := cell_regrown (cell_of_row _ _ 7 _ _ (0, 0) s0 : wr.cell? ⟨w.heap.size, 7, none⟩ = some (.int .i64 n))
    have HBR : ∀ dq osq, Hid (Below W2.heap.size W2 (grow (redrawn wr dq) osq)) := fun dq osq => Lib.hid (below_re hb dq osq)
    have HBE := Lib.hid hb
    clear hb s0 s1
    rcases (by omega : j = 0 ∨ j = 1 ∨ j = 2) with rfl | rfl | rfl
    · skip
      have hU : Unm wr (.pointer none) := .inl rfl
      have HU := Lib.hid hU
      have H1 := Lib.hid (tick_un (.pointer none) now wr hU)
      have cM := fun dq osq => Calls.regrown_of (msg_any op now A1 l1 c1 k f r o n t (grow (redrawn wr dq) osq))
      have cO := fun dq osq => Calls.regrown_of (on_un (.pointer none) k f t r o n now (grow (redrawn wr dq) osq) (hU.below (below_regrown wr dq osq) (Nat.le_refl _)))
      have hH := fun dq osq => Lib.hid (hear_un (.pointer none) (.slice A0 l0 c0) now (grow (redrawn wr dq) osq) (hU.below (below_regrown wr dq osq) (Nat.le_refl _)))
      have hP := fun dq osq => Lib.hid (peers_un (.pointer none) (grow (redrawn wr dq) osq) (hU.below (below_regrown wr dq osq) (Nat.le_refl _)))
      have hS := fun dq osq => Lib.hid (status_un (.pointer none) t (grow (redrawn wr dq) osq) (hU.below (below_regrown wr dq osq) (Nat.le_refl _)))
      have hUp := fun dq osq => Lib.hid (up_un (.pointer none) t (grow (redrawn wr dq) osq) (hU.below (below_regrown wr dq osq) (Nat.le_refl _)))
      clear hU
      go_wp2_with ((go_at_call 18); (with_reducible refine H1.out.mono ?_); rintro e w1 ⟨rfl, rfl⟩)
      refine wp_region_quiet_below (by kernel_rfl) (by kernel_rfl) ?_
      repeat (first | go_big_quiet_step (first | with_reducible exact cM _ _ | with_reducible exact cO _ _) | quiet_step (first | with_reducible exact cM _ _ | with_reducible exact cO _ _))
      refine wpQuiet_nil ?_
      intro _ hw'
      obtain ⟨⟨dq, osq⟩, hw''⟩ := hw'
      subst hw''
      have HX := HBR dq osq
      go_wp2_with (first
        | (go_at_call 15
           (with_reducible refine (hH _ _).out.mono ?_); rintro e w3 ⟨rfl, rfl⟩)
        | (go_at_call 27
           (with_reducible refine (hP _ _).out.mono ?_); rintro e w3 ⟨rfl, rfl⟩)
        | (go_at_call 28
           (with_reducible refine (hS _ _).out.mono ?_); rintro e w3 ⟨rfl, rfl⟩)
        | (go_at_call 29
           (with_reducible refine (hUp _ _).out.mono ?_); rintro e w3 ⟨rfl, rfl⟩))
      go_roundw
      case rel => exact ⟨1, by omega, by first | rfl | go_num, HX.out⟩
      case measure => simp [intOf]
    · skip
      have hU : Unm wr (.pointer (some ⟨w.heap.size + 1, 0, none⟩)) := .inr ⟨_, rfl, HTZ.out⟩
      have HU := Lib.hid hU
      have H1 := Lib.hid (tick_un (.pointer (some ⟨w.heap.size + 1, 0, none⟩)) now wr hU)
      have cM := fun dq osq => Calls.regrown_of (msg_any op now A1 l1 c1 k f r o n t (grow (redrawn wr dq) osq))
      have cO := fun dq osq => Calls.regrown_of (on_un (.pointer (some ⟨w.heap.size + 1, 0, none⟩)) k f t r o n now (grow (redrawn wr dq) osq) (hU.below (below_regrown wr dq osq) (Nat.le_refl _)))
      have hH := fun dq osq => Lib.hid (hear_un (.pointer (some ⟨w.heap.size + 1, 0, none⟩)) (.slice A0 l0 c0) now (grow (redrawn wr dq) osq) (hU.below (below_regrown wr dq osq) (Nat.le_refl _)))
      have hP := fun dq osq => Lib.hid (peers_un (.pointer (some ⟨w.heap.size + 1, 0, none⟩)) (grow (redrawn wr dq) osq) (hU.below (below_regrown wr dq osq) (Nat.le_refl _)))
      have hS := fun dq osq => Lib.hid (status_un (.pointer (some ⟨w.heap.size + 1, 0, none⟩)) t (grow (redrawn wr dq) osq) (hU.below (below_regrown wr dq osq) (Nat.le_refl _)))
      have hUp := fun dq osq => Lib.hid (up_un (.pointer (some ⟨w.heap.size + 1, 0, none⟩)) t (grow (redrawn wr dq) osq) (hU.below (below_regrown wr dq osq) (Nat.le_refl _)))
      clear hU
      go_wp2_with ((go_at_call 18); (with_reducible refine H1.out.mono ?_); rintro e w1 ⟨rfl, rfl⟩)
      refine wp_region_quiet_below (by kernel_rfl) (by kernel_rfl) ?_
      repeat (first | go_big_quiet_step (first | with_reducible exact cM _ _ | with_reducible exact cO _ _) | quiet_step (first | with_reducible exact cM _ _ | with_reducible exact cO _ _))
      refine wpQuiet_nil ?_
      intro _ hw'
      obtain ⟨⟨dq, osq⟩, hw''⟩ := hw'
      subst hw''
      have HX := HBR dq osq
      go_wp2_with (first
        | (go_at_call 15
           (with_reducible refine (hH _ _).out.mono ?_); rintro e w3 ⟨rfl, rfl⟩)
        | (go_at_call 27
           (with_reducible refine (hP _ _).out.mono ?_); rintro e w3 ⟨rfl, rfl⟩)
        | (go_at_call 28
           (with_reducible refine (hS _ _).out.mono ?_); rintro e w3 ⟨rfl, rfl⟩)
        | (go_at_call 29
           (with_reducible refine (hUp _ _).out.mono ?_); rintro e w3 ⟨rfl, rfl⟩))
      go_roundw
      case rel => exact ⟨2, by omega, by first | rfl | go_num, HX.out⟩
      case measure => simp [intOf]
    · go_wp2_with ((go_at_call 13); (with_reducible refine (HAW _).out.mono ?_); rintro e w2 ⟨rfl, hb2⟩)
      go_ret
      exact ⟨rfl, HB.out.trans ((HBE.out.trans (hb2.mono HBE.out.size)).mono HB.out.size)⟩
end Go.Proofs.Ythipdadhhelieaa
