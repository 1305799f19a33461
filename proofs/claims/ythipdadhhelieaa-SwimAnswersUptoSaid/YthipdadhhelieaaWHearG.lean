/- A table that hears a rumour of another node, new or not. -/
import Derived.Test.YthipdadhhelieaaWTick
namespace Go.Proofs.Ythipdadhhelieaa
open Go.RowKit Go.Sort Go.BigFrame

/-- Does a table take a rumour of another node? -/
def TabA.takes (t : TabA) (k : Nat) (p : PeerA) : Bool := mayP p && (!t.knows k || greaterB p (t.nd k).1)

set_option maxRecDepth 100000 in
set_option maxHeartbeats 3200000 in
/-- hear: a rumour that is not taken. -/
theorem hear_not (g : Nat) (t : TabA) (k : Nat) (hk : k < 8) (p : PeerA) (hp : p.1 = (k : Int)) (hn : t.takes k p = false) (w : World) (h : TabAt w g t) :
    Calls Try.prog 42 #[.pointer (some ⟨g, 0, none⟩), peerV p] w fun e w' => e = .returned (.slice none 0 0) ∧ Below w.heap.size w w' := by
  obtain ⟨W, hW⟩ : ∃ W, Hid (W = w.alloc (.cells #[.int .i64 p.1, .int .i64 p.2.1, .int .i64 p.2.2] 38)) := ⟨_, Lib.hid rfl⟩
  have hB : Below w.heap.size w W := by rw [hW.out]; exact (Below.refl _ _).alloc (Nat.le_refl _) _
  have hTW : TabAt W g t := h.below hB h.lt
  have hrow : W.heap[w.heap.size]? = some (.cells #[.int .i64 p.1, .int .i64 p.2.1, .int .i64 p.2.2] 38 (0, 0)) := by rw [hW.out]; exact heap_alloc_new w _
  have q0 := cell_regrown (cell_of_row _ _ 0 _ _ (0, 0) hrow : W.cell? ⟨w.heap.size, 0, none⟩ = some (.int .i64 p.1))
  have q1 := cell_regrown (cell_of_row _ _ 1 _ _ (0, 0) hrow : W.cell? ⟨w.heap.size, 1, none⟩ = some (.int .i64 p.2.1))
  have q2 := cell_regrown (cell_of_row _ _ 2 _ _ (0, 0) hrow : W.cell? ⟨w.heap.size, 2, none⟩ = some (.int .i64 p.2.2))
  have q6 := cell_regrown (show W.cell? ⟨g, 0, none⟩ = some (.int .i64 t.self) from hTW.cell 0)
  obtain ⟨n0, n1, n2, n3⟩ := hTW.node hk
  have q3 := cell_regrown n0
  have q4 := cell_regrown n1
  have q5 := cell_regrown n2
  have b0 : (0 : Int) ≤ (k : Int) := by omega
  have b1 : (k : Int) < 8 := by omega
  have cM := re_of (mayBe_any p) W
  have cK : ∀ dq osq, Calls Try.prog 62 #[.pointer (some ⟨g, 0, none⟩), .int .i64 (k : Int)] (grow (redrawn W dq) osq) fun e w'' => e = .returned (.bool (t.knows k)) ∧ ∃ z : Regrown, w'' = grow (redrawn W z.d) z.os := fun dq osq =>
    (knows_any g t k hk (grow (redrawn W dq) osq) (hTW.below (below_regrown W dq osq) hTW.lt)).mono fun _ _ ⟨he, hw⟩ => ⟨he, ⟨⟨dq, osq⟩, hw.symm⟩⟩
  have cG : ∀ dq osq, Calls Try.prog 25 #[.agg #[.int .i64 p.1, .int .i64 p.2.1, .int .i64 p.2.2], .agg #[.int .i64 (t.nd k).1.1, .int .i64 (t.nd k).1.2.1, .int .i64 (t.nd k).1.2.2]] (grow (redrawn W dq) osq) fun e w'' => e = .returned (.bool (greaterB p (t.nd k).1)) ∧ ∃ z : Regrown, w'' = grow (redrawn W z.d) z.os := re_of (greater_any p (t.nd k).1) W
  have HBR : ∀ dq osq, Hid (Below w.heap.size w (grow (redrawn W dq) osq)) := fun dq osq => Lib.hid (below_re hB dq osq)
  obtain ⟨p1, p2, p3⟩ := p
  obtain rfl : p1 = (k : Int) := hp
  unfold TabA.takes at hn
  clear hB hTW hrow n0 n1 n2 n3 h hk
  cases hm : mayP ((k : Int), p2, p3)
  · rw [hm] at cM
    clear hn hm cK cG
    go_enter Try.func42, Try.ntmps42
    go_upto_region 1 with fail
    rw [← hW.out]
    refine wp_region_quiet_below (by kernel_rfl) (by kernel_rfl) ?_
    repeat (first | go_big_quiet_step (first | exact cM _ _) | quiet_step (first | exact cM _ _))
    refine wpQuiet_nil ?_
    intro _ hw'
    obtain ⟨⟨dq, osq⟩, hw''⟩ := hw'
    subst hw''
    have HX := HBR dq osq
    clear HBR
    go_wp2
    go_ret
    exact ⟨rfl, HX.out⟩
  · rw [hm] at cM hn
    have hkn : t.knows k = true := by
      cases hx : t.knows k
      · rw [hx] at hn; simp at hn
      · rfl
    have hgr : greaterB ((k : Int), p2, p3) (t.nd k).1 = false := by
      rw [hkn] at hn; simpa using hn
    rw [hkn] at cK
    rw [hgr] at cG
    clear hn hm hkn hgr
    go_enter Try.func42, Try.ntmps42
    go_upto_region 1 with fail
    rw [← hW.out]
    refine wp_region_quiet_below (by kernel_rfl) (by kernel_rfl) ?_
    repeat (first | go_big_quiet_step (first | exact cM _ _ | exact cK _ _ | with_reducible exact cG _ _) | quiet_step (first | exact cM _ _ | exact cK _ _ | with_reducible exact cG _ _))
    refine wpQuiet_nil ?_
    intro _ hw'
    obtain ⟨⟨dq, osq⟩, hw''⟩ := hw'
    subst hw''
    have HX := HBR dq osq
    clear HBR
    go_wp2
    go_ret
    exact ⟨rfl, HX.out⟩

set_option maxRecDepth 100000 in
set_option maxHeartbeats 3200000 in
/-- hear: a rumour of another node that is taken. -/
theorem hear_taken (g : Nat) (t : TabA) (k : Nat) (hk : k < 8) (p : PeerA) (hp : p.1 = (k : Int)) (hn : t.takes k p = true) (hs : p.1 ≠ t.self) (w : World) (h : TabAt w g t) :
    Calls Try.prog 42 #[.pointer (some ⟨g, 0, none⟩), peerV p] w fun e w' => ∃ b, w.heap.size ≤ b ∧ e = .returned (.slice (some ⟨b, 0, none⟩) 1 1) ∧ OwnD 38 w' w.heap.size (.slice (some ⟨b, 0, none⟩) 1 1) [p] ∧ TabAt w' g (t.setNd k (p, t.now)) ∧ Turns g w.heap.size w w' := by
  obtain ⟨W, hW⟩ : ∃ W, Hid (W = w.alloc (.cells #[.int .i64 p.1, .int .i64 p.2.1, .int .i64 p.2.2] 38)) := ⟨_, Lib.hid rfl⟩
  have hB : Below w.heap.size w W := by rw [hW.out]; exact (Below.refl _ _).alloc (Nat.le_refl _) _
  have hTW : TabAt W g t := h.below hB h.lt
  have hrow : W.heap[w.heap.size]? = some (.cells #[.int .i64 p.1, .int .i64 p.2.1, .int .i64 p.2.2] 38 (0, 0)) := by rw [hW.out]; exact heap_alloc_new w _
  have q0 := cell_regrown (cell_of_row _ _ 0 _ _ (0, 0) hrow : W.cell? ⟨w.heap.size, 0, none⟩ = some (.int .i64 p.1))
  have q1 := cell_regrown (cell_of_row _ _ 1 _ _ (0, 0) hrow : W.cell? ⟨w.heap.size, 1, none⟩ = some (.int .i64 p.2.1))
  have q2 := cell_regrown (cell_of_row _ _ 2 _ _ (0, 0) hrow : W.cell? ⟨w.heap.size, 2, none⟩ = some (.int .i64 p.2.2))
  have q6 := cell_regrown (show W.cell? ⟨g, 0, none⟩ = some (.int .i64 t.self) from hTW.cell 0)
  obtain ⟨n0, n1, n2, n3⟩ := hTW.node hk
  have q3 := cell_regrown n0
  have q4 := cell_regrown n1
  have q5 := cell_regrown n2
  have b0 : (0 : Int) ≤ (k : Int) := by omega
  have b1 : (k : Int) < 8 := by omega
  have cM := re_of (mayBe_any p) W
  have cK : ∀ dq osq, Calls Try.prog 62 #[.pointer (some ⟨g, 0, none⟩), .int .i64 (k : Int)] (grow (redrawn W dq) osq) fun e w'' => e = .returned (.bool (t.knows k)) ∧ ∃ z : Regrown, w'' = grow (redrawn W z.d) z.os := fun dq osq =>
    (knows_any g t k hk (grow (redrawn W dq) osq) (hTW.below (below_regrown W dq osq) hTW.lt)).mono fun _ _ ⟨he, hw⟩ => ⟨he, ⟨⟨dq, osq⟩, hw.symm⟩⟩
  have cG : ∀ dq osq, Calls Try.prog 25 #[.agg #[.int .i64 p.1, .int .i64 p.2.1, .int .i64 p.2.2], .agg #[.int .i64 (t.nd k).1.1, .int .i64 (t.nd k).1.2.1, .int .i64 (t.nd k).1.2.2]] (grow (redrawn W dq) osq) fun e w'' => e = .returned (.bool (greaterB p (t.nd k).1)) ∧ ∃ z : Regrown, w'' = grow (redrawn W z.d) z.os := re_of (greater_any p (t.nd k).1) W
  have HBR : ∀ dq osq, Hid (Below w.heap.size w (grow (redrawn W dq) osq)) := fun dq osq => Lib.hid (below_re hB dq osq)
  have d1 : (p.1 != t.self) = true := by simpa using hs
  have H1 := fun w' (hT : TabAt w' g t) => Lib.hid (tell_any g t k hk p hp w' hT)
  have HTR : ∀ dq osq n, Hid (TabAt ((grow (redrawn W dq) osq).drewN n) g t) := fun dq osq n => Lib.hid (hTW.below (below_drewN (below_regrown W dq osq) n) hTW.lt)
  obtain ⟨p1, p2, p3⟩ := p
  obtain rfl : p1 = (k : Int) := hp
  unfold TabA.takes at hn
  have hm : mayP ((k : Int), p2, p3) = true := by
    cases hx : mayP ((k : Int), p2, p3)
    · rw [hx] at hn; simp at hn
    · rfl
  rw [hm] at cM hn
  clear hB hTW hrow n0 n1 n2 n3 h hs hm
  cases hkn : t.knows k
  · rw [hkn] at cK
    clear hn hkn cG
    have cG : True := trivial
    go_enter Try.func42, Try.ntmps42
    go_upto_region 1 with fail
    rw [← hW.out]
    refine wp_region_quiet_below (by kernel_rfl) (by kernel_rfl) ?_
    repeat (first | go_big_quiet_step (first | exact cM _ _ | exact cK _ _) | quiet_step (first | exact cM _ _ | exact cK _ _))
    refine wpQuiet_nil ?_
    intro _ hw'
    obtain ⟨⟨dq, osq⟩, hw''⟩ := hw'
    subst hw''
    have HX := HBR dq osq
    have H2 := HTR dq osq
    have r0 := q0 dq osq
    have r1 := q1 dq osq
    have r2 := q2 dq osq
    have r3 := q6 dq osq
    obtain ⟨V, hV⟩ : ∃ V, V = grow (redrawn W dq) osq := ⟨_, rfl⟩
    rw [← hV] at HX H2 r0 r1 r2 r3 ⊢
    clear hV cM cK cG HTR HBR q0 q1 q2 q3 q4 q5 q6
    go_wp2_with fail
    go_quiet (fail)
    go_wp2_with ((go_at_call 64); (with_reducible refine (H1 _ (H2 _).out).out.mono ?_); rintro e w1 ⟨b, hb, rfl, ho, ht, hg⟩)
    go_ret
    have hbn := below_drewN HX.out nq
    exact ⟨b, Nat.le_trans hbn.size hb, rfl, ho.base_le hbn.size, ht, (Turns.of hbn).trans (hg.mono hbn.size)⟩
  · have hgr : greaterB ((k : Int), p2, p3) (t.nd k).1 = true := by
      rw [hkn] at hn; simpa using hn
    rw [hkn] at cK
    rw [hgr] at cG
    clear hn hkn hgr
    go_enter Try.func42, Try.ntmps42
    go_upto_region 1 with fail
    rw [← hW.out]
    refine wp_region_quiet_below (by kernel_rfl) (by kernel_rfl) ?_
    repeat (first | go_big_quiet_step (first | exact cM _ _ | exact cK _ _ | with_reducible exact cG _ _) | quiet_step (first | exact cM _ _ | exact cK _ _ | with_reducible exact cG _ _))
    refine wpQuiet_nil ?_
    intro _ hw'
    obtain ⟨⟨dq, osq⟩, hw''⟩ := hw'
    subst hw''
    have HX := HBR dq osq
    have H2 := HTR dq osq
    have r0 := q0 dq osq
    have r1 := q1 dq osq
    have r2 := q2 dq osq
    have r3 := q6 dq osq
    obtain ⟨V, hV⟩ : ∃ V, V = grow (redrawn W dq) osq := ⟨_, rfl⟩
    rw [← hV] at HX H2 r0 r1 r2 r3 ⊢
    clear hV cM cK cG HTR HBR q0 q1 q2 q3 q4 q5 q6
    go_wp2_with fail
    go_quiet (fail)
    go_wp2_with ((go_at_call 64); (with_reducible refine (H1 _ (H2 _).out).out.mono ?_); rintro e w1 ⟨b, hb, rfl, ho, ht, hg⟩)
    go_ret
    have hbn := below_drewN HX.out nq
    exact ⟨b, Nat.le_trans hbn.size hb, rfl, ho.base_le hbn.size, ht, (Turns.of hbn).trans (hg.mono hbn.size)⟩
end Go.Proofs.Ythipdadhhelieaa
