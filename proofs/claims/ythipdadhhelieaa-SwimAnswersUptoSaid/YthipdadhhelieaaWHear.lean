/- A table that hears a rumour which is new. -/
import Derived.Test.YthipdadhhelieaaWRow
namespace Go.Proofs.Ythipdadhhelieaa
open Go.RowKit Go.Sort Go.BigFrame

set_option maxRecDepth 100000 in
set_option maxHeartbeats 1600000 in
theorem mayBe_any (p : PeerA) (w : World) : Calls Try.prog 63 #[peerV p] w fun e w' => e = .returned (.bool (mayP p)) ∧ Below w.heap.size w w' := by
  obtain ⟨p1, p2, p3⟩ := p
  have HB : Hid (Below w.heap.size w (w.alloc (.cells #[.int .i64 p1, .int .i64 p2, .int .i64 p3] 38))) := Lib.hid ((Below.refl _ _).alloc (Nat.le_refl _) _)
  have HG : Hid (mayP (p1, p2, p3) = (isNodeB p1 && (decide (0 ≤ p2) && (decide (p2 ≤ 1099511627776) && (decide (1 ≤ p3) && decide (p3 ≤ 3)))))) := Lib.hid rfl
  rw [HG.out]
  have HN := fun w' => Lib.hid (isNode_any p1 w')
  cases h0 : isNodeB p1 <;> rw [h0] at HN
  · skip
    go_enter Try.func63, Try.ntmps63
    go_wp2_with ((go_at_call 38); (with_reducible refine (HN _).out.mono ?_); rintro e w1 ⟨rfl, rfl⟩)
    go_ret
    exact ⟨rfl, HB.out⟩
  · skip
    cases h1 : decide ((0 : Int) ≤ p2)
    · skip
      go_enter Try.func63, Try.ntmps63
      go_wp2_with ((go_at_call 38); (with_reducible refine (HN _).out.mono ?_); rintro e w1 ⟨rfl, rfl⟩)
      go_ret
      exact ⟨rfl, HB.out⟩
    · skip
      cases h2 : decide (p2 ≤ 1099511627776)
      · skip
        go_enter Try.func63, Try.ntmps63
        go_wp2_with ((go_at_call 38); (with_reducible refine (HN _).out.mono ?_); rintro e w1 ⟨rfl, rfl⟩)
        go_ret
        exact ⟨rfl, HB.out⟩
      · skip
        cases h3 : decide ((1 : Int) ≤ p3)
        · skip
          go_enter Try.func63, Try.ntmps63
          go_wp2_with ((go_at_call 38); (with_reducible refine (HN _).out.mono ?_); rintro e w1 ⟨rfl, rfl⟩)
          go_ret
          exact ⟨rfl, HB.out⟩
        · skip
          cases h4 : decide (p3 ≤ 3)
          · skip
            go_enter Try.func63, Try.ntmps63
            go_wp2_with ((go_at_call 38); (with_reducible refine (HN _).out.mono ?_); rintro e w1 ⟨rfl, rfl⟩)
            go_ret
            exact ⟨rfl, HB.out⟩
          · skip
            go_enter Try.func63, Try.ntmps63
            go_wp2_with ((go_at_call 38); (with_reducible refine (HN _).out.mono ?_); rintro e w1 ⟨rfl, rfl⟩)
            go_ret
            exact ⟨rfl, HB.out⟩

set_option maxRecDepth 100000 in
theorem made_any (g : Nat) (t : TabA) (k : Nat) (hk : k < 8) (hs : t.self = (k : Int)) (w : World) (h : TabAt w g t) :
    Calls Try.prog 40 #[.pointer (some ⟨g, 0, none⟩)] w fun e w' => e = .returned (.bool (t.knows k)) ∧ w = w' := by
  have H1 := Lib.hid (knows_any g t k hk w h)
  have c0 : w.cell? ⟨g, 0, none⟩ = some (.int .i64 (k : Int)) := by rw [← hs]; exact h.cell 0
  obtain ⟨b, hb⟩ : ∃ b, Hid (b = t.knows k) := ⟨_, Lib.hid rfl⟩
  have e0 : (!decide (t.nd k = ((0, 0, 0), 0))) = b := hb.out.symm
  rw [e0] at H1
  rw [← hb.out]
  clear e0 hs h
  go_enter Try.func40, Try.ntmps40
  go_wp2_with ((go_at_call 62); (with_reducible refine H1.out.mono ?_); rintro e w1 ⟨rfl, rfl⟩)
  go_ret
  exact ⟨rfl, rfl⟩
theorem made_nil (w : World) : Calls Try.prog 40 #[.pointer none] w fun e w' => e = .returned (.bool false) ∧ w = w' := by
  go_enter Try.func40, Try.ntmps40
  go_wp2
  go_ret
  exact ⟨rfl, rfl⟩

/-- A time that is handed in. -/
def TabA.pass (t : TabA) (n : Int) : TabA := { t with now := if t.now ≤ n then n else t.now }
set_option maxRecDepth 100000 in
theorem pass_any (g : Nat) (t : TabA) (n : Int) (w : World) (h : TabAt w g t) :
    Calls Try.prog 41 #[.pointer (some ⟨g, 0, none⟩), .int .i64 n] w fun e w' => e = .returned (.tuple #[]) ∧ TabAt w' g (t.pass n) ∧ Turns g w.heap.size w w' := by
  have c1 : w.cell? ⟨g, 1, none⟩ = some (.int .i64 t.now) := h.cell 1
  have f1 := h.frozen 1
  have HT := Lib.hid h
  have HR : Hid (Turns g w.heap.size w w) := Lib.hid (Turns.of (Below.refl _ _))
  obtain ⟨q, hq⟩ : ∃ q, Hid (q = t.pass n) := ⟨_, Lib.hid rfl⟩
  rw [← hq.out]
  rcases Int.lt_trichotomy t.now n with hh | hh | hh
  · have e : Hid (q = { t with now := n }) := Lib.hid (by rw [hq.out]; unfold TabA.pass; rw [if_pos (by omega)])
    generalize t.now = m at c1 hh
    have d1 : n > m := hh
    have d2 : ¬ m > n := by omega
    have d3 : ¬ n < m := by omega
    clear h hq
    go_enter Try.func41, Try.ntmps41
    go_wp2
    go_end0
    exact ⟨rfl, by rw [e.out]; exact Joins.block_setCell HT.out (i := 1) _, HR.out.set _ _⟩
  · have e : Hid (q = { t with now := n }) := Lib.hid (by rw [hq.out]; unfold TabA.pass; rw [if_pos (by omega)])
    rw [hh] at c1
    clear h hq hh
    go_enter Try.func41, Try.ntmps41
    go_wp2
    go_end0
    exact ⟨rfl, by rw [e.out]; exact Joins.block_setCell HT.out (i := 1) _, HR.out.set _ _⟩
  · have e : Hid (q = t) := Lib.hid (by rw [hq.out]; unfold TabA.pass; rw [if_neg (by omega)])
    obtain ⟨m, hm⟩ : ∃ m, Hid (m = t.now) := ⟨_, Lib.hid rfl⟩
    rw [← hm.out] at c1 hh
    have HS : Hid (TabAt (w.setCell ⟨g, 1, none⟩ (.int .i64 m)) g t) := Lib.hid (by have h3 := Joins.block_setCell HT.out (i := 1) (.int .i64 m); rw [hm.out] at h3 ⊢; exact h3)
    have d1 : m > n := hh
    have d2 : ¬ n > m := by omega
    have d3 : n < m := hh
    clear h hq
    go_enter Try.func41, Try.ntmps41
    go_wp2
    go_end0
    exact ⟨rfl, by rw [e.out]; exact HS.out, HR.out.set _ _⟩

/-- A row of the call's own that holds one rumour. -/
theorem ownP_one (w : World) (base : Nat) (hb : base ≤ w.heap.size) (p : PeerA) :
    OwnD 38 (w.alloc (.cells #[.int .i64 p.1, .int .i64 p.2.1, .int .i64 p.2.2] 38)) base (.slice (some ⟨w.heap.size, 0, none⟩) 1 1) [p] :=
  ⟨rfl, .inr ⟨w.heap.size, 1, _, rfl, hb, heap_alloc_new w _, Nat.le_refl _, by decide, rfl, rfl⟩⟩

set_option maxRecDepth 100000 in
set_option maxHeartbeats 1600000 in
theorem tell_any (g : Nat) (t : TabA) (k : Nat) (hk : k < 8) (p : PeerA) (hp : p.1 = (k : Int)) (w : World) (h : TabAt w g t) :
    Calls Try.prog 64 #[.pointer (some ⟨g, 0, none⟩), peerV p] w fun e w' => ∃ b, w.heap.size ≤ b ∧ e = .returned (.slice (some ⟨b, 0, none⟩) 1 1) ∧ OwnD 38 w' w.heap.size (.slice (some ⟨b, 0, none⟩) 1 1) [p] ∧ TabAt w' g (t.setNd k (p, t.now)) ∧ Turns g w.heap.size w w' := by
  obtain ⟨W, hW⟩ : ∃ W, Hid (W = w.alloc (.cells #[.int .i64 p.1, .int .i64 p.2.1, .int .i64 p.2.2] 38)) := ⟨_, Lib.hid rfl⟩
  have hB : Below w.heap.size w W := by rw [hW.out]; exact (Below.refl _ _).alloc (Nat.le_refl _) _
  have hTW : TabAt W g t := h.below hB h.lt
  have hrow : W.heap[w.heap.size]? = some (.cells #[.int .i64 p.1, .int .i64 p.2.1, .int .i64 p.2.2] 38 (0, 0)) := by rw [hW.out]; exact heap_alloc_new w _
  have k0 : W.cell? ⟨w.heap.size, 0, none⟩ = some (.int .i64 p.1) := cell_of_row _ _ 0 _ _ (0, 0) hrow
  have k1 : W.cell? ⟨w.heap.size, 1, none⟩ = some (.int .i64 p.2.1) := cell_of_row _ _ 1 _ _ (0, 0) hrow
  have k2 : W.cell? ⟨w.heap.size, 2, none⟩ = some (.int .i64 p.2.2) := cell_of_row _ _ 2 _ _ (0, 0) hrow
  have hzW : w.heap.size < W.heap.size := (Array.getElem?_eq_some_iff.1 hrow).1
  have H1 := Lib.hid (learn_any g t k hk p hp W hTW)
  have HB := Lib.hid hB
  have HR := Lib.hid hrow
  have HL := Lib.hid h.lt
  clear hp h hB hTW hrow
  go_enter Try.func64, Try.ntmps64
  go_upto_region 1 with fail
  rw [← hW.out]
  go_upto_region 2 with ((go_at_call 39); (with_reducible refine H1.out.mono ?_); rintro e w1 ⟨rfl, ht1, hg1⟩)
  have hr1 := (hg1.block w.heap.size hzW (by have := HL.out; omega)).trans HR.out
  have j0 := cell_of_row w1 _ 0 _ _ (0, 0) hr1
  have j1 := cell_of_row w1 _ 1 _ _ (0, 0) hr1
  have j2 := cell_of_row w1 _ 2 _ _ (0, 0) hr1
  have HT1 := Lib.hid ht1
  have HG1 := Lib.hid hg1
  have HZ : Hid (w.heap.size ≤ w1.heap.size) := Lib.hid (Nat.le_trans (Nat.le_of_lt hzW) hg1.size)
  clear k0 k1 k2 hr1 ht1 hg1 hzW
  go_wp2
  go_ret
  refine ⟨w1.heap.size, HZ.out, rfl, ownP_one w1 _ HZ.out p, HT1.out.below ((Below.refl _ _).alloc (Nat.le_refl _) _) HT1.out.lt, ?_⟩
  exact ((Turns.of HB.out).trans (HG1.out.mono HB.out.size)).trans ((Turns.of ((Below.refl w1.heap.size w1).alloc (Nat.le_refl _) _)).mono HZ.out)

set_option maxRecDepth 100000 in
set_option maxHeartbeats 3200000 in
/-- hear: a rumour of another node that is not known. -/
theorem hear_new (g : Nat) (t : TabA) (k : Nat) (hk : k < 8) (p : PeerA) (hp : p.1 = (k : Int)) (hm : mayP p = true) (hn : t.knows k = false) (hs : p.1 ≠ t.self) (w : World) (h : TabAt w g t) :
    Calls Try.prog 42 #[.pointer (some ⟨g, 0, none⟩), peerV p] w fun e w' => ∃ b, w.heap.size ≤ b ∧ e = .returned (.slice (some ⟨b, 0, none⟩) 1 1) ∧ OwnD 38 w' w.heap.size (.slice (some ⟨b, 0, none⟩) 1 1) [p] ∧ TabAt w' g (t.setNd k (p, t.now)) ∧ Turns g w.heap.size w w' := by
  obtain ⟨W, hW⟩ : ∃ W, Hid (W = w.alloc (.cells #[.int .i64 p.1, .int .i64 p.2.1, .int .i64 p.2.2] 38)) := ⟨_, Lib.hid rfl⟩
  have hB : Below w.heap.size w W := by rw [hW.out]; exact (Below.refl _ _).alloc (Nat.le_refl _) _
  have hTW : TabAt W g t := h.below hB h.lt
  have hrow : W.heap[w.heap.size]? = some (.cells #[.int .i64 p.1, .int .i64 p.2.1, .int .i64 p.2.2] 38 (0, 0)) := by rw [hW.out]; exact heap_alloc_new w _
  have k0 : W.cell? ⟨w.heap.size, 0, none⟩ = some (.int .i64 p.1) := cell_of_row _ _ 0 _ _ (0, 0) hrow
  have k1 : W.cell? ⟨w.heap.size, 1, none⟩ = some (.int .i64 p.2.1) := cell_of_row _ _ 1 _ _ (0, 0) hrow
  have k2 : W.cell? ⟨w.heap.size, 2, none⟩ = some (.int .i64 p.2.2) := cell_of_row _ _ 2 _ _ (0, 0) hrow
  have hzW : w.heap.size < W.heap.size := (Array.getElem?_eq_some_iff.1 hrow).1
  have q0 := cell_regrown k0
  have q1 := cell_regrown k1
  have q2 := cell_regrown k2
  have q3 := cell_regrown (show W.cell? ⟨g, 0, none⟩ = some (.int .i64 t.self) from hTW.cell 0)
  have cM := re_of (mayBe_any p) W
  rw [hm] at cM
  have cK : ∀ dq osq, Calls Try.prog 62 #[.pointer (some ⟨g, 0, none⟩), .int .i64 p.1] (grow (redrawn W dq) osq) fun e w'' => e = .returned (.bool false) ∧ ∃ z : Regrown, w'' = grow (redrawn W z.d) z.os := by
    intro dq osq
    have hx := knows_any g t k hk (grow (redrawn W dq) osq) (hTW.below (below_regrown W dq osq) hTW.lt)
    rw [hp]
    refine hx.mono ?_
    rintro e w' ⟨he, hw⟩
    exact ⟨he.trans (by have : (!decide (t.nd k = ((0, 0, 0), 0))) = false := hn; rw [this]), ⟨⟨dq, osq⟩, hw.symm⟩⟩
  have d1 : (p.1 != t.self) = true := by simpa using hs
  have H1 := fun w' (hT : TabAt w' g t) => Lib.hid (tell_any g t k hk p hp w' hT)
  have HTR : ∀ dq osq n, Hid (TabAt ((grow (redrawn W dq) osq).drewN n) g t) := fun dq osq n => Lib.hid (hTW.below (below_drewN (below_regrown W dq osq) n) hTW.lt)
  have HB := Lib.hid hB
  have HBR : ∀ dq osq, Hid (Below w.heap.size w (grow (redrawn W dq) osq)) := fun dq osq => Lib.hid (below_re hB dq osq)
  clear hp hm hn hs h hB hTW hrow hzW
  go_enter Try.func42, Try.ntmps42
  go_upto_region 1 with fail
  rw [← hW.out]
  refine wp_region_quiet_below (by kernel_rfl) (by kernel_rfl) ?_
  repeat (first | go_big_quiet_step (first | exact cM _ _ | exact cK _ _) | quiet_step (first | exact cM _ _ | exact cK _ _))
  refine wpQuiet_nil ?_
  intro _ hw'
  obtain ⟨⟨dq, osq⟩, hw''⟩ := hw'
  subst hw''
  have HX := HBR dq osq
  have H2 := HTR dq osq
  have r0 := q0 dq osq
  have r1 := q1 dq osq
  have r2 := q2 dq osq
  have r3 := q3 dq osq
  obtain ⟨V, hV⟩ : ∃ V, V = grow (redrawn W dq) osq := ⟨_, rfl⟩
  rw [← hV] at HX H2 r0 r1 r2 r3 ⊢
  clear hV cM cK HTR HBR q0 q1 q2 q3 k0 k1 k2
  go_wp2_with fail
  go_quiet (fail)
  go_wp2_with ((go_at_call 64); (with_reducible refine (H1 _ (H2 _).out).out.mono ?_); rintro e w1 ⟨b, hb, rfl, ho, ht, hg⟩)
  go_ret
  have hbn := below_drewN HX.out nq
  exact ⟨b, Nat.le_trans hbn.size hb, rfl, ho.base_le hbn.size, ht, (Turns.of hbn).trans (hg.mono hbn.size)⟩
end Go.Proofs.Ythipdadhhelieaa
