/- Hear of one rumour, whatever it is, of a node from the third on. -/
import Derived.Test.YthipdadhhelieaaWOthers
namespace Go.Proofs.Ythipdadhhelieaa
open Go.RowKit Go.Sort Go.BigFrame

set_option maxRecDepth 100000 in
set_option maxHeartbeats 3200000 in
/-- hear: a rumour that may not be. -/
theorem hear_bad (g : Nat) (t : TabA) (p : PeerA) (hm : mayP p = false) (w : World) (h : TabAt w g t) :
    Calls Try.prog 42 #[.pointer (some ⟨g, 0, none⟩), peerV p] w fun e w' => e = .returned (.slice none 0 0) ∧ Below w.heap.size w w' := by
  obtain ⟨W, hW⟩ : ∃ W, Hid (W = w.alloc (.cells #[.int .i64 p.1, .int .i64 p.2.1, .int .i64 p.2.2] 38)) := ⟨_, Lib.hid rfl⟩
  have hB : Below w.heap.size w W := by rw [hW.out]; exact (Below.refl _ _).alloc (Nat.le_refl _) _
  have hTW : TabAt W g t := h.below hB h.lt
  have hrow : W.heap[w.heap.size]? = some (.cells #[.int .i64 p.1, .int .i64 p.2.1, .int .i64 p.2.2] 38 (0, 0)) := by rw [hW.out]; exact heap_alloc_new w _
  have q0 := cell_regrown (cell_of_row _ _ 0 _ _ (0, 0) hrow : W.cell? ⟨w.heap.size, 0, none⟩ = some (.int .i64 p.1))
  have q1 := cell_regrown (cell_of_row _ _ 1 _ _ (0, 0) hrow : W.cell? ⟨w.heap.size, 1, none⟩ = some (.int .i64 p.2.1))
  have q2 := cell_regrown (cell_of_row _ _ 2 _ _ (0, 0) hrow : W.cell? ⟨w.heap.size, 2, none⟩ = some (.int .i64 p.2.2))
  have cM := re_of (mayBe_any p) W
  rw [hm] at cM
  have HBR : ∀ dq osq, Hid (Below w.heap.size w (grow (redrawn W dq) osq)) := fun dq osq => Lib.hid (below_re hB dq osq)
  clear hB hTW hrow h hm
  go_enter Try.func42, Try.ntmps42
  go_upto_region 1 with fail
  rw [← hW.out]
  refine wp_region_quiet_below (by kernel_rfl) (by kernel_rfl) ?_
  repeat (first | go_big_quiet_step (first | exact cM _ _) | quiet_step (first | exact cM _ _))
  refine wpQuiet_nil ?_
  intro _ hw'
  obtain ⟨⟨dq, osq⟩, hw''⟩ := hw'
  subst hw''
  have HX := HBR dq osq
  clear HBR
  go_wp2
  go_ret
  exact ⟨rfl, HX.out⟩

set_option maxRecDepth 100000 in
set_option maxHeartbeats 3200000 in
theorem hear1_core (g b : Nat) (t : TabA) (p : PeerA) (ks : Nat) (hks : ks < 8) (hself : t.self = (ks : Int)) (hkn : t.knows ks = true) (now : Int) (T' : TabA) (tk : Bool)
    (HT2 : tk = true → ∀ w', TabAt w' g (t.pass now) → Hid (Calls Try.prog 42 #[.pointer (some ⟨g, 0, none⟩), .agg #[.int .i64 p.1, .int .i64 p.2.1, .int .i64 p.2.2]] w' fun e w'' => ∃ b1, w'.heap.size ≤ b1 ∧ e = .returned (.slice (some ⟨b1, 0, none⟩) 1 1) ∧ OwnD 38 w'' w'.heap.size (.slice (some ⟨b1, 0, none⟩) 1 1) [p] ∧ TabAt w'' g T' ∧ Turns g w'.heap.size w' w''))
    (HN2 : tk = false → ∀ w', TabAt w' g (t.pass now) → Hid (Calls Try.prog 42 #[.pointer (some ⟨g, 0, none⟩), .agg #[.int .i64 p.1, .int .i64 p.2.1, .int .i64 p.2.2]] w' fun e w'' => e = .returned (.slice none 0 0) ∧ Below w'.heap.size w' w''))
    (HN3 : tk = false → T' = t.pass now) (w : World) (h : TabAt w g t)
    (hr : w.heap[b]? = some (.cells #[.int .i64 p.1, .int .i64 p.2.1, .int .i64 p.2.2] 38 (0, 0))) (hbg : b ≠ g) :
    Calls Try.prog 15 #[.pointer (some ⟨g, 0, none⟩), .slice (some ⟨b, 0, none⟩) 1 1, .int .i64 now] w fun e w' => (∃ v, e = .returned v) ∧ TabAt w' g T' ∧ Turns g w.heap.size w w' := by
  have HR := Lib.hid hr
  have HBG := Lib.hid hbg
  have hbl : b < w.heap.size := (Array.getElem?_eq_some_iff.1 hr).1
  have H0 : Hid (Calls Try.prog 40 #[.pointer (some ⟨g, 0, none⟩)] w fun e w' => e = .returned (.bool true) ∧ w = w') := Lib.hid (by have := made_any g t ks hks hself w h; rw [hkn] at this; exact this)
  have H1 := Lib.hid (pass_any g t now w h)
  obtain ⟨T, hT⟩ : ∃ T, Hid (T = t.pass now) := ⟨_, Lib.hid rfl⟩
  rw [← hT.out] at H1 HT2 HN2 HN3
  clear h hr hbg hkn hself hks
  go_enter Try.func15, Try.ntmps15
  go_upto_region 4 with (first
    | (go_at_call 40
       (with_reducible refine H0.out.mono ?_); rintro e w1 ⟨rfl, rfl⟩)
    | (go_at_call 41
       (with_reducible refine H1.out.mono ?_); rintro e w1 ⟨rfl, ht1, hg1⟩))
  have HG1 := Lib.hid hg1
  have HT1 := Lib.hid ht1
  have hr1 := (hg1.block b hbl HBG.out).trans HR.out
  have HR1 := Lib.hid hr1
  clear ht1 hg1 hr1 H0 H1
  go_wp2
  go_loopw [18, 7] (fun i x wr => (i = .int .i64 0 ∧ x = .slice none 0 0 ∧ Hid (wr = w1)) ∨ (i = .int .i64 1 ∧ (∃ A n c, x = .slice A n c) ∧ Hid (TabAt wr g T' ∧ Turns g w.heap.size w wr))) (fun i _ _ => 1 - (intOf i).toNat)
  case atStart => exact .inl ⟨rfl, rfl, Lib.hid rfl⟩
  case round =>
    rcases hrel with ⟨rfl, rfl, hwr⟩ | ⟨rfl, ⟨A, n, c, rfl⟩, hx⟩
    · obtain ⟨V, hV⟩ : ∃ V, Hid (V = wr.alloc (.cells #[.int .i64 p.1, .int .i64 p.2.1, .int .i64 p.2.2] 38)) := ⟨_, Lib.hid rfl⟩
      have HWR : Hid (TabAt wr g T ∧ Turns g w.heap.size w wr ∧ wr.heap[b]? = some (.cells #[.int .i64 p.1, .int .i64 p.2.1, .int .i64 p.2.2] 38 (0, 0))) := Lib.hid (by rw [hwr.out]; exact ⟨HT1.out, HG1.out, HR1.out⟩)
      have hBV : Below wr.heap.size wr V := by rw [hV.out]; exact (Below.refl _ _).alloc (Nat.le_refl _) _
      have HTV : Hid (TabAt V g T) := Lib.hid (HWR.out.1.below hBV HWR.out.1.lt)
      have k0 : wr.cell? ⟨b, 0, none⟩ = some (.int .i64 p.1) := cell_of_row _ _ 0 _ _ (0, 0) HWR.out.2.2
      have k1 : wr.cell? ⟨b, 1, none⟩ = some (.int .i64 p.2.1) := cell_of_row _ _ 1 _ _ (0, 0) HWR.out.2.2
      have k2 : wr.cell? ⟨b, 2, none⟩ = some (.int .i64 p.2.2) := cell_of_row _ _ 2 _ _ (0, 0) HWR.out.2.2
      have v0 : V.cell? ⟨wr.heap.size, 0, none⟩ = some (.int .i64 p.1) := by rw [hV.out]; exact box_cell _ _ _ 0
      have v1 : V.cell? ⟨wr.heap.size, 1, none⟩ = some (.int .i64 p.2.1) := by rw [hV.out]; exact box_cell _ _ _ 1
      have v2 : V.cell? ⟨wr.heap.size, 2, none⟩ = some (.int .i64 p.2.2) := by rw [hV.out]; exact box_cell _ _ _ 2
      have HGV : Hid (Turns g w.heap.size w V) := Lib.hid (HWR.out.2.1.trans ((Turns.of hBV).mono HWR.out.2.1.size))
      clear hBV hwr
      go_upto_region 8 with fail
      rw [← hV.out]
      clear k0 k1 k2
      cases tk with
      | true =>
        have hH := HT2 rfl V HTV.out
        clear HT2 HN2 HN3
        go_wp2_with (first
          | (go_at_call 42
             (with_reducible refine hH.out.mono ?_); rintro e w3 ⟨b1, hb1, rfl, ho3, ht3, hg3⟩
             obtain ⟨A3, c3, he3, _, hr3⟩ := ho3.rd
             obtain ⟨rfl, _, rfl⟩ : A3 = some ⟨b1, 0, none⟩ ∧ 1 = 1 ∧ c3 = 1 := by injection he3 with e1 e2 e3; exact ⟨e1.symm, rfl, e3.symm⟩
             have HR3 := Lib.hid hr3
             have HT3 := Lib.hid ht3
             have HG3 := Lib.hid hg3
             have hz3 : w3.heap.size ≤ w3.heap.size := Nat.le_refl _
             clear ho3 hr3 ht3 hg3 he3)
          | (at_builtin; go_must (refine wpList_append_dots Try.underlying31 infoPeer _ rfl (.tmp 22) (.tmp 25) rfl (by rfl) (ownD_nil 38 w3 w3.heap.size) (by rfl) (by rfl) HR3.out (by simp) hz3 ?_)))
        intro v5 w5 ho5 hg5 _
        have hT5 : TabAt w5 g T' := HT3.out.keep (hg5.block g HT3.out.lt (by simp [_root_.Go.Value.ownBlock]))
        have hG5 : Turns g w.heap.size w w5 := (HGV.out.trans (HG3.out.mono HGV.out.size)).trans ((Turns.of (Below.of_grown hg5 (by rfl) (Nat.le_refl _))).mono (Nat.le_trans HGV.out.size HG3.out.size))
        obtain ⟨A5, c5, hv5⟩ := ownD_slice ho5
        have hv5 : v5 = .slice A5 1 c5 := hv5
        subst hv5
        clear hg5 ho5
        go_wp2
        go_roundw
        case rel => exact .inr ⟨by first | rfl | go_num, ⟨A5, 1, c5, rfl⟩, Lib.hid ⟨hT5, hG5⟩⟩
        case measure => simp [intOf]
      | false =>
        have hH := HN2 rfl V HTV.out
        have hE := HN3 rfl
        have HE := Lib.hid hE
        clear HT2 HN2 HN3 hE
        go_wp2_with (first
          | (go_at_call 42
             (with_reducible refine hH.out.mono ?_); rintro e w3 ⟨rfl, hb3⟩
             have HR3 : Hid (RdDA w3 w3.heap.size none []) := Lib.hid (fun j d hd => by simp at hd)
             have HT3 := Lib.hid (HTV.out.below hb3 HTV.out.lt)
             have HG3 := Lib.hid (HGV.out.trans ((Turns.of hb3).mono HGV.out.size))
             have hz3 : w3.heap.size ≤ w3.heap.size := Nat.le_refl _
             clear hb3)
          | (at_builtin; go_must (refine wpList_append_dots Try.underlying31 infoPeer _ rfl (.tmp 22) (.tmp 25) rfl (by rfl) (ownD_nil 38 w3 w3.heap.size) (by rfl) (by rfl) HR3.out (by decide) hz3 ?_)))
        intro v5 w5 ho5 hg5 _
        have hT5 : TabAt w5 g T' := by rw [HE.out]; exact HT3.out.keep (hg5.block g HT3.out.lt (by simp [_root_.Go.Value.ownBlock]))
        have hG5 : Turns g w.heap.size w w5 := HG3.out.trans ((Turns.of (Below.of_grown hg5 (by rfl) (Nat.le_refl _))).mono HG3.out.size)
        obtain ⟨A5, c5, hv5⟩ := ownD_slice ho5
        have hv5 : v5 = .slice A5 0 c5 := hv5
        subst hv5
        clear hg5 ho5
        go_wp2
        go_roundw
        case rel => exact .inr ⟨by first | rfl | go_num, ⟨A5, 0, c5, rfl⟩, Lib.hid ⟨hT5, hG5⟩⟩
        case measure => simp [intOf]
    · go_wp2
      go_ret
      exact ⟨⟨_, rfl⟩, hx.out.1, hx.out.2⟩


theorem pass_val (t : TabA) (n : Int) (j : Nat) : (t.pass n).val j = t.val j := by
  unfold TabA.val TabA.knows; rw [pass_nd]
theorem pass_self (t : TabA) (n : Int) : (t.pass n).self = t.self := rfl
theorem hear_self (t : TabA) (k : Nat) (p : PeerA) : (t.hear k p).self = t.self := by
  unfold TabA.hear
  split
  · unfold TabA.setNd; split <;> rfl
  · rfl
/-- What a rumour of a node from the third on makes of a table. -/
structure Step (t : TabA) (p : PeerA) (T : TabA) : Prop where
  self : T.self = t.self
  two : ∀ j, j < 2 → T.val j = t.val j
  kn : ∀ (L : List PeerA) (j : Nat), 2 ≤ j → j < 8 → Kn L j (t.val j) → Kn (L ++ [p]) j (T.val j)

theorem hear_sem (g b : Nat) (t : TabA) (p : PeerA) (h2 : 2 ≤ p.1) (ks : Nat) (hks : ks < 2) (hself : t.self = (ks : Int)) (hkn : t.knows ks = true) (now : Int) (w : World) (h : TabAt w g t)
    (hr : w.heap[b]? = some (.cells #[.int .i64 p.1, .int .i64 p.2.1, .int .i64 p.2.2] 38 (0, 0))) (hbg : b ≠ g) :
    Calls Try.prog 15 #[.pointer (some ⟨g, 0, none⟩), .slice (some ⟨b, 0, none⟩) 1 1, .int .i64 now] w fun e w' => (∃ v, e = .returned v) ∧ (∃ T, TabAt w' g T ∧ Step t p T) ∧ Turns g w.heap.size w w' := by
  by_cases h8 : p.1 < 8
  · obtain ⟨k, hk⟩ : ∃ k : Nat, p.1 = (k : Int) := ⟨p.1.toNat, by omega⟩
    refine (hear1_any g b t k (by omega) p hk (by rw [hself]; omega) ks (by omega) hself hkn now w h hr hbg).mono ?_
    rintro e w' ⟨he, ht, hg⟩
    refine ⟨he, ⟨_, ht, ⟨by rw [hear_self, pass_self], fun j hj => ?_, fun L j hj2 hj8 hK => ?_⟩⟩, hg⟩
    · rw [val_hear _ (by omega) p (by omega), if_neg (fun hx => by have := hx.1; omega), pass_val]
    · exact kn_step (by omega) hj8 hk (by rw [pass_val]; exact hK)
  · have hm : mayP p = false := by
      unfold mayP isNodeB
      rw [decide_eq_false h8]
      simp
    refine (hear1_core g b t p ks (by omega) hself hkn now (t.pass now) false (fun hx => by cases hx) (fun _ w' hw => Lib.hid (hear_bad g (t.pass now) p hm w' hw)) (fun _ => rfl) w h hr hbg).mono ?_
    rintro e w' ⟨he, ht, hg⟩
    refine ⟨he, ⟨_, ht, ⟨pass_self _ _, fun j _ => pass_val _ _ _, fun L j _ hj8 hK => ?_⟩⟩, hg⟩
    rw [pass_val]
    have hpk : p.1 ≠ (j : Int) := by omega
    cases hv : t.val j with
    | none =>
      rw [hv] at hK
      intro y hy hmy
      rcases List.mem_append.1 hy with hy | hy
      · exact hK y hy hmy
      · have e : y = p := by simpa using hy
        rw [e]; exact hpk
    | some x =>
      rw [hv] at hK
      refine ⟨List.mem_append.2 (.inl hK.1), hK.2.1, hK.2.2.1, fun y hy hmy hyk => ?_⟩
      rcases List.mem_append.1 hy with hy | hy
      · exact hK.2.2.2 y hy hmy hyk
      · have e : y = p := by simpa using hy
        rw [e] at hyk; exact absurd hyk hpk
end Go.Proofs.Ythipdadhhelieaa
