/- Tick of a table with nothing open, where all are alive. -/
import Derived.Test.YthipdadhhelieaaQOn
namespace Go.Proofs.Ythipdadhhelieaa
open Go.RowKit Go.Sort Go.BigFrame

theorem begins_parts {t : TabA} {ps : List PingA} {st : Nat} (h : t.begins ps st = true) : t.early = false ∧ nx (t.free ps) st < 8 ∧ t.last.2.1 < 1099511627776 := by
  unfold TabA.begins at h
  simpa using h
theorem begins_not {t : TabA} {ps : List PingA} {st : Nat} (h : t.begins ps st = false) : t.early = true ∨ nxI (t.free ps) st = -1 ∨ 1099511627776 ≤ t.last.2.1 := by
  unfold TabA.begins at h
  cases h1 : t.early
  · right
    by_cases h2 : nx (t.free ps) st < 8
    · right
      simp [h1, h2] at h
      exact h
    · left
      unfold nxI
      rw [if_neg h2]
  · exact .inl rfl

set_option maxRecDepth 100000 in
set_option maxHeartbeats 3200000 in
theorem idle_no (g base : Nat) (hgb : g < base) (t : TabA) (st : Nat) (now : Int) (ks : Nat) (hks : ks < 8) (hself : t.self = (ks : Int)) (hkn : t.knows ks = true) (hst2 : ∀ k, k < 8 → (t.nd k).1.2.2 ≠ 2) (htm : (t.pass now).timed) (hls : Lasts (t.pass now) st) (hbg : (t.pass now).begins [] st = false) (w : World) (h : TabAt w g t) (ho : OwnG w base t.opened []) :
    Calls Try.prog 18 #[.pointer (some ⟨g, 0, none⟩), .int .i64 now] w fun e w' => ∃ A' k' A k ov, e = .returned (.tuple #[.slice A' 0 k', .slice A 0 k]) ∧ TabAt w' g { t.pass now with opened := ov } ∧ OwnG w' w.heap.size ov [] ∧ Turns g w.heap.size w w'  := by
  have H0 : Hid (Calls Try.prog 40 #[.pointer (some ⟨g, 0, none⟩)] w fun e w' => e = .returned (.bool true) ∧ w = w') := Lib.hid (by have := made_any g t ks hks hself w h; rw [hkn] at this; exact this)
  have H1 := Lib.hid (pass_any g t now w h)
  have HGL := Lib.hid h.lt
  have HSF : Hid ((t.pass now).self = t.self) := Lib.hid rfl
  have HLA : Hid ((t.pass now).last = t.last) := Lib.hid rfl
  obtain ⟨t1, ht1⟩ : ∃ t1, Hid (t1 = t.pass now) := ⟨_, Lib.hid rfl⟩
  have HO1' : Hid (OwnG w base t1.opened []) := Lib.hid (by rw [ht1.out]; exact ho)
  have hs2 : ∀ k, k < 8 → (t1.nd k).1.2.2 ≠ 2 := fun k hk => by rw [ht1.out, pass_nd']; exact hst2 k hk
  rw [← ht1.out] at htm hls hbg H1 HSF HLA ⊢
  have H2 := fun w' (hT : TabAt w' g t1) => Lib.hid (bury_none g t1 hs2 w' hT)
  have H3 := fun w' (hT : TabAt w' g t1) (hO : OwnG w' base t1.opened []) => Lib.hid (wait_any g base t1 [] (by simp) htm (fun p hp => by simp at hp) hgb w' hT hO)
  have HLS := Lib.hid hls
  have HTM := Lib.hid htm
  have HBG := Lib.hid hbg
  clear h ho hself hkn htm hls hs2 hst2 hbg
  go_enter Try.func18, Try.ntmps18
  go_wp2_with (first
    | (go_at_call 40
       (with_reducible refine H0.out.mono ?_); rintro e w1 ⟨rfl, rfl⟩)
    | (go_at_call 41
       (with_reducible refine H1.out.mono ?_); rintro e w1 ⟨rfl, hx1, hg1⟩
       have HT1 := Lib.hid hx1
       have HG1 := Lib.hid hg1
       have HO1 : Hid (OwnG w1 base t1.opened []) := Lib.hid (row_turn HO1'.out hg1 hgb)
       clear hx1 hg1)
    | (go_at_call 46
       (with_reducible refine (H2 _ HT1.out).out.mono ?_); rintro e w2 ⟨rfl, hb2⟩
       have HT2 := Lib.hid (HT1.out.below hb2 HT1.out.lt)
       have HG2 : Hid (Turns g w.heap.size w w2) := Lib.hid (HG1.out.trans ((Turns.of hb2).mono HG1.out.size))
       have HO2 : Hid (OwnG w2 base t1.opened []) := Lib.hid (row_below HO1.out hb2)
       clear hb2)
    | (go_at_call 47
       (with_reducible refine (H3 _ HT2.out HO2.out).out.mono ?_); rintro e w3 hp3
       obtain ⟨v4, v5, n4, n5, v6, rfl, hw3, h34, h35⟩ := hp3
       have e4 : n4 = 0 := by simpa using h34
       have e5 : n5 = 0 := by simpa using h35
       subst e4 e5
       have HW3 := Lib.hid hw3
       have HG3 : Hid (Turns g w.heap.size w w3) := Lib.hid (HG2.out.trans (hw3.fr.mono HG2.out.size))
       have H4 := Lib.hid (begin_no g w2.heap.size { t1 with opened := v6 } [] (by simp) st HLS.out.le HLS.out.to (timed_opened HTM.out v6) ⟨HLS.out.since0, HLS.out.since1, HLS.out.req0, HLS.out.req1⟩ (by rw [free_opened]; exact begins_not HBG.out) w3 hw3.tab hw3.s)
       clear hw3 h34 h35)
    | (go_at_call 48
       (with_reducible refine H4.out.mono ?_); rintro e w4 ⟨rfl, hb4⟩
       have hx4 := HW3.out.tab.below hb4 HW3.out.tab.lt
       have ho4 := row_below HW3.out.s hb4
       have hv4 : Moves g v6.ownBlock w3 w4 := Moves.of (Turns.of hb4)
       have HGW : Hid (g < w2.heap.size) := Lib.hid (Nat.lt_of_lt_of_le HGL.out HG2.out.size)
       obtain ⟨xs4, hm, hm1⟩ := HW3.out.m
       obtain ⟨ds5, hd5, hd51⟩ := HW3.out.d
       have HMA : Hid (w4.ownsRow w.heap.size 56 17 v4 0 xs4) := Lib.hid (row_base (row_moves neMG hm HW3.out.s HGW.out hv4) HG2.out.size)
       have HX0 : Hid (xs4 = []) := Lib.hid (by have := hm.1; simpa using this)
       have HD5 : Hid (w4.ownsRow w2.heap.size 38 3 v5 0 (dcells ds5)) := Lib.hid (row_moves nePG hd5 HW3.out.s HGW.out hv4)
       have HG4 : Hid (Turns g w.heap.size w w4) := Lib.hid (Moves.turns HG3.out (Nat.le_refl _) (row_base HW3.out.s HG2.out.size) hv4)
       have HT4 := Lib.hid hx4
       have HO4 := Lib.hid (row_base ho4 HG2.out.size)
       have HZ4 : Hid (w.heap.size ≤ w4.heap.size) := Lib.hid HG4.out.size
       have HY : Hid (w4.ownsRow w2.heap.size 56 17 (.slice none 0 0) 0 []) := Lib.hid (World.ownsRow_nil _ _ _ 17)
       have HY1 : Hid (∀ u ∈ ([] : List Value), u.oneCell' = true) := Lib.hid fun u hu => by simp at hu
       clear hb4
       clear hm hm1 hd5 hd51 hx4 ho4 hv4)
    | (at_builtin; go_must (refine wpList_append_rows Try.underlying34 infoMsg hz17 _ rfl (.tmp 22) (.tmp 24) rfl (by rfl) (by rfl) HMA.out HY.out HY1.out (by decide) HZ4.out ?_)))
  intro v7 w7 ho7 hg7 _
  obtain ⟨A7, c7, rfl⟩ := row_slice ho7
  rw [HX0.out] at ho7
  have HO7 := Lib.hid ho7
  have HD75 : Hid (w7.ownsRow w2.heap.size 38 3 v5 0 (dcells ds5)) := Lib.hid (keepRow neMP.symm HD5.out HMA.out hg7)
  have HX7 := Lib.hid (tab_grown HT4.out HGL.out HMA.out hg7)
  have HP7 := Lib.hid (keepRow neMG.symm HO4.out HMA.out hg7)
  have HG7 : Hid (Turns g w.heap.size w w7) := Lib.hid (turns_grown HG4.out (Nat.le_refl _) HMA.out hg7)
  have HZ7 : Hid (w.heap.size ≤ w7.heap.size) := Lib.hid HG7.out.size
  have HD7 : Hid (w7.ownsRow w.heap.size 38 3 (.slice none 0 0) 0 []) := Lib.hid (World.ownsRow_nil _ _ _ 3)
  clear ho7 hg7
  go_wp2_with (at_builtin; go_must (refine wpList_append_rows Try.underlying31 infoPeer hz3 _ rfl (.tmp 26) (.tmp 27) rfl (by rfl) (by rfl) HD7.out HD75.out (dcells_one _) (by decide) HZ7.out ?_))
  intro v8 w8 ho8 hg8 _
  obtain ⟨A8, c8, rfl⟩ := row_slice ho8
  have HX8 := Lib.hid (tab_grown HX7.out HGL.out HD7.out hg8)
  have HP8 := Lib.hid (keepRow nePG.symm HP7.out HD7.out hg8)
  have HG8 : Hid (Turns g w.heap.size w w8) := Lib.hid (turns_grown HG7.out (Nat.le_refl _) HD7.out hg8)
  have HM8 := Lib.hid (keepRow neMP HO7.out HD7.out hg8)
  clear ho8 hg8
  go_wp2
  go_ret2
  exact ⟨A7, c7, A8, c8, v6, rfl, HX8.out, HP8.out, HG8.out⟩

set_option maxRecDepth 100000 in
set_option maxHeartbeats 3200000 in
theorem idle_yes (g base : Nat) (hgb : g < base) (t : TabA) (st : Nat) (now : Int) (ks : Nat) (hks : ks < 8) (hself : t.self = (ks : Int)) (hkn : t.knows ks = true) (hst2 : ∀ k, k < 8 → (t.nd k).1.2.2 ≠ 2) (htm : (t.pass now).timed) (hls : Lasts (t.pass now) st) (hbg : (t.pass now).begins [] st = true) (w : World) (h : TabAt w g t) (ho : OwnG w base t.opened []) :
    Calls Try.prog 18 #[.pointer (some ⟨g, 0, none⟩), .int .i64 now] w fun e w' => ∃ b c A k ov, e = .returned (.tuple #[.slice (some ⟨b, 0, none⟩) 1 c, .slice A 0 k]) ∧ b < w'.heap.size ∧ (∀ (j : Nat) u, (pmsg t.self (nx ((t.pass now).free []) st) (t.last.2.1 + 1))[j]? = some u → w'.cell? ⟨b, j, none⟩ = some u) ∧ w.heap.size ≤ b ∧ TabAt w' g { t.pass now with last := (t.pass now).fresh [] st, opened := ov } ∧ OwnG w' w.heap.size ov [(t.pass now).fresh [] st] ∧ Turns g w.heap.size w w' ∧ ov.ownBlock ≠ some b := by
  have H0 : Hid (Calls Try.prog 40 #[.pointer (some ⟨g, 0, none⟩)] w fun e w' => e = .returned (.bool true) ∧ w = w') := Lib.hid (by have := made_any g t ks hks hself w h; rw [hkn] at this; exact this)
  have H1 := Lib.hid (pass_any g t now w h)
  have HGL := Lib.hid h.lt
  have HSF : Hid ((t.pass now).self = t.self) := Lib.hid rfl
  have HLA : Hid ((t.pass now).last = t.last) := Lib.hid rfl
  obtain ⟨t1, ht1⟩ : ∃ t1, Hid (t1 = t.pass now) := ⟨_, Lib.hid rfl⟩
  have HO1' : Hid (OwnG w base t1.opened []) := Lib.hid (by rw [ht1.out]; exact ho)
  have hs2 : ∀ k, k < 8 → (t1.nd k).1.2.2 ≠ 2 := fun k hk => by rw [ht1.out, pass_nd']; exact hst2 k hk
  rw [← ht1.out] at htm hls hbg H1 HSF HLA ⊢
  have H2 := fun w' (hT : TabAt w' g t1) => Lib.hid (bury_none g t1 hs2 w' hT)
  have H3 := fun w' (hT : TabAt w' g t1) (hO : OwnG w' base t1.opened []) => Lib.hid (wait_any g base t1 [] (by simp) htm (fun p hp => by simp at hp) hgb w' hT hO)
  have HLS := Lib.hid hls
  have HTM := Lib.hid htm
  have HBG := Lib.hid hbg
  clear h ho hself hkn htm hls hs2 hst2 hbg
  go_enter Try.func18, Try.ntmps18
  go_wp2_with (first
    | (go_at_call 40
       (with_reducible refine H0.out.mono ?_); rintro e w1 ⟨rfl, rfl⟩)
    | (go_at_call 41
       (with_reducible refine H1.out.mono ?_); rintro e w1 ⟨rfl, hx1, hg1⟩
       have HT1 := Lib.hid hx1
       have HG1 := Lib.hid hg1
       have HO1 : Hid (OwnG w1 base t1.opened []) := Lib.hid (row_turn HO1'.out hg1 hgb)
       clear hx1 hg1)
    | (go_at_call 46
       (with_reducible refine (H2 _ HT1.out).out.mono ?_); rintro e w2 ⟨rfl, hb2⟩
       have HT2 := Lib.hid (HT1.out.below hb2 HT1.out.lt)
       have HG2 : Hid (Turns g w.heap.size w w2) := Lib.hid (HG1.out.trans ((Turns.of hb2).mono HG1.out.size))
       have HO2 : Hid (OwnG w2 base t1.opened []) := Lib.hid (row_below HO1.out hb2)
       clear hb2)
    | (go_at_call 47
       (with_reducible refine (H3 _ HT2.out HO2.out).out.mono ?_); rintro e w3 hp3
       obtain ⟨v4, v5, n4, n5, v6, rfl, hw3, h34, h35⟩ := hp3
       have e4 : n4 = 0 := by simpa using h34
       have e5 : n5 = 0 := by simpa using h35
       subst e4 e5
       have HW3 := Lib.hid hw3
       have HG3 : Hid (Turns g w.heap.size w w3) := Lib.hid (HG2.out.trans (hw3.fr.mono HG2.out.size))
       have H4 := Lib.hid (begin_yes g w2.heap.size (Nat.lt_of_lt_of_le HGL.out HG2.out.size) { t1 with opened := v6 } [] (by simp) st HLS.out.le HLS.out.to (timed_opened HTM.out v6) ⟨HLS.out.since0, HLS.out.since1, HLS.out.req0, (begins_parts HBG.out).2.2⟩ (begins_parts HBG.out).1 (by rw [free_opened]; exact (begins_parts HBG.out).2.1) w3 hw3.fr.size hw3.tab hw3.s)
       clear hw3 h34 h35)
    | (go_at_call 48
       (with_reducible refine H4.out.mono ?_); rintro e w4 hp4
       obtain ⟨b4, ov, rfl, hbb4, hc4, hx4, ho4, hv4⟩ := hp4
       have HGW : Hid (g < w2.heap.size) := Lib.hid (Nat.lt_of_lt_of_le HGL.out HG2.out.size)
       obtain ⟨xs4, hm, hm1⟩ := HW3.out.m
       obtain ⟨ds5, hd5, hd51⟩ := HW3.out.d
       have HMA : Hid (w4.ownsRow w.heap.size 56 17 v4 0 xs4) := Lib.hid (row_base (row_moves neMG hm HW3.out.s HGW.out hv4) HG2.out.size)
       have HX0 : Hid (xs4 = []) := Lib.hid (by have := hm.1; simpa using this)
       have HD5 : Hid (w4.ownsRow w2.heap.size 38 3 v5 0 (dcells ds5)) := Lib.hid (row_moves nePG hd5 HW3.out.s HGW.out hv4)
       have HG4 : Hid (Turns g w.heap.size w w4) := Lib.hid (Moves.turns HG3.out (Nat.le_refl _) (row_base HW3.out.s HG2.out.size) hv4)
       have HT4 := Lib.hid hx4
       have HO4 := Lib.hid (row_base ho4 HG2.out.size)
       have HZ4 : Hid (w.heap.size ≤ w4.heap.size) := Lib.hid HG4.out.size
       have HY : Hid (w4.ownsRow w2.heap.size 56 17 (.slice (some ⟨b4, 0, none⟩) 1 1) 1 (pmsg t1.self (nx (t1.free []) st) (t1.last.2.1 + 1)).toList) := Lib.hid ⟨rfl, .inr ⟨b4, 1, _, rfl, Nat.le_trans HW3.out.fr.size hbb4, by rw [free_opened] at hc4; exact hc4, Nat.le_refl _, by decide, rfl, rfl⟩⟩
       have HY1 : Hid (∀ u ∈ (pmsg t1.self (nx (t1.free []) st) (t1.last.2.1 + 1)).toList, u.oneCell' = true) := Lib.hid (pmsg_one _ _ _).2
       clear hbb4 hc4
       clear hm hm1 hd5 hd51 hx4 ho4 hv4)
    | (at_builtin; go_must (refine wpList_append_rows Try.underlying34 infoMsg hz17 _ rfl (.tmp 22) (.tmp 24) rfl (by rfl) (by rfl) HMA.out HY.out HY1.out (by decide) HZ4.out ?_)))
  intro v7 w7 ho7 hg7 _
  obtain ⟨A7, c7, rfl⟩ := row_slice ho7
  rw [HX0.out] at ho7
  have HO7 := Lib.hid ho7
  have HD75 : Hid (w7.ownsRow w2.heap.size 38 3 v5 0 (dcells ds5)) := Lib.hid (keepRow neMP.symm HD5.out HMA.out hg7)
  have HX7 := Lib.hid (tab_grown HT4.out HGL.out HMA.out hg7)
  have HP7 := Lib.hid (keepRow neMG.symm HO4.out HMA.out hg7)
  have HG7 : Hid (Turns g w.heap.size w w7) := Lib.hid (turns_grown HG4.out (Nat.le_refl _) HMA.out hg7)
  have HZ7 : Hid (w.heap.size ≤ w7.heap.size) := Lib.hid HG7.out.size
  have HD7 : Hid (w7.ownsRow w.heap.size 38 3 (.slice none 0 0) 0 []) := Lib.hid (World.ownsRow_nil _ _ _ 3)
  clear ho7 hg7
  go_wp2_with (at_builtin; go_must (refine wpList_append_rows Try.underlying31 infoPeer hz3 _ rfl (.tmp 26) (.tmp 27) rfl (by rfl) (by rfl) HD7.out HD75.out (dcells_one _) (by decide) HZ7.out ?_))
  intro v8 w8 ho8 hg8 _
  obtain ⟨A8, c8, rfl⟩ := row_slice ho8
  have HX8 := Lib.hid (tab_grown HX7.out HGL.out HD7.out hg8)
  have HP8 := Lib.hid (keepRow nePG.symm HP7.out HD7.out hg8)
  have HG8 : Hid (Turns g w.heap.size w w8) := Lib.hid (turns_grown HG7.out (Nat.le_refl _) HD7.out hg8)
  have HM8 := Lib.hid (keepRow neMP HO7.out HD7.out hg8)
  clear ho8 hg8
  go_wp2
  go_ret2
  obtain ⟨b7, hb7⟩ : ∃ b7, A7 = some ⟨b7, 0, none⟩ := by
    rcases HM8.out.2 with ⟨_, e⟩ | ⟨b7, cap, cur, e, _⟩
    · simp at e
    · injection e with e1 _ _
      exact ⟨b7, e1⟩
  subst hb7
  have hfr : ({ t1 with opened := v6 } : TabA).free [] = t1.free [] := free_opened _ _ _
  rw [← HSF.out, ← HLA.out]
  refine ⟨b7, c7, A8, c8, ov, rfl, (World.ownsRow.lt HM8.out b7 rfl).2, fun j u hu => ?_, (World.ownsRow.lt HM8.out b7 rfl).1, ?_, ?_, HG8.out, ?_⟩
  · have := World.ownsRow.cells HM8.out (g := b7) rfl j u (by simpa using hu)
    rw [Addr.add_mid] at this
    simpa using this
  · have := HX8.out
    unfold TabA.fresh
    rw [hfr] at this
    exact this
  · have := HP8.out
    unfold TabA.fresh
    rw [hfr] at this
    exact this
  · have := rows_apart neMG.symm HP8.out HM8.out
    rcases this with h | h
    · rw [h]; simp
    · exact h
end Go.Proofs.Ythipdadhhelieaa
