/- set and insert, by the document: their walks. -/
import Derived.Test.YtnlohijpcnoamaaCRefs
namespace Go.Proofs.Ytnlohijpcnoamaa
open Go.RowKit Go.Sort Go.BigFrame
open Go.Lib (byteCells byteCells_length)

/-- A mark put among marks. -/
def setL (m : DotA) : List DotA → Bool → List DotA
  | [], put => if put then [] else [m]
  | x :: r, put => if actOf x = actOf m then (x.1, x.2.1, max x.2.2 m.2.2) :: setL m r true else if !put && belB (m.1, m.2.1, 0) (x.1, x.2.1, 0) then m :: x :: setL m r true else x :: setL m r put
/-- A dot put among dots. -/
def insL (d : DotA) : List DotA → Bool → List DotA
  | [], put => if put then [] else [d]
  | x :: r, put => if !(put || decide (x = d)) && belB d x then d :: x :: insL d r true else x :: insL d r (put || decide (x = d))
theorem setL_len (m : DotA) : ∀ (l : List DotA) (put : Bool), (setL m l put).length ≤ l.length + 1
  | [], put => by unfold setL; split <;> simp
  | x :: r, put => by
    unfold setL
    have h1 := setL_len m r true
    have h2 := setL_len m r put
    have h3 : (setL m r true).length ≤ r.length := by
      clear h1 h2
      induction r with
      | nil => simp [setL]
      | cons y s ih => unfold setL; split <;> simp [ih]
    split
    · simp only [List.length_cons]; omega
    · split
      · simp only [List.length_cons]; omega
      · simp only [List.length_cons]; omega
theorem insL_len (d : DotA) : ∀ (l : List DotA) (put : Bool), (insL d l put).length ≤ l.length + 1
  | [], put => by unfold insL; split <;> simp
  | x :: r, put => by
    unfold insL
    have h2 := insL_len d r (put || decide (x = d))
    have h3 : (insL d r true).length ≤ r.length := by
      clear h2
      induction r with
      | nil => simp [insL]
      | cons y s ih => unfold insL; simp [ih]
    split
    · simp only [List.length_cons]; omega
    · simp only [List.length_cons]; omega

/-- What a call answers that makes a new list. -/
def NewD (T : TypeId) (l : List DotA) (w : World) (e : Ending) (w' : World) : Prop := ∃ v, e = .returned v ∧ OwnD T w' w.heap.size v l ∧ Below w.heap.size w w'

set_option maxRecDepth 100000 in
set_option maxHeartbeats 6400000 in
theorem set_ref (v : Value) (ms : List DotA) (m : DotA) (w : World) (h : RdD w v ms) (hl : ms.length ≤ 1048576000) : Calls Try.prog 54 #[v, dotV m] w (NewD 53 (setL m ms false) w) := by
  obtain ⟨L, hL⟩ : ∃ L, Hid (L = setL m ms false) := ⟨_, Lib.hid rfl⟩
  have hLl : L.length ≤ ms.length + 1 := by rw [hL.out]; exact setL_len m ms false
  rw [← hL.out]
  obtain ⟨A, c, rfl, hc, hx⟩ := h
  obtain ⟨n, hn⟩ : ∃ n, Hid (n = ms.length) := ⟨_, Lib.hid rfl⟩
  rw [← hn.out] at hl hc hLl ⊢
  obtain ⟨W, hW⟩ : ∃ W, Hid (W = w.alloc (.cells #[.int .i64 m.1, .int .i64 m.2.1, .int .i64 m.2.2] 53)) := ⟨_, Lib.hid rfl⟩
  have hb0 : Below w.heap.size w W := by rw [hW.out]; exact (Below.refl _ _).alloc (Nat.le_refl _) _
  have hbx : BoxD W w.heap.size m := by rw [hW.out]; exact boxD w 53 m
  have hltW : w.heap.size < W.heap.size := by rw [hW.out]; simp
  have HX := Lib.hid (hx.below hb0 (Nat.le_refl _))
  have HB0 := Lib.hid hb0
  have HBX := Lib.hid hbx
  have hWe := hW.out.symm
  clear hx hb0 hbx
  go_enter Try.func54, Try.ntmps54
  go_wp2
  clear hWe
  go_loopw [11, 5, 6] (fun i out pt wr => ∃ (k : Nat) (put : Bool) (o : List DotA), k ≤ n ∧ i = .int .i64 k ∧ pt = .bool put ∧ Hid (OwnD 53 wr W.heap.size out o) ∧ Hid (o ++ setL m (ms.drop k) put = L) ∧ Below W.heap.size W wr) (fun i _ _ _ => n - (intOf i).toNat)
  case atStart => exact ⟨0, false, [], Nat.zero_le _, rfl, rfl, Lib.hid (ownD_nil _ _ _), Lib.hid (by rw [hL.out]; rfl), Below.refl _ _⟩
  case round =>
    obtain ⟨k, put, o, hk, rfl, rfl, HOW, HE, hb⟩ := hrel
    have HB := Lib.hid hb
    have hbs := hb.size
    have hxr := HX.out.below hb (Nat.le_trans (Nat.le_refl _) HB0.out.size)
    have hol : o.length ≤ n + 1 := by
      have := congrArg List.length HE.out
      rw [List.length_append] at this
      omega
    have hol40 : o.length ≤ 1099511627776 := by omega
    obtain ⟨b0, b1, b2⟩ := HBX.out.below hb hltW
    by_cases hlt : k < n
    · obtain ⟨x, hd⟩ : ∃ x, ms[k]? = some x := ⟨ms[k]'(by have := hn.out; omega), List.getElem?_eq_getElem _⟩
      obtain ⟨ad, rfl, hadlt, hda⟩ := hxr k x hd
      obtain ⟨d0, d1, d2⟩ := hda
      have hdrop : ms.drop k = x :: ms.drop (k + 1) := by
        obtain ⟨hi, he⟩ := List.getElem?_eq_some_iff.1 hd
        rw [List.drop_eq_getElem_cons hi, he]
      have HDR := Lib.hid hdrop
      clear hd hxr hb hdrop
      obtain ⟨x1, x2, x3⟩ := x
      obtain ⟨m1, m2, m3⟩ := m
      simp only at d0 d1 d2 b0 b1 b2
      obtain ⟨W1, hW1⟩ : ∃ W1, Hid (W1 = wr.alloc (.cells #[.int .i64 x1, .int .i64 x2, .int .i64 x3] 53)) := ⟨_, Lib.hid rfl⟩
      have hbA : Below wr.heap.size wr W1 := by rw [hW1.out]; exact (Below.refl _ _).alloc (Nat.le_refl _) _
      have hgm : w.heap.size < wr.heap.size := Nat.lt_of_lt_of_le hltW hbs
      have hzW1 : wr.heap.size < W1.heap.size := by rw [hW1.out]; simp
      have e0 := (hbA.cell (p := ⟨w.heap.size, 0, none⟩) hgm).trans b0
      have e1 := (hbA.cell (p := ⟨w.heap.size, 1, none⟩) hgm).trans b1
      have e2 := (hbA.cell (p := ⟨w.heap.size, 2, none⟩) hgm).trans b2
      have g0 : W1.cell? ⟨wr.heap.size, 0, none⟩ = some (.int .i64 x1) := by rw [hW1.out]; exact box_cell _ _ _ 0
      have g1 : W1.cell? ⟨wr.heap.size, 1, none⟩ = some (.int .i64 x2) := by rw [hW1.out]; exact box_cell _ _ _ 1
      have g2 : W1.cell? ⟨wr.heap.size, 2, none⟩ = some (.int .i64 x3) := by rw [hW1.out]; exact box_cell _ _ _ 2
      have HB1 := Lib.hid (HB.out.trans (hbA.mono hbs))
      have HO1 := Lib.hid (HOW.out.below hbA)
      have hrow := World.ownsRow.lt HOW.out
      have HROW := Lib.hid hrow
      have hWe1 := hW1.out.symm
      have hbz : W.heap.size ≤ W1.heap.size := by omega
      clear hbA hrow b0 b1 b2
      by_cases h1 : x1 = m1 ∧ x2 = m2
      · obtain ⟨rfl, rfl⟩ := h1
        have q1 : (x1 == x1) = true := by simp
        have q2 : (x2 == x2) = true := by simp
        have HE2 : Hid ((o ++ [(x1, x2, max x3 m3)]) ++ setL (x1, x2, m3) (ms.drop (k + 1)) true = L) := Lib.hid (by
          have := HE.out
          rw [HDR.out] at this
          unfold setL at this
          rw [if_pos (by rfl)] at this
          simpa using this)
        rcases Int.lt_trichotomy x3 m3 with hx | hx | hx
        · have HE3 : Hid ((o ++ [(x1, x2, m3)]) ++ setL (x1, x2, m3) (ms.drop (k + 1)) true = L) := Lib.hid (by have := HE2.out; rw [show max x3 m3 = m3 by omega] at this; exact this)
          go_upto_region 6 with fail
          clear hWe1
          go_wp2_with (at_builtin; go_must (refine wpList_append_dot (v := u5) Try.underlying22 infoMark _ rfl (.tmp 27) (.tmp 38) rfl (x1, x2, m3) (by rfl) (by rfl) HO1.out hol40 hbz ?_))
          intro v5 w5 ho5 hg5 ht5
          have HB5 : Hid (Below W.heap.size W w5) := Lib.hid (HB1.out.grown hg5 hbz (fun g e => (HROW.out g e).1))
          have HO5 := Lib.hid ho5
          clear ho5 hg5 ht5
          go_wp2
          go_roundw
          case rel => exact ⟨k + 1, true, _, by omega, by go_num, rfl, HO5, HE3, HB5.out⟩
          case measure => simp [intOf]; omega
        · subst hx
          have HE3 : Hid ((o ++ [(x1, x2, x3)]) ++ setL (x1, x2, x3) (ms.drop (k + 1)) true = L) := Lib.hid (by have := HE2.out; rw [show max x3 x3 = x3 by omega] at this; exact this)
          go_upto_region 6 with fail
          clear hWe1
          go_wp2_with (at_builtin; go_must (refine wpList_append_dot (v := u5) Try.underlying22 infoMark _ rfl (.tmp 27) (.tmp 38) rfl (x1, x2, x3) (by rfl) (by rfl) HO1.out hol40 hbz ?_))
          intro v5 w5 ho5 hg5 ht5
          have HB5 : Hid (Below W.heap.size W w5) := Lib.hid (HB1.out.grown hg5 hbz (fun g e => (HROW.out g e).1))
          have HO5 := Lib.hid ho5
          clear ho5 hg5 ht5
          go_wp2
          go_roundw
          case rel => exact ⟨k + 1, true, _, by omega, by go_num, rfl, HO5, HE3, HB5.out⟩
          case measure => simp [intOf]; omega
        · have HE3 : Hid ((o ++ [(x1, x2, x3)]) ++ setL (x1, x2, m3) (ms.drop (k + 1)) true = L) := Lib.hid (by have := HE2.out; rw [show max x3 m3 = x3 by omega] at this; exact this)
          go_upto_region 6 with fail
          clear hWe1
          go_wp2_with (at_builtin; go_must (refine wpList_append_dot (v := u5) Try.underlying22 infoMark _ rfl (.tmp 27) (.tmp 38) rfl (x1, x2, x3) (by rfl) (by rfl) HO1.out hol40 hbz ?_))
          intro v5 w5 ho5 hg5 ht5
          have HB5 : Hid (Below W.heap.size W w5) := Lib.hid (HB1.out.grown hg5 hbz (fun g e => (HROW.out g e).1))
          have HO5 := Lib.hid ho5
          clear ho5 hg5 ht5
          go_wp2
          go_roundw
          case rel => exact ⟨k + 1, true, _, by omega, by go_num, rfl, HO5, HE3, HB5.out⟩
          case measure => simp [intOf]; omega
      · have hne : actOf (x1, x2, x3) ≠ actOf (m1, m2, m3) := fun e => h1 ⟨congrArg (fun p : ActA => p.1) e, congrArg (fun p : ActA => p.2) e⟩
        have q1 : (x1 == m1) = true ∧ (x2 == m2) = false ∨ (x1 == m1) = false := by
          by_cases h2 : x1 = m1
          · exact .inl ⟨by simpa using h2, by simpa using fun h3 => h1 ⟨h2, h3⟩⟩
          · exact .inr (by simpa using h2)
        have HEX := HE.out
        rw [HDR.out] at HEX
        unfold setL at HEX
        rw [if_neg hne] at HEX
        have HEY := Lib.hid HEX
        have HNE := Lib.hid hne
        clear HEX h1 hne
        cases put with
        | true =>
          have HE2 : Hid ((o ++ [(x1, x2, x3)]) ++ setL (m1, m2, m3) (ms.drop (k + 1)) true = L) := Lib.hid (by
            have := HEY.out
            rw [if_neg (by simp)] at this
            simpa using this)
          rcases q1 with ⟨q1, q2⟩ | q1
          · go_upto_region 6 with fail
            clear hWe1
            go_wp2_with (at_builtin; go_must (refine wpList_append_dot (v := u5) Try.underlying22 infoMark _ rfl (.tmp 59) (.tmp 61) rfl (x1, x2, x3) (by rfl) (by rfl) HO1.out hol40 hbz ?_))
            intro v5 w5 ho5 hg5 ht5
            have HB5 : Hid (Below W.heap.size W w5) := Lib.hid (HB1.out.grown hg5 hbz (fun g e => (HROW.out g e).1))
            have HO5 := Lib.hid ho5
            clear ho5 hg5 ht5
            go_wp2
            go_roundw
            case rel => exact ⟨k + 1, true, _, by omega, by go_num, rfl, HO5, HE2, HB5.out⟩
            case measure => simp [intOf]; omega
          · go_upto_region 6 with fail
            clear hWe1
            go_wp2_with (at_builtin; go_must (refine wpList_append_dot (v := u5) Try.underlying22 infoMark _ rfl (.tmp 59) (.tmp 61) rfl (x1, x2, x3) (by rfl) (by rfl) HO1.out hol40 hbz ?_))
            intro v5 w5 ho5 hg5 ht5
            have HB5 : Hid (Below W.heap.size W w5) := Lib.hid (HB1.out.grown hg5 hbz (fun g e => (HROW.out g e).1))
            have HO5 := Lib.hid ho5
            clear ho5 hg5 ht5
            go_wp2
            go_roundw
            case rel => exact ⟨k + 1, true, _, by omega, by go_num, rfl, HO5, HE2, HB5.out⟩
            case measure => simp [intOf]; omega
        | false =>
          have HBL := fun w' => below_ref (m1, m2, 0) (x1, x2, 0) w'
          by_cases hbel : belB (m1, m2, 0) (x1, x2, 0) = true
          · have HE2 : Hid ((o ++ [(m1, m2, m3), (x1, x2, x3)]) ++ setL (m1, m2, m3) (ms.drop (k + 1)) true = L) := Lib.hid (by
              have := HEY.out
              rw [if_pos (by simpa using hbel)] at this
              simpa using this)
            rw [hbel] at HBL
            have HBLH := fun w' => Lib.hid (HBL w')
            clear hbel HBL
            rcases q1 with ⟨q1, q2⟩ | q1
            · go_upto_region 6 with fail
              clear hWe1
              go_wp2_with fail
              (with_reducible refine (HBLH _).out.mono ?_); rintro e w2 ⟨rfl, hb2⟩
              have hgm2 : w.heap.size < W1.heap.size := by omega
              have f0 := (hb2.cell (p := ⟨w.heap.size, 0, none⟩) hgm2).trans e0
              have f1 := (hb2.cell (p := ⟨w.heap.size, 1, none⟩) hgm2).trans e1
              have f2 := (hb2.cell (p := ⟨w.heap.size, 2, none⟩) hgm2).trans e2
              have P0 := Lib.hid ((hb2.cell (p := ⟨wr.heap.size, 0, none⟩) hzW1).trans g0)
              have P1 := Lib.hid ((hb2.cell (p := ⟨wr.heap.size, 1, none⟩) hzW1).trans g1)
              have P2 := Lib.hid ((hb2.cell (p := ⟨wr.heap.size, 2, none⟩) hzW1).trans g2)
              have HO2 := Lib.hid (HO1.out.below hb2)
              have HB2 := Lib.hid (HB1.out.trans (hb2.mono hbz))
              have hz2 := hb2.size
              have hbz2 : W.heap.size ≤ w2.heap.size := by omega
              clear e0 e1 e2 g0 g1 g2 hb2
              go_wp2_with (at_builtin; go_must (refine wpList_append_dot (v := u5) Try.underlying22 infoMark _ rfl (.tmp 55) (.tmp 57) rfl (m1, m2, m3) (by rfl) (by rfl) HO2.out hol40 hbz2 ?_))
              intro v3 w3 ho3 hg3 ht3
              have hnr : some wr.heap.size ≠ _root_.Go.Value.ownBlock u5 := fun e => by have := (HROW.out _ e.symm).2; omega
              have hsame := hg3.block wr.heap.size (by omega) hnr
              have p0 := (World.cell?_of_block (a := ⟨wr.heap.size, 0, none⟩) hsame).trans P0.out
              have p1 := (World.cell?_of_block (a := ⟨wr.heap.size, 1, none⟩) hsame).trans P1.out
              have p2 := (World.cell?_of_block (a := ⟨wr.heap.size, 2, none⟩) hsame).trans P2.out
              have HB3 : Hid (Below W.heap.size W w3) := Lib.hid (HB2.out.grown hg3 hbz2 (fun g e => (HROW.out g e).1))
              have HO3 := Lib.hid ho3
              have hbz3 : W.heap.size ≤ w3.heap.size := HB3.out.size
              have hol41 : (o ++ [(m1, m2, m3)]).length ≤ 1099511627776 := by rw [List.length_append]; simp only [List.length_cons, List.length_nil]; omega
              have HROW3 := Lib.hid (World.ownsRow.lt HO3.out)
              clear ho3 hg3 ht3 hsame hnr f0 f1 f2
              go_wp2_with (at_builtin; go_must (refine wpList_append_dot (v := v3) Try.underlying22 infoMark _ rfl (.tmp 59) (.tmp 61) rfl (x1, x2, x3) (by rfl) (by rfl) HO3.out hol41 hbz3 ?_))
              intro v5 w5 ho5 hg5 ht5
              have HB5 : Hid (Below W.heap.size W w5) := Lib.hid (HB3.out.grown hg5 hbz3 (fun g e => (HROW3.out g e).1))
              have HO5 := Lib.hid ho5
              clear ho5 hg5 ht5 hol41
              go_wp2
              go_roundw
              case rel => exact ⟨k + 1, true, _, by omega, by go_num, rfl, HO5, HE2, HB5.out⟩
              case measure => simp [intOf]; omega
            · go_upto_region 6 with fail
              clear hWe1
              go_wp2_with fail
              (with_reducible refine (HBLH _).out.mono ?_); rintro e w2 ⟨rfl, hb2⟩
              have hgm2 : w.heap.size < W1.heap.size := by omega
              have f0 := (hb2.cell (p := ⟨w.heap.size, 0, none⟩) hgm2).trans e0
              have f1 := (hb2.cell (p := ⟨w.heap.size, 1, none⟩) hgm2).trans e1
              have f2 := (hb2.cell (p := ⟨w.heap.size, 2, none⟩) hgm2).trans e2
              have P0 := Lib.hid ((hb2.cell (p := ⟨wr.heap.size, 0, none⟩) hzW1).trans g0)
              have P1 := Lib.hid ((hb2.cell (p := ⟨wr.heap.size, 1, none⟩) hzW1).trans g1)
              have P2 := Lib.hid ((hb2.cell (p := ⟨wr.heap.size, 2, none⟩) hzW1).trans g2)
              have HO2 := Lib.hid (HO1.out.below hb2)
              have HB2 := Lib.hid (HB1.out.trans (hb2.mono hbz))
              have hz2 := hb2.size
              have hbz2 : W.heap.size ≤ w2.heap.size := by omega
              clear e0 e1 e2 g0 g1 g2 hb2
              go_wp2_with (at_builtin; go_must (refine wpList_append_dot (v := u5) Try.underlying22 infoMark _ rfl (.tmp 55) (.tmp 57) rfl (m1, m2, m3) (by rfl) (by rfl) HO2.out hol40 hbz2 ?_))
              intro v3 w3 ho3 hg3 ht3
              have hnr : some wr.heap.size ≠ _root_.Go.Value.ownBlock u5 := fun e => by have := (HROW.out _ e.symm).2; omega
              have hsame := hg3.block wr.heap.size (by omega) hnr
              have p0 := (World.cell?_of_block (a := ⟨wr.heap.size, 0, none⟩) hsame).trans P0.out
              have p1 := (World.cell?_of_block (a := ⟨wr.heap.size, 1, none⟩) hsame).trans P1.out
              have p2 := (World.cell?_of_block (a := ⟨wr.heap.size, 2, none⟩) hsame).trans P2.out
              have HB3 : Hid (Below W.heap.size W w3) := Lib.hid (HB2.out.grown hg3 hbz2 (fun g e => (HROW.out g e).1))
              have HO3 := Lib.hid ho3
              have hbz3 : W.heap.size ≤ w3.heap.size := HB3.out.size
              have hol41 : (o ++ [(m1, m2, m3)]).length ≤ 1099511627776 := by rw [List.length_append]; simp only [List.length_cons, List.length_nil]; omega
              have HROW3 := Lib.hid (World.ownsRow.lt HO3.out)
              clear ho3 hg3 ht3 hsame hnr f0 f1 f2
              go_wp2_with (at_builtin; go_must (refine wpList_append_dot (v := v3) Try.underlying22 infoMark _ rfl (.tmp 59) (.tmp 61) rfl (x1, x2, x3) (by rfl) (by rfl) HO3.out hol41 hbz3 ?_))
              intro v5 w5 ho5 hg5 ht5
              have HB5 : Hid (Below W.heap.size W w5) := Lib.hid (HB3.out.grown hg5 hbz3 (fun g e => (HROW3.out g e).1))
              have HO5 := Lib.hid ho5
              clear ho5 hg5 ht5 hol41
              go_wp2
              go_roundw
              case rel => exact ⟨k + 1, true, _, by omega, by go_num, rfl, HO5, HE2, HB5.out⟩
              case measure => simp [intOf]; omega
          · have HE2 : Hid ((o ++ [(x1, x2, x3)]) ++ setL (m1, m2, m3) (ms.drop (k + 1)) false = L) := Lib.hid (by
              have := HEY.out
              rw [if_neg (by simpa using hbel)] at this
              simpa using this)
            have hbf : belB (m1, m2, 0) (x1, x2, 0) = false := by simpa using hbel
            rw [hbf] at HBL
            have HBLH := fun w' => Lib.hid (HBL w')
            clear hbel hbf HBL
            rcases q1 with ⟨q1, q2⟩ | q1
            · go_upto_region 6 with fail
              clear hWe1
              go_wp2_with fail
              (with_reducible refine (HBLH _).out.mono ?_); rintro e w2 ⟨rfl, hb2⟩
              have p0 := (hb2.cell (p := ⟨wr.heap.size, 0, none⟩) hzW1).trans g0
              have p1 := (hb2.cell (p := ⟨wr.heap.size, 1, none⟩) hzW1).trans g1
              have p2 := (hb2.cell (p := ⟨wr.heap.size, 2, none⟩) hzW1).trans g2
              have HO2 := Lib.hid (HO1.out.below hb2)
              have HB2 := Lib.hid (HB1.out.trans (hb2.mono hbz))
              have hz2 := hb2.size
              have hbz2 : W.heap.size ≤ w2.heap.size := by omega
              clear e0 e1 e2 g0 g1 g2 hb2
              go_wp2_with (at_builtin; go_must (refine wpList_append_dot (v := u5) Try.underlying22 infoMark _ rfl (.tmp 59) (.tmp 61) rfl (x1, x2, x3) (by rfl) (by rfl) HO2.out hol40 hbz2 ?_))
              intro v5 w5 ho5 hg5 ht5
              have HB5 : Hid (Below W.heap.size W w5) := Lib.hid (HB2.out.grown hg5 hbz2 (fun g e => (HROW.out g e).1))
              have HO5 := Lib.hid ho5
              clear ho5 hg5 ht5
              go_wp2
              go_roundw
              case rel => exact ⟨k + 1, false, _, by omega, by go_num, rfl, HO5, HE2, HB5.out⟩
              case measure => simp [intOf]; omega
            · go_upto_region 6 with fail
              clear hWe1
              go_wp2_with fail
              (with_reducible refine (HBLH _).out.mono ?_); rintro e w2 ⟨rfl, hb2⟩
              have p0 := (hb2.cell (p := ⟨wr.heap.size, 0, none⟩) hzW1).trans g0
              have p1 := (hb2.cell (p := ⟨wr.heap.size, 1, none⟩) hzW1).trans g1
              have p2 := (hb2.cell (p := ⟨wr.heap.size, 2, none⟩) hzW1).trans g2
              have HO2 := Lib.hid (HO1.out.below hb2)
              have HB2 := Lib.hid (HB1.out.trans (hb2.mono hbz))
              have hz2 := hb2.size
              have hbz2 : W.heap.size ≤ w2.heap.size := by omega
              clear e0 e1 e2 g0 g1 g2 hb2
              go_wp2_with (at_builtin; go_must (refine wpList_append_dot (v := u5) Try.underlying22 infoMark _ rfl (.tmp 59) (.tmp 61) rfl (x1, x2, x3) (by rfl) (by rfl) HO2.out hol40 hbz2 ?_))
              intro v5 w5 ho5 hg5 ht5
              have HB5 : Hid (Below W.heap.size W w5) := Lib.hid (HB2.out.grown hg5 hbz2 (fun g e => (HROW.out g e).1))
              have HO5 := Lib.hid ho5
              clear ho5 hg5 ht5
              go_wp2
              go_roundw
              case rel => exact ⟨k + 1, false, _, by omega, by go_num, rfl, HO5, HE2, HB5.out⟩
              case measure => simp [intOf]; omega
    · obtain rfl : k = n := by omega
      have hdn : ms.drop k = [] := List.drop_eq_nil_of_le (by rw [← hn.out]; omega)
      have HEE := HE.out
      rw [hdn] at HEE
      have hrow := World.ownsRow.lt HOW.out
      have HROW := Lib.hid hrow
      have hbz : W.heap.size ≤ wr.heap.size := hbs
      cases put with
      | true =>
        have HL2 : Hid (L = o) := Lib.hid (by rw [← HEE]; simp [setL])
        clear hxr hdn HEE hb b0 b1 b2 hrow
        go_wp2
        go_ret
        exact ⟨_, rfl, by rw [HL2.out]; exact HOW.out.base_le (by omega), HB0.out.trans (HB.out.mono HB0.out.size)⟩
      | false =>
        obtain ⟨m1, m2, m3⟩ := m
        simp only at b0 b1 b2
        have HL2 : Hid (L = o ++ [(m1, m2, m3)]) := Lib.hid (by rw [← HEE]; simp [setL])
        clear hxr hdn HEE hb hrow
        go_wp2_with (at_builtin; go_must (refine wpList_append_dot (v := u5) Try.underlying22 infoMark _ rfl (.tmp 66) (.tmp 68) rfl (m1, m2, m3) (by rfl) (by rfl) HOW.out hol40 hbz ?_))
        intro v5 w5 ho5 hg5 ht5
        have HB5 : Hid (Below W.heap.size W w5) := Lib.hid (HB.out.grown hg5 hbz (fun g e => (HROW.out g e).1))
        have HO5 := Lib.hid ho5
        clear ho5 hg5 ht5
        go_wp2
        go_ret
        exact ⟨_, rfl, by rw [HL2.out]; exact HO5.out.base_le (by omega), HB0.out.trans (HB5.out.mono HB0.out.size)⟩
end Go.Proofs.Ytnlohijpcnoamaa
