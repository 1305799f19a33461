/- Prune, by the document. -/
import Derived.Test.YtfplblhmeohhmaaCPrune
namespace Go.Proofs.Ytfplblhmeohhmaa
open Go.RowKit Go.Sort Go.BigFrame
open Go.Lib (byteCells byteCells_length)

set_option maxRecDepth 100000 in
set_option maxHeartbeats 12800000 in
theorem prune_ref (v : Value) (ms ds : List DotA) (a : ActA) (w : World) (h : RdC w v ms ds) (hok : OkC ms ds) : Calls Try.prog 27 #[v, actV a] w (MadeC (prn a ms) (prn a ds) w) := by
  obtain ⟨mv, dv, rfl, hm, hd⟩ := h
  obtain ⟨g5, hg5⟩ : ∃ g5, g5 = w.heap.size + 1 + 1 + 1 := ⟨_, rfl⟩
  obtain ⟨g4, hg4⟩ : ∃ g4, g4 = w.heap.size + 1 + 1 := ⟨_, rfl⟩
  obtain ⟨V, hV⟩ : ∃ V, V = ((w.alloc (.cells #[mv, dv] 48)).alloc (.cells #[.int .i64 a.1, .int .i64 a.2] 46)) := ⟨_, rfl⟩
  have hbV : Below w.heap.size w V := by rw [hV]; exact ((Below.refl _ _).alloc (Nat.le_refl _) _).alloc (by simp) _
  have hzV : V.heap.size = w.heap.size + 2 := by rw [hV]; simp
  have hbcV : BoxC V w.heap.size mv dv := by
    rw [hV]
    exact (show BoxC (w.alloc (.cells #[mv, dv] 48)) w.heap.size mv dv from ⟨box_cell _ _ _ 0, box_cell _ _ _ 1⟩).below ((Below.refl _ _).alloc (Nat.le_refl _) _) (by simp)
  have hbaV : BoxC V (w.heap.size + 1) (.int .i64 a.1) (.int .i64 a.2) := by
    rw [hV]
    have : BoxC ((w.alloc (.cells #[mv, dv] 48)).alloc (.cells #[.int .i64 a.1, .int .i64 a.2] 46)) (w.alloc (.cells #[mv, dv] 48)).heap.size (.int .i64 a.1) (.int .i64 a.2) := ⟨box_cell _ _ _ 0, box_cell _ _ _ 1⟩
    simpa using this
  obtain ⟨W, hW⟩ : ∃ W, Hid (W = (V.alloc (.cells #[.slice none 0 0, .slice none 0 0] 48)).alloc (.cells #[.slice none 0 0, .slice none 0 0] 48)) := ⟨_, Lib.hid rfl⟩
  have hbVW : Below V.heap.size V W := by rw [hW.out]; exact ((Below.refl _ _).alloc (Nat.le_refl _) _).alloc (by simp) _
  have hz : W.heap.size = w.heap.size + 4 := by rw [hW.out]; simp [hzV]
  have hb0 : Below w.heap.size w W := hbV.trans (hbVW.mono hbV.size)
  have hbc := hbcV.below hbVW (show w.heap.size < V.heap.size by omega)
  have hba := hbaV.below hbVW (show w.heap.size + 1 < V.heap.size by omega)
  have r4 : W.heap[g4]? = some (.cells #[.slice none 0 0, .slice none 0 0] 48 (0, 0)) := by
    rw [hW.out, show g4 = V.heap.size by omega]
    exact (Below.heap_alloc _ _ _ (by simp)).trans (heap_alloc_new V _)
  have r5 : W.heap[g5]? = some (.cells #[.slice none 0 0, .slice none 0 0] 48 (0, 0)) := by
    have := heap_alloc_new (V.alloc (.cells #[.slice none 0 0, .slice none 0 0] 48)) (.cells #[.slice none 0 0, .slice none 0 0] 48)
    rw [← hW.out, show (V.alloc (.cells #[.slice none 0 0, .slice none 0 0] 48)).heap.size = g5 by simp [hzV, hg5]] at this
    exact this
  have hrd : RdC W (.agg #[mv, dv]) ms ds := ⟨mv, dv, rfl, hm.below hb0, hd.below hb0⟩
  obtain ⟨A, c, rfl, hc, hx⟩ := hd
  obtain ⟨A1, c1, rfl, hc1, hx1⟩ := hm
  have HX := Lib.hid (hx.below hb0 (Nat.le_refl _))
  have HX1 := Lib.hid (hx1.below hb0 (Nat.le_refl _))
  have HOK := Lib.hid hok
  obtain ⟨n, hn⟩ : ∃ n, Hid (n = ds.length) := ⟨_, Lib.hid rfl⟩
  obtain ⟨n1, hn1⟩ : ∃ n1, Hid (n1 = ms.length) := ⟨_, Lib.hid rfl⟩
  have hn64 : n ≤ 64 := by rw [hn.out]; exact hok.2.1
  have hn164 : n1 ≤ 64 := by rw [hn1.out]; exact hok.1
  have hWe := hW.out.symm
  rw [hV] at hWe
  rw [← hn.out] at hbc hWe hc ⊢
  rw [← hn1.out] at hbc hWe hc1 ⊢
  have HC := Lib.hid hbc
  have HA := Lib.hid hba
  have HR4 := Lib.hid r4
  have HR5 := Lib.hid r5
  obtain ⟨l0, l1⟩ := hbc
  have HB0 := Lib.hid hb0
  have hsW : w.heap.size ≤ W.heap.size := by omega
  have hlt0 : w.heap.size < W.heap.size := by omega
  have hg5W : g5 < W.heap.size := by omega
  clear hb0 hrd hok hW hx hx1 hbV hbcV hbaV hbVW hba hzV r4 r5
  go_enter Try.func27, Try.ntmps27
  go_upto_region 2 with fail
  rw [← hg5, ← hg4]
  have hq1 : W.heap.size ≤ g5 + 1 ∧ g5 + 1 ≤ W.heap.size := by omega
  have hq2 : w.heap.size + 3 ≤ g5 ∧ g5 ≤ w.heap.size + 3 := by omega
  have hq3 : w.heap.size + 2 ≤ g4 ∧ g4 ≤ w.heap.size + 2 := by omega
  clear hWe hg5 hg4 hz
  have HB1 : Hid (Below W.heap.size W W) := Lib.hid (Below.refl _ _)
  go_wp2
  clear l0 l1
  go_loopw [13] (fun i wr => ∃ (k : Nat) (mv1 : Value), k ≤ n1 ∧ i = .int .i64 k ∧ Hid (wr.heap[g5]? = some (.cells #[mv1, .slice none 0 0] 48 (0, 0))) ∧ Hid (OwnD 55 wr W.heap.size mv1 (prn a (ms.take k))) ∧ Below g5 W wr) (fun i _ => n1 - (intOf i).toNat)
  case atStart => exact ⟨0, .slice none 0 0, Nat.zero_le _, rfl, Lib.hid ((HB1.out.block g5 hg5W).trans HR5.out), Lib.hid (by simpa [prn] using ownD_nil _ _ _), HB1.out.mono (Nat.le_of_lt hg5W)⟩
  case round =>
    obtain ⟨k, mv1, hk, rfl, HG, HO, hb⟩ := hrel
    have HB := Lib.hid hb
    have hbs := hb.size
    by_cases hlt : k < n1
    · obtain ⟨x, hd⟩ : ∃ x, ms[k]? = some x := ⟨ms[k]'(by have := hn1.out; omega), List.getElem?_eq_getElem _⟩
      obtain ⟨ad, rfl, hadlt, hda⟩ := HX1.out k x hd
      obtain ⟨d0, d1, d2⟩ := hda.below hb (show (ad.add (k * 3)).block < g5 by rw [add_block]; omega)
      have HD := Lib.hid hd
      obtain ⟨W1, hW1⟩ : ∃ W1, Hid (W1 = wr.alloc (.cells #[.int .i64 x.1, .int .i64 x.2.1, .int .i64 x.2.2] 55)) := ⟨_, Lib.hid rfl⟩
      have hbA : Below wr.heap.size wr W1 := by rw [hW1.out]; exact (Below.refl _ _).alloc (Nat.le_refl _) _
      have hzW1 : wr.heap.size < W1.heap.size := by rw [hW1.out]; simp
      have k0 : BoxD W1 wr.heap.size x := by
        have := boxD wr 55 x
        rw [← hW1.out] at this
        exact this
      have hb1 := hb.trans (hbA.mono (show g5 ≤ wr.heap.size by omega))
      have ha1 := HA.out.below hb1 (show w.heap.size + 1 < g5 by omega)
      have e0 := k0.1
      have e1 := k0.2.1
      have e2 := k0.2.2
      have j0 := ha1.1
      have j1 := ha1.2
      have hWe1 := hW1.out.symm
      have HBO := Lib.hid hb1
      have HBA := Lib.hid hbA
      have HK := Lib.hid k0
      clear hd hda hb hbA k0 ha1 hb1
      by_cases heq : actOf x = a
      · have q1 : (x.1 != a.1) = false := by rw [← heq]; simp [actOf]
        have q2 : (x.2.1 != a.2) = false := by rw [← heq]; simp [actOf]
        have HPX : Hid (prn a (ms.take (k + 1)) = prn a (ms.take k)) := Lib.hid (by rw [prn_take HD.out, if_pos heq, List.append_nil])
        clear heq
        go_upto_region 5 with fail
        clear hWe1
        have HB2 : Hid (Below g5 W W1) := HBO
        have HBW : Hid (Below wr.heap.size wr W1) := HBA
        have HG2 := Lib.hid ((HBW.out.block g5 (by omega)).trans HG.out)
        have HO2 : Hid (OwnD 55 W1 W.heap.size mv1 (prn a (ms.take (k + 1)))) := Lib.hid (by rw [HPX.out]; exact HO.out.below HBW.out)
        go_wp2
        go_roundw
        case rel => exact ⟨k + 1, mv1, by omega, by go_num, HG2, HO2, HB2.out⟩
        case measure => simp [intOf]; omega
      · have HNE := Lib.hid heq
        have qq : (x.1 != a.1) = true ∨ (x.1 != a.1) = false ∧ (x.2.1 != a.2) = true := by
          by_cases h1 : x.1 = a.1
          · exact .inr ⟨by simpa using h1, by have : ¬ x.2.1 = a.2 := fun h2 => heq (Prod.ext h1 h2); simpa using this⟩
          · exact .inl (by simpa using h1)
        clear heq
        rcases qq with q1 | ⟨q1, q2⟩
        · skip
          go_upto_region 5 with fail
          clear hWe1
          have HB2 : Hid (Below g5 W W1) := HBO
          have HBW : Hid (Below wr.heap.size wr W1) := HBA
          have HK2 := HK.out
          obtain ⟨p0, p1, p2⟩ := HK2
          have hr2 := (HBW.out.block g5 (by omega)).trans HG.out
          have HR2 := Lib.hid hr2
          have q0 : W1.cell? ⟨g5, 0, none⟩ = some mv1 := cell_of_row W1 _ 0 _ _ (0, 0) hr2
          have hz2 := HB2.out.size
          have HO2 := Lib.hid (HO.out.below HBW.out)
          have hol : (prn a (ms.take k)).length ≤ 1099511627776 := by
            have h1 := prn_len a (ms.take k)
            have h2 := List.length_take_le k ms
            omega
          have HROW := Lib.hid (World.ownsRow.lt HO2.out)
          obtain ⟨A5, c5, hv5⟩ := ownD_slice HO2.out
          subst hv5
          clear hr2 e0 e1 e2
          go_wp2_with (at_builtin; go_must (refine wpList_append_dot (v := .slice A5 (prn a (ms.take k)).length c5) Try.underlying41 infoMark _ rfl (.tmp 30) (.tmp 32) rfl x (by rfl) (by rfl) HO2.out hol hz2 ?_))
          intro v5 w5 ho5 hg5' ht5
          have hr5 := (hg5'.block g5 (by omega) (fun e => by have := (HROW.out g5 e.symm).1; omega)).trans HR2.out
          have HB5 : Hid (Below g5 W w5) := Lib.hid (HB2.out.grown hg5' (by omega) (fun g e => by have := (HROW.out g e).1; omega))
          obtain ⟨A6, c6, hv6⟩ := ownD_slice ho5
          obtain ⟨N6, hN6⟩ : ∃ N6, Hid (N6 = (prn a (ms.take k) ++ [x]).length) := ⟨_, Lib.hid rfl⟩
          rw [← hN6.out] at hv6
          subst hv6
          have ap : Apart g5 (.slice A6 N6 c6) := fun g e => by have := (World.ownsRow.lt ho5 g e).1; omega
          have HO6 := Lib.hid ((ho5.appended HD.out HNE.out).setOther ap (i := 0) (.slice A6 N6 c6))
          have HR6 : Hid ((w5.setCell ⟨g5, 0, none⟩ (.slice A6 N6 c6)).heap[g5]? = some (.cells #[.slice A6 N6 c6, .slice none 0 0] 48 (0, 0))) := Lib.hid (Joins.block_setCell hr5 (i := 0) (.slice A6 N6 c6))
          have HB6 : Hid (Below g5 W (w5.setCell ⟨g5, 0, none⟩ (.slice A6 N6 c6))) := Lib.hid (HB5.out.setCell (Nat.le_refl _) _)
          have s0 : w5.cell? ⟨g5, 0, none⟩ = some (.slice A5 (prn a (ms.take k)).length c5) := cell_of_row w5 _ 0 _ _ (0, 0) hr5
          have f0 : w5.frozen? ⟨g5, 0, none⟩ = false := frozen_of_row w5 _ 0 _ _ hr5
          clear ho5 hg5' ht5 hr5 ap q0 p0 p1 p2 j0 j1
          go_wp2
          go_roundw
          case rel => exact ⟨k + 1, _, by omega, by go_num, HR6, HO6, HB6.out⟩
          case measure => simp [intOf]; omega
        · skip
          go_upto_region 5 with fail
          clear hWe1
          have HB2 : Hid (Below g5 W W1) := HBO
          have HBW : Hid (Below wr.heap.size wr W1) := HBA
          have HK2 := HK.out
          obtain ⟨p0, p1, p2⟩ := HK2
          have hr2 := (HBW.out.block g5 (by omega)).trans HG.out
          have HR2 := Lib.hid hr2
          have q0 : W1.cell? ⟨g5, 0, none⟩ = some mv1 := cell_of_row W1 _ 0 _ _ (0, 0) hr2
          have hz2 := HB2.out.size
          have HO2 := Lib.hid (HO.out.below HBW.out)
          have hol : (prn a (ms.take k)).length ≤ 1099511627776 := by
            have h1 := prn_len a (ms.take k)
            have h2 := List.length_take_le k ms
            omega
          have HROW := Lib.hid (World.ownsRow.lt HO2.out)
          obtain ⟨A5, c5, hv5⟩ := ownD_slice HO2.out
          subst hv5
          clear hr2 e0 e1 e2
          go_wp2_with (at_builtin; go_must (refine wpList_append_dot (v := .slice A5 (prn a (ms.take k)).length c5) Try.underlying41 infoMark _ rfl (.tmp 30) (.tmp 32) rfl x (by rfl) (by rfl) HO2.out hol hz2 ?_))
          intro v5 w5 ho5 hg5' ht5
          have hr5 := (hg5'.block g5 (by omega) (fun e => by have := (HROW.out g5 e.symm).1; omega)).trans HR2.out
          have HB5 : Hid (Below g5 W w5) := Lib.hid (HB2.out.grown hg5' (by omega) (fun g e => by have := (HROW.out g e).1; omega))
          obtain ⟨A6, c6, hv6⟩ := ownD_slice ho5
          obtain ⟨N6, hN6⟩ : ∃ N6, Hid (N6 = (prn a (ms.take k) ++ [x]).length) := ⟨_, Lib.hid rfl⟩
          rw [← hN6.out] at hv6
          subst hv6
          have ap : Apart g5 (.slice A6 N6 c6) := fun g e => by have := (World.ownsRow.lt ho5 g e).1; omega
          have HO6 := Lib.hid ((ho5.appended HD.out HNE.out).setOther ap (i := 0) (.slice A6 N6 c6))
          have HR6 : Hid ((w5.setCell ⟨g5, 0, none⟩ (.slice A6 N6 c6)).heap[g5]? = some (.cells #[.slice A6 N6 c6, .slice none 0 0] 48 (0, 0))) := Lib.hid (Joins.block_setCell hr5 (i := 0) (.slice A6 N6 c6))
          have HB6 : Hid (Below g5 W (w5.setCell ⟨g5, 0, none⟩ (.slice A6 N6 c6))) := Lib.hid (HB5.out.setCell (Nat.le_refl _) _)
          have s0 : w5.cell? ⟨g5, 0, none⟩ = some (.slice A5 (prn a (ms.take k)).length c5) := cell_of_row w5 _ 0 _ _ (0, 0) hr5
          have f0 : w5.frozen? ⟨g5, 0, none⟩ = false := frozen_of_row w5 _ 0 _ _ hr5
          clear ho5 hg5' ht5 hr5 ap q0 p0 p1 p2 j0 j1
          go_wp2
          go_roundw
          case rel => exact ⟨k + 1, _, by omega, by go_num, HR6, HO6, HB6.out⟩
          case measure => simp [intOf]; omega
    · have hkn : k = n1 := by omega
      have HO1 : Hid (OwnD 55 wr W.heap.size mv1 (prn a ms)) := Lib.hid (by have := HO.out; rw [hkn, hn1.out, List.take_length] at this; exact this)
      obtain ⟨A7, c7, hv7⟩ := ownD_slice HO1.out
      subst hv7
      obtain ⟨m7, hm7⟩ : ∃ m7, Hid (m7 = (prn a ms).length) := ⟨_, Lib.hid rfl⟩
      rw [← hm7.out] at HG HO1
      obtain ⟨k0, k1⟩ := HC.out.below hb (show w.heap.size < g5 by omega)
      clear hb hkn HO
      go_wp2
      clear hlt k0 k1
      obtain ⟨wa, hwa⟩ : ∃ wa : World, wa = wr := ⟨_, rfl⟩
      subst hwa
      go_loopw [39] (fun i wr => ∃ (k : Nat) (dv1 : Value), k ≤ n ∧ i = .int .i64 k ∧ Hid (wr.heap[g5]? = some (.cells #[.slice A7 m7 c7, dv1] 48 (0, 0))) ∧ Hid (OwnD 55 wr W.heap.size (.slice A7 m7 c7) (prn a ms)) ∧ Hid (OwnD 44 wr W.heap.size dv1 (prn a (ds.take k))) ∧ Hid (∀ g, _root_.Go.Value.ownBlock (.slice A7 m7 c7) = some g → _root_.Go.Value.ownBlock dv1 ≠ some g) ∧ Below g5 W wr) (fun i _ => n - (intOf i).toNat)
      case atStart => exact ⟨0, .slice none 0 0, Nat.zero_le _, rfl, HG, HO1, Lib.hid (by simpa [prn] using ownD_nil _ _ _), Lib.hid (fun g _ e => by cases e), HB.out⟩
      case round =>
        obtain ⟨k2, dv1, hk2, rfl, HG, HM7, HO, HAP, hb⟩ := hrel
        have HBB2 := Lib.hid hb
        have hbs2 := hb.size
        by_cases hlt2 : k2 < n
        · obtain ⟨x, hd⟩ : ∃ x, ds[k2]? = some x := ⟨ds[k2]'(by have := hn.out; omega), List.getElem?_eq_getElem _⟩
          obtain ⟨ad, rfl, hadlt, hda⟩ := HX.out k2 x hd
          obtain ⟨d0, d1, d2⟩ := hda.below hb (show (ad.add (k2 * 3)).block < g5 by rw [add_block]; omega)
          have HD := Lib.hid hd
          obtain ⟨W1, hW1⟩ : ∃ W1, Hid (W1 = wr.alloc (.cells #[.int .i64 x.1, .int .i64 x.2.1, .int .i64 x.2.2] 44)) := ⟨_, Lib.hid rfl⟩
          have hbA : Below wr.heap.size wr W1 := by rw [hW1.out]; exact (Below.refl _ _).alloc (Nat.le_refl _) _
          have hzW1 : wr.heap.size < W1.heap.size := by rw [hW1.out]; simp
          have k0 : BoxD W1 wr.heap.size x := by
            have := boxD wr 44 x
            rw [← hW1.out] at this
            exact this
          have hb1 := hb.trans (hbA.mono (show g5 ≤ wr.heap.size by omega))
          have ha1 := HA.out.below hb1 (show w.heap.size + 1 < g5 by omega)
          have e0 := k0.1
          have e1 := k0.2.1
          have e2 := k0.2.2
          have j0 := ha1.1
          have j1 := ha1.2
          have hWe1 := hW1.out.symm
          have HBO := Lib.hid hb1
          have HBA := Lib.hid hbA
          have HK := Lib.hid k0
          clear hd hda hb hbA k0 ha1 hb1
          by_cases heq : actOf x = a
          · have q1 : (x.1 != a.1) = false := by rw [← heq]; simp [actOf]
            have q2 : (x.2.1 != a.2) = false := by rw [← heq]; simp [actOf]
            have HPX : Hid (prn a (ds.take (k2 + 1)) = prn a (ds.take k2)) := Lib.hid (by rw [prn_take HD.out, if_pos heq, List.append_nil])
            clear heq
            go_upto_region 11 with fail
            clear hWe1
            have HB2 : Hid (Below g5 W W1) := HBO
            have HBW : Hid (Below wr.heap.size wr W1) := HBA
            have HG2 := Lib.hid ((HBW.out.block g5 (by omega)).trans HG.out)
            have HM8 := Lib.hid (HM7.out.below HBW.out)
            have HO2 : Hid (OwnD 44 W1 W.heap.size dv1 (prn a (ds.take (k2 + 1)))) := Lib.hid (by rw [HPX.out]; exact HO.out.below HBW.out)
            go_wp2
            go_roundw
            case rel => exact ⟨k2 + 1, dv1, by omega, by go_num, HG2, HM8, HO2, HAP, HB2.out⟩
            case measure => simp [intOf]; omega
          · have HNE := Lib.hid heq
            have qq : (x.1 != a.1) = true ∨ (x.1 != a.1) = false ∧ (x.2.1 != a.2) = true := by
              by_cases h1 : x.1 = a.1
              · exact .inr ⟨by simpa using h1, by have : ¬ x.2.1 = a.2 := fun h2 => heq (Prod.ext h1 h2); simpa using this⟩
              · exact .inl (by simpa using h1)
            clear heq
            rcases qq with q1 | ⟨q1, q2⟩
            · skip
              go_upto_region 11 with fail
              clear hWe1
              have HB2 : Hid (Below g5 W W1) := HBO
              have HBW : Hid (Below wr.heap.size wr W1) := HBA
              have HK2 := HK.out
              obtain ⟨p0, p1, p2⟩ := HK2
              have hr2 := (HBW.out.block g5 (by omega)).trans HG.out
              have HR2 := Lib.hid hr2
              have q0 : W1.cell? ⟨g5, 1, none⟩ = some dv1 := cell_of_row W1 _ 1 _ _ (0, 0) hr2
              have hz2 := HB2.out.size
              have HO2 := Lib.hid (HO.out.below HBW.out)
              have HM8 := Lib.hid (HM7.out.below HBW.out)
              have hol : (prn a (ds.take k2)).length ≤ 1099511627776 := by
                have h1 := prn_len a (ds.take k2)
                have h2 := List.length_take_le k2 ds
                omega
              have HROW := Lib.hid (World.ownsRow.lt HO2.out)
              have HROWM := Lib.hid (World.ownsRow.lt HM8.out)
              obtain ⟨A5, c5, hv5⟩ := ownD_slice HO2.out
              subst hv5
              clear hr2 e0 e1 e2
              go_wp2_with (at_builtin; go_must (refine wpList_append_dot (v := .slice A5 (prn a (ds.take k2)).length c5) Try.underlying42 infoDot _ rfl (.tmp 56) (.tmp 58) rfl x (by rfl) (by rfl) HO2.out hol hz2 ?_))
              intro v5 w5 ho5 hg5' ht5
              have hr5 := (hg5'.block g5 (by omega) (fun e => by have := (HROW.out g5 e.symm).1; omega)).trans HR2.out
              have HB5 : Hid (Below g5 W w5) := Lib.hid (HB2.out.grown hg5' (by omega) (fun g e => by have := (HROW.out g e).1; omega))
              have hm9 : OwnD 55 w5 W.heap.size (.slice A7 m7 c7) (prn a ms) := ownD_of_block HM8.out fun g e => hg5'.block g (by have := (HROWM.out g e).2; omega) (fun e' => HAP.out g e e'.symm)
              obtain ⟨A6, c6, hv6⟩ := ownD_slice ho5
              obtain ⟨N6, hN6⟩ : ∃ N6, Hid (N6 = (prn a (ds.take k2) ++ [x]).length) := ⟨_, Lib.hid rfl⟩
              rw [← hN6.out] at hv6
              subst hv6
              have HAP5 : Hid (∀ g, _root_.Go.Value.ownBlock (.slice A7 m7 c7) = some g → _root_.Go.Value.ownBlock (.slice A6 N6 c6) ≠ some g) := Lib.hid (fun g e e' => by
                rcases ht5 with h | ⟨g', h1, h2⟩
                · exact HAP.out g e (h ▸ e')
                · have h3 := (HROWM.out g e).2
                  rw [h1] at e'
                  injection e' with e'
                  omega)
              have ap : Apart g5 (.slice A6 N6 c6) := fun g e => by have := (World.ownsRow.lt ho5 g e).1; omega
              have apm : Apart g5 (.slice A7 m7 c7) := fun g e => by have := (World.ownsRow.lt hm9 g e).1; omega
              have HO6 := Lib.hid ((ho5.appended HD.out HNE.out).setOther ap (i := 1) (.slice A6 N6 c6))
              have HM9 := Lib.hid (hm9.setOther apm (i := 1) (.slice A6 N6 c6))
              have HR6 : Hid ((w5.setCell ⟨g5, 1, none⟩ (.slice A6 N6 c6)).heap[g5]? = some (.cells #[.slice A7 m7 c7, .slice A6 N6 c6] 48 (0, 0))) := Lib.hid (Joins.block_setCell hr5 (i := 1) (.slice A6 N6 c6))
              have HB6 : Hid (Below g5 W (w5.setCell ⟨g5, 1, none⟩ (.slice A6 N6 c6))) := Lib.hid (HB5.out.setCell (Nat.le_refl _) _)
              have s0 : w5.cell? ⟨g5, 1, none⟩ = some (.slice A5 (prn a (ds.take k2)).length c5) := cell_of_row w5 _ 1 _ _ (0, 0) hr5
              have f0 : w5.frozen? ⟨g5, 1, none⟩ = false := frozen_of_row w5 _ 1 _ _ hr5
              clear ho5 hm9 hg5' ht5 hr5 ap apm q0 p0 p1 p2 j0 j1
              go_wp2
              go_roundw
              case rel => exact ⟨k2 + 1, _, by omega, by go_num, HR6, HM9, HO6, HAP5, HB6.out⟩
              case measure => simp [intOf]; omega
            · skip
              go_upto_region 11 with fail
              clear hWe1
              have HB2 : Hid (Below g5 W W1) := HBO
              have HBW : Hid (Below wr.heap.size wr W1) := HBA
              have HK2 := HK.out
              obtain ⟨p0, p1, p2⟩ := HK2
              have hr2 := (HBW.out.block g5 (by omega)).trans HG.out
              have HR2 := Lib.hid hr2
              have q0 : W1.cell? ⟨g5, 1, none⟩ = some dv1 := cell_of_row W1 _ 1 _ _ (0, 0) hr2
              have hz2 := HB2.out.size
              have HO2 := Lib.hid (HO.out.below HBW.out)
              have HM8 := Lib.hid (HM7.out.below HBW.out)
              have hol : (prn a (ds.take k2)).length ≤ 1099511627776 := by
                have h1 := prn_len a (ds.take k2)
                have h2 := List.length_take_le k2 ds
                omega
              have HROW := Lib.hid (World.ownsRow.lt HO2.out)
              have HROWM := Lib.hid (World.ownsRow.lt HM8.out)
              obtain ⟨A5, c5, hv5⟩ := ownD_slice HO2.out
              subst hv5
              clear hr2 e0 e1 e2
              go_wp2_with (at_builtin; go_must (refine wpList_append_dot (v := .slice A5 (prn a (ds.take k2)).length c5) Try.underlying42 infoDot _ rfl (.tmp 56) (.tmp 58) rfl x (by rfl) (by rfl) HO2.out hol hz2 ?_))
              intro v5 w5 ho5 hg5' ht5
              have hr5 := (hg5'.block g5 (by omega) (fun e => by have := (HROW.out g5 e.symm).1; omega)).trans HR2.out
              have HB5 : Hid (Below g5 W w5) := Lib.hid (HB2.out.grown hg5' (by omega) (fun g e => by have := (HROW.out g e).1; omega))
              have hm9 : OwnD 55 w5 W.heap.size (.slice A7 m7 c7) (prn a ms) := ownD_of_block HM8.out fun g e => hg5'.block g (by have := (HROWM.out g e).2; omega) (fun e' => HAP.out g e e'.symm)
              obtain ⟨A6, c6, hv6⟩ := ownD_slice ho5
              obtain ⟨N6, hN6⟩ : ∃ N6, Hid (N6 = (prn a (ds.take k2) ++ [x]).length) := ⟨_, Lib.hid rfl⟩
              rw [← hN6.out] at hv6
              subst hv6
              have HAP5 : Hid (∀ g, _root_.Go.Value.ownBlock (.slice A7 m7 c7) = some g → _root_.Go.Value.ownBlock (.slice A6 N6 c6) ≠ some g) := Lib.hid (fun g e e' => by
                rcases ht5 with h | ⟨g', h1, h2⟩
                · exact HAP.out g e (h ▸ e')
                · have h3 := (HROWM.out g e).2
                  rw [h1] at e'
                  injection e' with e'
                  omega)
              have ap : Apart g5 (.slice A6 N6 c6) := fun g e => by have := (World.ownsRow.lt ho5 g e).1; omega
              have apm : Apart g5 (.slice A7 m7 c7) := fun g e => by have := (World.ownsRow.lt hm9 g e).1; omega
              have HO6 := Lib.hid ((ho5.appended HD.out HNE.out).setOther ap (i := 1) (.slice A6 N6 c6))
              have HM9 := Lib.hid (hm9.setOther apm (i := 1) (.slice A6 N6 c6))
              have HR6 : Hid ((w5.setCell ⟨g5, 1, none⟩ (.slice A6 N6 c6)).heap[g5]? = some (.cells #[.slice A7 m7 c7, .slice A6 N6 c6] 48 (0, 0))) := Lib.hid (Joins.block_setCell hr5 (i := 1) (.slice A6 N6 c6))
              have HB6 : Hid (Below g5 W (w5.setCell ⟨g5, 1, none⟩ (.slice A6 N6 c6))) := Lib.hid (HB5.out.setCell (Nat.le_refl _) _)
              have s0 : w5.cell? ⟨g5, 1, none⟩ = some (.slice A5 (prn a (ds.take k2)).length c5) := cell_of_row w5 _ 1 _ _ (0, 0) hr5
              have f0 : w5.frozen? ⟨g5, 1, none⟩ = false := frozen_of_row w5 _ 1 _ _ hr5
              clear ho5 hm9 hg5' ht5 hr5 ap apm q0 p0 p1 p2 j0 j1
              go_wp2
              go_roundw
              case rel => exact ⟨k2 + 1, _, by omega, by go_num, HR6, HM9, HO6, HAP5, HB6.out⟩
              case measure => simp [intOf]; omega
        · have hkn : k2 = n := by omega
          have HO2 : Hid (OwnD 44 wr W.heap.size dv1 (prn a ds)) := Lib.hid (by have := HO.out; rw [hkn, hn.out, List.take_length] at this; exact this)
          obtain ⟨A8, c8, hv8⟩ := ownD_slice HO2.out
          subst hv8
          obtain ⟨m8, hm8⟩ : ∃ m8, Hid (m8 = (prn a ds).length) := ⟨_, Lib.hid rfl⟩
          rw [← hm8.out] at HG HO2
          have k0 : wr.cell? ⟨g5, 0, none⟩ = some (.slice A7 m7 c7) := cell_of_row wr _ 0 _ _ (0, 0) HG.out
          have k1 : wr.cell? ⟨g5, 1, none⟩ = some (.slice A8 m8 c8) := cell_of_row wr _ 1 _ _ (0, 0) HG.out
          have r4 := (hb.block g4 (by omega)).trans HR4.out
          have q0 : wr.cell? ⟨g4, 0, none⟩ = some (.slice none 0 0) := cell_of_row wr _ 0 _ _ (0, 0) r4
          have q1 : wr.cell? ⟨g4, 1, none⟩ = some (.slice none 0 0) := cell_of_row wr _ 1 _ _ (0, 0) r4
          have f0 : wr.frozen? ⟨g4, 0, none⟩ = false := frozen_of_row wr _ 0 _ _ r4
          have f1 : wr.frozen? ⟨g4, 1, none⟩ = false := frozen_of_row wr _ 1 _ _ r4
          have HR9 := Lib.hid (Joins.block_setCell (Joins.block_setCell r4 (i := 0) (.slice A7 m7 c7)) (i := 1) (.slice A8 m8 c8))
          clear hb hkn HO r4
          go_wp2
          have p0 := cell_of_row _ _ 0 _ _ (0, 0) HR9.out
          have p1 := cell_of_row _ _ 1 _ _ (0, 0) HR9.out
          have ap2 : Apart g4 (.slice A7 m7 c7) := fun g e => by have := (World.ownsRow.lt HM7.out g e).1; omega
          have ap3 : Apart g4 (.slice A8 m8 c8) := fun g e => by have := (World.ownsRow.lt HO2.out g e).1; omega
          refine bodyPost_ret (v := .agg #[.slice A7 m7 c7, .slice A8 m8 c8]) (by simp [results, Try.results27, go_sem, p0, p1]) rfl ⟨_, _, rfl, ?_, ?_, ?_⟩
          · exact ((HM7.out.setOther ap2 _).setOther ap2 _).base_le hsW
          · exact ((HO2.out.setOther ap3 _).setOther ap3 _).base_le hsW
          · exact ((HB0.out.trans (HBB2.out.mono (show w.heap.size ≤ g5 by omega))).setCell (show w.heap.size ≤ g4 by omega) _).setCell (show w.heap.size ≤ g4 by omega) _

end Go.Proofs.Ytfplblhmeohhmaa
