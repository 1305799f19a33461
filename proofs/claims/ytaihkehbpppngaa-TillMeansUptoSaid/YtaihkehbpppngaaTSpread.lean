/- Spread. -/
import Derived.Test.YtaihkehbpppngaaTFloats
namespace Go.Proofs.Ytaihkehbpppngaa
open Go.RowKit

theorem run_store_f (W : World) (a : Addr) (b : Nat) (u : Value) (hc : W.cell? a = some u) (hf : W.frozen? a = false) : (store a (.float .f64 b) .plain).run Try.prog W = .ok () (W.setCell a (.float .f64 b)) := by
  rw [run_store Try.prog W a _ .plain rfl]
  simp [go_sem, hc, hf]

/-- How far a word lies from another one, squared. -/
def sq (m x : Nat) : Nat := fop .mul (fop .sub x m) (fop .sub x m)
def spreadV (xs : List Nat) : Nat := meanV (xs.map (sq (meanV xs)))
/-- The first k words are done. -/
structure Sq (m : Nat) (xs : List Nat) (k : Nat) (L : List Nat) : Prop where
  len : L.length = xs.length
  done : ∀ (j x y : Nat), j < k → xs[j]? = some x → L[j]? = some y → cn y = sq m x
  rest : ∀ j, k ≤ j → L[j]? = xs[j]?
theorem Sq.begin (m : Nat) (xs : List Nat) : Sq m xs 0 xs := ⟨rfl, fun _ _ _ h => absurd h (by omega), fun _ _ => rfl⟩
theorem Sq.next {m : Nat} {xs L : List Nat} {k x y : Nat} (h : Sq m xs k L) (hx : xs[k]? = some x) (hy : cn y = sq m x) : Sq m xs (k + 1) (L.set k y) := by
  refine ⟨by rw [List.length_set]; exact h.len, fun j a b hj ha hb => ?_, fun j hj => ?_⟩
  · by_cases e : j = k
    · subst e
      have hk : j < L.length := by rw [h.len]; exact (List.getElem?_eq_some_iff.1 hx).1
      rw [List.getElem?_set_self hk] at hb
      rw [hx] at ha
      injection ha with ha
      injection hb with hb
      rw [← ha, ← hb]; exact hy
    · rw [List.getElem?_set_ne (fun e' => e e'.symm)] at hb
      exact h.done j a b (by omega) ha hb
  · rw [List.getElem?_set_ne (by omega)]
    exact h.rest j (by omega)
theorem Sq.mean {m : Nat} {xs L : List Nat} (h : Sq m xs xs.length L) : meanV L = meanV (xs.map (sq m)) := by
  unfold meanV
  rw [List.length_map, h.len, sumV_cn (xs := L) (ys := xs.map (sq m)) (by rw [List.length_map]; exact h.len)]
  intro j x y hx hy
  rw [List.getElem?_map] at hy
  obtain ⟨a, ha, rfl⟩ := Option.map_eq_some_iff.1 hy
  have hj : j < xs.length := (List.getElem?_eq_some_iff.1 ha).1
  rw [h.done j a x hj ha hx]
  exact (cn_fop _ _ _).symm

theorem OwnW.put {T : TypeId} {f : Nat → Value} {w : World} {base g n c : Nat} {xs : List Nat} (h : OwnW T f w base (.slice (some ⟨g, 0, none⟩) n c) xs) (k x : Nat) :
    OwnW T f (w.setCell ⟨g, k, none⟩ (f x)) base (.slice (some ⟨g, 0, none⟩) n c) (xs.set k x) ∧ w.grownBy (w.setCell ⟨g, k, none⟩ (f x)) (some g) := by
  have hn : n = xs.length := by
    obtain ⟨A, c', e⟩ := h.slice
    injection e
  subst hn
  have s1 := World.ownsRow.stored h k (f x)
  refine ⟨?_, s1.2⟩
  unfold OwnW
  rw [List.length_set, List.map_set]
  exact s1.1

set_option maxRecDepth 100000 in
set_option maxHeartbeats 3200000 in
theorem Spread_any (v : Value) (xs : List Nat) (w : World) (h : RdW uV w v xs) (hl : xs.length ≤ 1099511627776) :
    Calls Try.prog 23 #[v] w fun e w' => e = .returned (.int .u64 (spreadV xs)) ∧ Below w.heap.size w w' := by
  have H1 := Lib.hid (floatsOf_any v xs w h hl)
  have H2 := fun v' L w' (h' : RdW fV w' v' L) (hl' : L.length ≤ 1099511627776) => Lib.hid (mean_any v' L w' h' hl')
  have H3 := fun a w' => Lib.hid (bitsOf_any a w')
  have HL := Lib.hid hl
  obtain ⟨n, hn⟩ : ∃ n, Hid (n = xs.length) := ⟨_, Lib.hid rfl⟩
  rw [← hn.out] at H1
  have hln : n ≤ 1099511627776 := by rw [hn.out]; exact hl
  clear h hl
  go_enter Try.func23, Try.ntmps23
  go_wp2_with (first
    | (go_at_call 40
       (with_reducible refine H1.out.mono ?_); rintro e w1 ⟨A1, c1, rfl, ho1, hb1⟩
       have HO1 := Lib.hid ho1
       have HB1 := Lib.hid hb1
       have HR1 := Lib.hid ho1.rd
       clear ho1 hb1)
    | (go_at_call 39
       (with_reducible refine (H2 _ _ _ HR1.out HL.out).out.mono ?_); rintro e w2 ⟨m, rfl, hm, hb2⟩
       have HM := Lib.hid hm
       have HO2 := Lib.hid (HO1.out.below hb2)
       have HB2 : Hid (Below w.heap.size w w2) := Lib.hid (HB1.out.trans (hb2.mono HB1.out.size))
       clear hm hb2))
  go_loopw [13] (fun i wr => ∃ (k : Nat) (L : List Nat), k ≤ n ∧ i = .int .i64 k ∧ Hid (Sq (meanV xs) xs k L) ∧ Hid (OwnW 42 fV wr w.heap.size (.slice A1 n c1) L) ∧ Hid (Below w.heap.size w wr)) (fun i _ => n - (intOf i).toNat)
  case atStart => exact ⟨0, xs, Nat.zero_le _, rfl, Lib.hid (Sq.begin _ _), HO2, HB2⟩
  case round =>
    obtain ⟨k, L, hk, rfl, HS, HO, HB⟩ := hrel
    by_cases hlt : k < n
    · obtain ⟨d, hd⟩ : ∃ d, xs[k]? = some d := ⟨xs[k]'(by have := hn.out; omega), List.getElem?_eq_getElem _⟩
      have hLd : L[k]? = some d := by rw [HS.out.rest k (Nat.le_refl _)]; exact hd
      have HD := Lib.hid hd
      have HOk := HO.out
      rcases hOk : HOk.2 with ⟨hx, h0⟩ | ⟨g, cap, cur, hx, hgb, hgr, hrest⟩
      · exact absurd hlt (by have := HS.out.len; have := hn.out; omega)
      · have hA : A1 = some ⟨g, 0, none⟩ := by injection hx
        subst hA
        have hcell : wr.cell? ⟨g, k, none⟩ = some (.float .f64 d) := by
          have := World.ownsRow.cells HOk (g := g) rfl k (fV d) (by rw [List.getElem?_map, hLd]; rfl)
          rw [show (⟨g, 0, none⟩ : Addr).add k = ⟨g, k, none⟩ by unfold Addr.add; split <;> simp_all] at this
          exact this
        have hfro : wr.frozen? ⟨g, k, none⟩ = false := frozen_of_row wr g k _ _ hgr
        have hgl : g < wr.heap.size := (World.ownsRow.lt HOk g rfl).2
        have HGB : Hid (w.heap.size ≤ g) := Lib.hid hgb
        clear hd hLd hx hgb hgr hrest hOk HOk
        go_wp2_with (refine wpList_fop _ rfl .sub (.inr (.inl rfl)) _ _ _ _ rfl (by rfl) (by rfl) ?_)
        intro r1 v1 h1 l1 hw1
        go_wp2_with (refine wpList_fop _ rfl .sub (.inr (.inl rfl)) _ _ _ _ rfl (by rfl) (by rfl) ?_)
        intro r2 v2 h2 l2 hw2
        go_wp2_with (refine wpList_fop _ rfl .mul (.inr (.inr (.inl rfl))) _ _ _ _ rfl (by rfl) (by rfl) ?_)
        intro r3 v3 h3 l3 hw3
        have hq : Hid (cn r3 = sq (meanV xs) d) := Lib.hid (by
          unfold sq
          rw [h3, ← fop_cn, h1, h2, ← HM.out, fop_cnr])
        have hB3 : Below wr.heap.size wr v3 := below_or (below_or (below_or (Below.refl _ _) hw1) hw2) hw3
        have hc3 : v3.cell? ⟨g, k, none⟩ = some (.float .f64 d) := (hB3.cell (p := ⟨g, k, none⟩) hgl).trans hcell
        have hf3 : v3.frozen? ⟨g, k, none⟩ = false := (hB3.frozen (p := ⟨g, k, none⟩) hgl).trans hfro
        have hST := run_store_f v3 ⟨g, k, none⟩ r3 _ hc3 hf3
        have HP := (HO.out.below hB3).put k r3
        have HO3 : Hid (OwnW 42 fV (v3.setCell ⟨g, k, none⟩ (.float .f64 r3)) w.heap.size (.slice (some ⟨g, 0, none⟩) n c1) (L.set k r3)) := Lib.hid HP.1
        have HS3 : Hid (Sq (meanV xs) xs (k + 1) (L.set k r3)) := Lib.hid (HS.out.next HD.out hq.out)
        have HB3 : Hid (Below w.heap.size w (v3.setCell ⟨g, k, none⟩ (.float .f64 r3))) := Lib.hid ((HB.out.trans (hB3.mono HB.out.size)).setCell HGB.out _)
        clear h1 l1 hw1 h2 l2 hw2 h3 l3 hw3 hq hB3 HP hcell hfro hgl
        go_wp2
        go_roundw
        case rel => exact ⟨k + 1, L.set k r3, by omega, by go_num, HS3, HO3, HB3⟩
        case measure => simp [intOf]; omega
    · obtain rfl : k = n := by omega
      have HRD : Hid (RdW fV wr (.slice A1 k c1) L) := Lib.hid HO.out.rd
      have hLL : L.length ≤ 1099511627776 := by rw [HS.out.len]; exact HL.out
      have hMM : meanV L = spreadV xs := by
        have := HS.out
        rw [hn.out] at this
        exact this.mean
      have HMM := Lib.hid hMM
      have HLL := Lib.hid hLL
      clear hn hMM hLL
      go_wp2_with (first
        | (go_at_call 39
           (with_reducible refine (H2 _ _ _ HRD.out HLL.out).out.mono ?_); rintro e w5 ⟨r, rfl, hr, hb5⟩
           have HR := Lib.hid (hr.trans HMM.out)
           clear hr)
        | (go_at_call 31
           (with_reducible refine (H3 _ _).out.mono ?_); rintro e w6 ⟨rfl, rfl⟩))
      go_ret
      exact ⟨by rw [← HR.out]; rfl, HB.out.trans (hb5.mono HB.out.size)⟩

set_option maxRecDepth 100000 in
set_option maxHeartbeats 3200000 in
theorem refSpread_any (v : Value) (xs : List Nat) (w : World) (h : RdW uV w v xs) (hl : xs.length ≤ 1099511627776) :
    Calls Try.prog 24 #[v] w fun e w' => e = .returned (.int .u64 (spreadV xs)) ∧ Below w.heap.size w w' := by
  have H1 := Lib.hid (refMean_any v xs w h hl)
  have HFl := fun a w' => Lib.hid (float_any a w')
  have H3 := fun a w' => Lib.hid (refBits_any a w')
  obtain ⟨A, c, rfl, hc, hx⟩ := h
  obtain ⟨n, hn⟩ : ∃ n, Hid (n = xs.length) := ⟨_, Lib.hid rfl⟩
  rw [← hn.out] at hl hc H1 ⊢
  have HX := Lib.hid hx
  clear hx
  go_enter Try.func24, Try.ntmps24
  go_wp2_with ((go_at_call 41); (with_reducible refine H1.out.mono ?_); rintro e w1 ⟨m, rfl, hm, hb1⟩)
  have HM := Lib.hid hm
  have HB1 := Lib.hid hb1
  clear hm hb1
  go_loopw [12, 4] (fun i x wr => ∃ (k : Nat) (r : Nat), k ≤ n ∧ i = .int .i64 k ∧ x = .float .f64 r ∧ Hid (cn r = sumV ((xs.map (sq (meanV xs))).take k)) ∧ Hid (Below w.heap.size w wr)) (fun i _ _ => n - (intOf i).toNat)
  case atStart => exact ⟨0, 0, Nat.zero_le _, rfl, rfl, Lib.hid rfl, HB1⟩
  case round =>
    obtain ⟨k, r, hk, rfl, rfl, HR, HB⟩ := hrel
    by_cases hlt : k < n
    · obtain ⟨d, hd⟩ : ∃ d, xs[k]? = some d := ⟨xs[k]'(by have := hn.out; omega), List.getElem?_eq_getElem _⟩
      obtain ⟨ad, rfl, ha, d0⟩ := HX.out.below HB.out (Nat.le_refl _) k d hd
      have d0' : wr.cell? (ad.add k) = some (.int .u64 (d : Int)) := d0
      have HD : Hid ((xs.map (sq (meanV xs)))[k]? = some (sq (meanV xs) d)) := Lib.hid (by rw [List.getElem?_map, hd]; rfl)
      clear hd d0
      go_wp2_with (first
        | (go_at_call 36
           (with_reducible refine (HFl _ _).out.mono ?_); rintro e w2 ⟨rfl, rfl⟩)
        | (refine wpList_fop _ rfl .sub (.inr (.inl rfl)) _ _ _ _ rfl (by rfl) (by rfl) ?_))
      intro r1 v1 h1 l1 hw1
      go_wp2_with (refine wpList_fop _ rfl .mul (.inr (.inr (.inl rfl))) _ _ _ _ rfl (by rfl) (by rfl) ?_)
      intro r2 v2 h2 l2 hw2
      go_wp2_with (refine wpList_fop _ rfl .add (.inl rfl) _ _ _ _ rfl (by rfl) (by rfl) ?_)
      intro r3 v3 h3 l3 hw3
      have HB2 : Hid (Below w.heap.size w v3) := Lib.hid (below_or (below_or (below_or HB.out hw1) hw2) hw3)
      have HN : Hid (cn r3 = sumV ((xs.map (sq (meanV xs))).take (k + 1))) := Lib.hid (by
        have e1 : cn r1 = fop .sub d (meanV xs) := by rw [h1, ← HM.out, fop_cnr]
        have e2 : cn r2 = sq (meanV xs) d := by unfold sq; rw [h2, ← fop_cn, e1]
        rw [h3, sumV_take HD.out, ← fop_cn, HR.out, e2])
      clear h1 l1 hw1 h2 l2 hw2 h3 l3 hw3
      go_wp2
      go_roundw
      case rel => exact ⟨k + 1, r3, by omega, by go_num, rfl, HN, HB2⟩
      case measure => simp [intOf]; omega
    · obtain rfl : k = n := by omega
      have HF : Hid (cn r = sumV (xs.map (sq (meanV xs)))) := Lib.hid (by
        have e : (xs.map (sq (meanV xs))).take k = xs.map (sq (meanV xs)) := by rw [hn.out, ← List.length_map (sq (meanV xs)), List.take_length]
        rw [HR.out, e])
      have HM2 : Hid (fop .quo r (floatOfInt .f64 (k : Int)) = spreadV xs) := Lib.hid (by unfold spreadV meanV; rw [← fop_cnl, HF.out, hn.out, List.length_map]; rfl)
      clear hn HR
      go_wp2_with (refine wpList_fop _ rfl .quo (.inr (.inr (.inr rfl))) _ _ _ _ rfl (by rfl) (by rfl) ?_)
      intro r2 w2 h2 l2 hw2
      have HB2 : Hid (Below w.heap.size w w2) := Lib.hid (below_or HB.out hw2)
      have HN : Hid (cn r2 = spreadV xs) := Lib.hid (h2.trans HM2.out)
      clear h2 l2 hw2
      go_wp2_with ((go_at_call 34); (with_reducible refine (H3 _ _).out.mono ?_); rintro e w6 ⟨rfl, rfl⟩)
      go_ret
      exact ⟨by rw [← HN.out]; rfl, HB2.out⟩

set_option maxRecDepth 100000 in
set_option maxHeartbeats 1600000 in
/-- TillMeans. -/
theorem means_walk (v : Value) (xs : List Nat) (w : World) (h : RdW uV w v xs) (hl : xs.length ≤ 1099511627776) :
    Calls Try.prog 5 #[v] w fun e w' => e = .returned (.bool true) ∧ Below w.heap.size w w' := by
  have H0 := Lib.hid (cloneU_any v xs w h hl)
  have HV := fun w' (hb : Below w.heap.size w w') => Lib.hid (h.below hb)
  have H1 := fun v' w' (h' : RdW uV w' v' xs) => Lib.hid (Mean_any v' xs w' h' hl)
  have H2 := fun v' w' (h' : RdW uV w' v' xs) => Lib.hid (refMeanP_any v' xs w' h' hl)
  have H3 := fun v' w' (h' : RdW uV w' v' xs) => Lib.hid (Spread_any v' xs w' h' hl)
  have H4 := fun v' w' (h' : RdW uV w' v' xs) => Lib.hid (refSpread_any v' xs w' h' hl)
  have H5 := fun v' u' w' (h' : RdW uV w' v' xs) (h2 : RdW uV w' u' xs) => Lib.hid (equalU_same v' u' xs w' h' h2 hl)
  generalize meanV xs = mm at H1 H2
  generalize spreadV xs = ss at H3 H4
  obtain ⟨n, hn⟩ : ∃ n, Hid (n = xs.length) := ⟨_, Lib.hid rfl⟩
  rw [← hn.out] at H0
  clear h hl hn
  go_enter Try.func5, Try.ntmps5
  go_wp2_with (first
    | (go_at_call 20
       (with_reducible refine H0.out.mono ?_); rintro e w1 ⟨A1, c1, rfl, hr1, hb1⟩
       have HR1 := Lib.hid hr1
       have HB1 := Lib.hid hb1
       clear hr1 hb1)
    | (go_at_call 21
       (with_reducible refine (H1 _ _ HR1.out).out.mono ?_); rintro e w2 ⟨rfl, hb2⟩
       have HR2 := Lib.hid (HR1.out.below hb2)
       have HB2 : Hid (Below w.heap.size w w2) := Lib.hid (HB1.out.trans (hb2.mono HB1.out.size))
       clear hb2)
    | (go_at_call 22
       (with_reducible refine (H2 _ _ (HV _ HB2.out).out).out.mono ?_); rintro e w3 ⟨rfl, hb3⟩
       have HR3 := Lib.hid (HR2.out.below hb3)
       have HB3 : Hid (Below w.heap.size w w3) := Lib.hid (HB2.out.trans (hb3.mono HB2.out.size))
       clear hb3)
    | (go_at_call 23
       (with_reducible refine (H3 _ _ HR3.out).out.mono ?_); rintro e w4 ⟨rfl, hb4⟩
       have HR4 := Lib.hid (HR3.out.below hb4)
       have HB4 : Hid (Below w.heap.size w w4) := Lib.hid (HB3.out.trans (hb4.mono HB3.out.size))
       clear hb4)
    | (go_at_call 24
       (with_reducible refine (H4 _ _ (HV _ HB4.out).out).out.mono ?_); rintro e w5 ⟨rfl, hb5⟩
       have HR5 := Lib.hid (HR4.out.below hb5)
       have HB5 : Hid (Below w.heap.size w w5) := Lib.hid (HB4.out.trans (hb5.mono HB4.out.size))
       clear hb5)
    | (go_at_call 16
       (with_reducible refine (H5 _ _ _ HR5.out (HV _ HB5.out).out).out.mono ?_); rintro e w6 ⟨rfl, hb6⟩))
  go_ret
  exact ⟨rfl, HB5.out.trans (hb6.mono HB5.out.size)⟩
end Go.Proofs.Ytaihkehbpppngaa
