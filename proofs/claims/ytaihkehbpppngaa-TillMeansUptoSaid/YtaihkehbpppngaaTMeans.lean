/- Means, and how far numbers lie from them. -/
import Derived.Test.YtaihkehbpppngaaTWords
import Derived.Laws.Entries
namespace Go.Proofs.Ytaihkehbpppngaa
open Go.RowKit

theorem fop_cnl (op : BinOp) (x y : Nat) : fop op (cn x) y = fop op x y := by
  rw [← fop_cn op (cn x) y, cn_cn, fop_cn]
/-- The sum of words, the mean of them. -/
def sumV (xs : List Nat) : Nat := xs.foldl (fun t x => fop .add t x) 0
def meanV (xs : List Nat) : Nat := fop .quo (sumV xs) (floatOfInt .f64 (xs.length : Int))
theorem sumV_take {xs : List Nat} {k x : Nat} (h : xs[k]? = some x) : sumV (xs.take (k + 1)) = fop .add (sumV (xs.take k)) x := by
  unfold sumV
  rw [List.take_add_one, h, List.foldl_append]
  rfl
/-- Lists of words that are alike but for the NaN's bits have one sum. -/
theorem sumV_cn {xs ys : List Nat} (hl : xs.length = ys.length) (h : ∀ (j x y : Nat), xs[j]? = some x → ys[j]? = some y → cn x = cn y) : sumV xs = sumV ys := by
  have key : ∀ (xs ys : List Nat) (t : Nat), xs.length = ys.length → (∀ (j x y : Nat), xs[j]? = some x → ys[j]? = some y → cn x = cn y) → xs.foldl (fun t x => fop .add t x) t = ys.foldl (fun t x => fop .add t x) t := by
    intro xs
    induction xs with
    | nil => intro ys t hl _; cases ys with | nil => rfl | cons y r => simp at hl
    | cons x r ih =>
      intro ys t hl h
      cases ys with
      | nil => simp at hl
      | cons y s =>
        have e : fop .add t x = fop .add t y := by rw [← fop_cnr .add t x, ← fop_cnr .add t y, h 0 x y rfl rfl]
        show r.foldl _ (fop .add t x) = s.foldl _ (fop .add t y)
        rw [e]
        exact ih s _ (by simpa using hl) fun j a b ha hb => h (j + 1) a b (by simpa using ha) (by simpa using hb)
  exact key xs ys 0 hl h

set_option maxRecDepth 100000 in
set_option maxHeartbeats 1600000 in
/-- The program's mean, of floats. -/
theorem mean_any (v : Value) (xs : List Nat) (w : World) (h : RdW fV w v xs) (hl : xs.length ≤ 1099511627776) :
    Calls Try.prog 39 #[v] w fun e w' => ∃ r, e = .returned (.float .f64 r) ∧ cn r = meanV xs ∧ Below w.heap.size w w' := by
  obtain ⟨A, c, rfl, hc, hx⟩ := h
  obtain ⟨n, hn⟩ : ∃ n, Hid (n = xs.length) := ⟨_, Lib.hid rfl⟩
  rw [← hn.out] at hl hc ⊢
  have HX := Lib.hid hx
  clear hx
  go_enter Try.func39, Try.ntmps39
  go_wp2
  go_loopw [8, 3] (fun i x wr => ∃ (k : Nat) (r : Nat), k ≤ n ∧ i = .int .i64 k ∧ x = .float .f64 r ∧ Hid (cn r = sumV (xs.take k)) ∧ Below w.heap.size w wr) (fun i _ _ => n - (intOf i).toNat)
  case atStart => exact ⟨0, 0, Nat.zero_le _, rfl, rfl, Lib.hid rfl, Below.refl _ _⟩
  case round =>
    obtain ⟨k, r, hk, rfl, rfl, HR, hb⟩ := hrel
    by_cases hlt : k < n
    · obtain ⟨d, hd⟩ : ∃ d, xs[k]? = some d := ⟨xs[k]'(by have := hn.out; omega), List.getElem?_eq_getElem _⟩
      obtain ⟨ad, rfl, ha, d0⟩ := HX.out.below hb (Nat.le_refl _) k d hd
      have d0' : wr.cell? (ad.add k) = some (.float .f64 d) := d0
      have HD := Lib.hid hd
      have HB := Lib.hid hb
      clear hd hb d0
      go_wp2_with (refine wpList_fop _ rfl .add (.inl rfl) _ _ _ _ rfl (by rfl) (by rfl) ?_)
      intro r2 w2 h2 l2 hw2
      have HB2 : Hid (Below w.heap.size w w2) := Lib.hid (below_or HB.out hw2)
      have HN : Hid (cn r2 = sumV (xs.take (k + 1))) := Lib.hid (by rw [h2, sumV_take HD.out, ← fop_cn, HR.out, fop_cnr])
      clear h2 l2 hw2
      go_wp2
      go_roundw
      case rel => exact ⟨k + 1, r2, by omega, by go_num, rfl, HN, HB2.out⟩
      case measure => simp [intOf]; omega
    · obtain rfl : k = n := by omega
      have HF : Hid (cn r = sumV xs) := Lib.hid (by rw [HR.out, hn.out, List.take_length])
      have HB := Lib.hid hb
      have HM : Hid (fop .quo r (floatOfInt .f64 (k : Int)) = meanV xs) := Lib.hid (by unfold meanV; rw [← HF.out, hn.out, fop_cnl])
      clear hn HR hb
      go_wp2_with (refine wpList_fop _ rfl .quo (.inr (.inr (.inr rfl))) _ _ _ _ rfl (by rfl) (by rfl) ?_)
      intro r2 w2 h2 l2 hw2
      have HB2 : Hid (Below w.heap.size w w2) := Lib.hid (below_or HB.out hw2)
      have HN : Hid (cn r2 = meanV xs) := Lib.hid (h2.trans HM.out)
      clear h2 l2 hw2
      go_wp2
      go_ret
      exact ⟨r2, rfl, HN.out, HB2.out⟩

set_option maxRecDepth 100000 in
set_option maxHeartbeats 1600000 in
/-- The document's mean, of words. -/
theorem refMean_any (v : Value) (xs : List Nat) (w : World) (h : RdW uV w v xs) (hl : xs.length ≤ 1099511627776) :
    Calls Try.prog 41 #[v] w fun e w' => ∃ r, e = .returned (.float .f64 r) ∧ cn r = meanV xs ∧ Below w.heap.size w w' := by
  obtain ⟨A, c, rfl, hc, hx⟩ := h
  obtain ⟨n, hn⟩ : ∃ n, Hid (n = xs.length) := ⟨_, Lib.hid rfl⟩
  rw [← hn.out] at hl hc ⊢
  have HX := Lib.hid hx
  have HFl := fun a w' => Lib.hid (float_any a w')
  clear hx
  go_enter Try.func41, Try.ntmps41
  go_wp2
  go_loopw [8, 3] (fun i x wr => ∃ (k : Nat) (r : Nat), k ≤ n ∧ i = .int .i64 k ∧ x = .float .f64 r ∧ Hid (cn r = sumV (xs.take k)) ∧ Below w.heap.size w wr) (fun i _ _ => n - (intOf i).toNat)
  case atStart => exact ⟨0, 0, Nat.zero_le _, rfl, rfl, Lib.hid rfl, Below.refl _ _⟩
  case round =>
    obtain ⟨k, r, hk, rfl, rfl, HR, hb⟩ := hrel
    by_cases hlt : k < n
    · obtain ⟨d, hd⟩ : ∃ d, xs[k]? = some d := ⟨xs[k]'(by have := hn.out; omega), List.getElem?_eq_getElem _⟩
      obtain ⟨ad, rfl, ha, d0⟩ := HX.out.below hb (Nat.le_refl _) k d hd
      have d0' : wr.cell? (ad.add k) = some (.int .u64 (d : Int)) := d0
      have HD := Lib.hid hd
      have HB := Lib.hid hb
      clear hd hb d0
      go_wp2_with (first
        | (go_at_call 36
           (with_reducible refine (HFl _ _).out.mono ?_); rintro e w1 ⟨rfl, rfl⟩)
        | (refine wpList_fop _ rfl .add (.inl rfl) _ _ _ _ rfl (by rfl) (by rfl) ?_))
      intro r2 w2 h2 l2 hw2
      have HB2 : Hid (Below w.heap.size w w2) := Lib.hid (below_or HB.out hw2)
      have HN : Hid (cn r2 = sumV (xs.take (k + 1))) := Lib.hid (by rw [h2, sumV_take HD.out, ← fop_cn, HR.out, fop_cnr])
      clear h2 l2 hw2
      go_wp2
      go_roundw
      case rel => exact ⟨k + 1, r2, by omega, by go_num, rfl, HN, HB2.out⟩
      case measure => simp [intOf]; omega
    · obtain rfl : k = n := by omega
      have HF : Hid (cn r = sumV xs) := Lib.hid (by rw [HR.out, hn.out, List.take_length])
      have HB := Lib.hid hb
      have HM : Hid (fop .quo r (floatOfInt .f64 (k : Int)) = meanV xs) := Lib.hid (by unfold meanV; rw [← HF.out, hn.out, fop_cnl])
      clear hn HR hb
      go_wp2_with (refine wpList_fop _ rfl .quo (.inr (.inr (.inr rfl))) _ _ _ _ rfl (by rfl) (by rfl) ?_)
      intro r2 w2 h2 l2 hw2
      have HB2 : Hid (Below w.heap.size w w2) := Lib.hid (below_or HB.out hw2)
      have HN : Hid (cn r2 = meanV xs) := Lib.hid (h2.trans HM.out)
      clear h2 l2 hw2
      go_wp2
      go_ret
      exact ⟨r2, rfl, HN.out, HB2.out⟩
end Go.Proofs.Ytaihkehbpppngaa
