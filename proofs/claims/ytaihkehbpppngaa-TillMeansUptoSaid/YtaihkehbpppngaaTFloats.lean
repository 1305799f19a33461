/- How far numbers lie from their mean. -/
import Derived.Test.YtaihkehbpppngaaTMeans
namespace Go.Proofs.Ytaihkehbpppngaa
open Go.RowKit

set_option maxRecDepth 100000 in
set_option maxHeartbeats 1600000 in
theorem floatsOf_any (v : Value) (xs : List Nat) (w : World) (h : RdW uV w v xs) (hl : xs.length ≤ 1099511627776) :
    Calls Try.prog 40 #[v] w fun e w' => ∃ A c, e = .returned (.slice A xs.length c) ∧ OwnW 42 fV w' w.heap.size (.slice A xs.length c) xs ∧ Below w.heap.size w w' := by
  obtain ⟨A, c, rfl, hc, hx⟩ := h
  obtain ⟨n, hn⟩ : ∃ n, Hid (n = xs.length) := ⟨_, Lib.hid rfl⟩
  rw [← hn.out] at hl hc ⊢
  have HX := Lib.hid hx
  have HFl := fun a w' => Lib.hid (floatOf_any a w')
  clear hx
  go_enter Try.func40, Try.ntmps40
  go_wp2
  go_loopw [8, 3] (fun i x wr => ∃ (k : Nat) (vx : Value), k ≤ n ∧ vx = x ∧ i = .int .i64 k ∧ Hid (OwnW 42 fV wr w.heap.size vx (xs.take k)) ∧ Below w.heap.size w wr) (fun i _ _ => n - (intOf i).toNat)
  case atStart => exact ⟨0, _, Nat.zero_le _, rfl, rfl, Lib.hid (ownW_nil _ _ _ _), Below.refl _ _⟩
  case round =>
    obtain ⟨k, vx, hk, rfl, rfl, HO, hb⟩ := hrel
    by_cases hlt : k < n
    · obtain ⟨d, hd⟩ : ∃ d, xs[k]? = some d := ⟨xs[k]'(by have := hn.out; omega), List.getElem?_eq_getElem _⟩
      obtain ⟨ad, rfl, ha, d0⟩ := HX.out.below hb (Nat.le_refl _) k d hd
      have d0' : wr.cell? (ad.add k) = some (.int .u64 (d : Int)) := d0
      have HT : Hid (xs.take (k + 1) = xs.take k ++ [d]) := Lib.hid (by rw [List.take_add_one, hd]; rfl)
      have hbA : Below wr.heap.size wr (wr.alloc (.cells #[.float .f64 d] 42)) := (Below.refl _ _).alloc (Nat.le_refl _) _
      have HR1 : Hid (RdWA fV (wr.alloc (.cells #[.float .f64 d] 42)) (wr.heap.size + 1) (some ⟨wr.heap.size, 0, none⟩) [d]) := Lib.hid (fun j x hj => by
        match j, hj with
        | 0, hj =>
          have e : d = x := by simpa using hj
          subst e
          exact ⟨_, rfl, Nat.lt_succ_self _, box_cell _ _ _ 0⟩
        | j + 1, hj => simp at hj)
      have HOA := Lib.hid (HO.out.below hbA)
      have HBA : Hid (Below w.heap.size w (wr.alloc (.cells #[.float .f64 d] 42))) := Lib.hid (hb.trans (hbA.mono hb.size))
      have h63 : (xs.take k).length + [d].length ≤ 4398046511104 := by
        have h2 : (xs.take k).length ≤ k := by rw [List.length_take]; exact Nat.min_le_left _ _
        simp only [List.length_cons, List.length_nil]; omega
      have hzz := HBA.out.size
      obtain ⟨m5, hm5⟩ : ∃ m5, Hid (m5 = (xs.take k ++ [d]).length) := ⟨_, Lib.hid rfl⟩
      clear hd hb d0 hbA
      go_wp2_with (first
        | (go_at_call 27
           (with_reducible refine (HFl _ _).out.mono ?_); rintro e w1 ⟨rfl, rfl⟩)
        | (at_builtin; go_must (refine wpList_append_W Try.underlying52 infoF rfl fV (fun _ => rfl) _ rfl (.tmp 12) (.tmp 15) rfl (by rfl) (by rfl) rfl HOA.out HR1.out h63 hzz hm5 ?_)))
      intro A1 c1 w5 ho5 hg5
      have HO5 : Hid (OwnW 42 fV w5 w.heap.size (.slice A1 m5 c1) (xs.take (k + 1))) := Lib.hid (by rw [HT.out]; exact ho5)
      have HB5 : Hid (Below w.heap.size w w5) := Lib.hid (HBA.out.grown hg5 hzz (fun g e => (World.ownsRow.lt HOA.out g e).1))
      clear ho5 hg5 h63 hzz
      go_wp2
      go_roundw
      case rel => exact ⟨k + 1, _, by omega, rfl, by go_num, HO5, HB5.out⟩
      case measure => simp [intOf]; omega
    · obtain rfl : k = n := by omega
      have hF : OwnW 42 fV wr w.heap.size vx xs := by have := HO.out; rw [hn.out, List.take_length] at this; exact this
      obtain ⟨A2, c2, hv⟩ := hF.slice
      rw [← hn.out] at hv
      subst hv
      have HF := Lib.hid hF
      clear hF HO hn
      go_wp2
      go_ret
      exact ⟨A2, c2, rfl, HF.out, hb⟩

set_option maxRecDepth 100000 in
theorem Mean_any (v : Value) (xs : List Nat) (w : World) (h : RdW uV w v xs) (hl : xs.length ≤ 1099511627776) :
    Calls Try.prog 21 #[v] w fun e w' => e = .returned (.int .u64 (meanV xs)) ∧ Below w.heap.size w w' := by
  have H1 := Lib.hid (floatsOf_any v xs w h hl)
  have H2 := fun v' w' (h' : RdW fV w' v' xs) => Lib.hid (mean_any v' xs w' h' hl)
  have H3 := fun a w' => Lib.hid (bitsOf_any a w')
  clear h hl
  go_enter Try.func21, Try.ntmps21
  go_wp2_with (first
    | (go_at_call 40
       (with_reducible refine H1.out.mono ?_); rintro e w1 ⟨A1, c1, rfl, ho1, hb1⟩
       have HR1 := Lib.hid ho1.rd
       clear ho1)
    | (go_at_call 39
       (with_reducible refine (H2 _ _ HR1.out).out.mono ?_); rintro e w2 ⟨r, rfl, hr, hb2⟩
       have HR := Lib.hid hr
       clear hr)
    | (go_at_call 31
       (with_reducible refine (H3 _ _).out.mono ?_); rintro e w3 ⟨rfl, rfl⟩))
  go_ret
  exact ⟨by rw [← HR.out]; rfl, hb1.trans (hb2.mono hb1.size)⟩
set_option maxRecDepth 100000 in
theorem refMeanP_any (v : Value) (xs : List Nat) (w : World) (h : RdW uV w v xs) (hl : xs.length ≤ 1099511627776) :
    Calls Try.prog 22 #[v] w fun e w' => e = .returned (.int .u64 (meanV xs)) ∧ Below w.heap.size w w' := by
  have H2 := Lib.hid (refMean_any v xs w h hl)
  have H3 := fun a w' => Lib.hid (refBits_any a w')
  clear h hl
  go_enter Try.func22, Try.ntmps22
  go_wp2_with (first
    | (go_at_call 41
       (with_reducible refine H2.out.mono ?_); rintro e w2 ⟨r, rfl, hr, hb2⟩
       have HR := Lib.hid hr
       clear hr)
    | (go_at_call 34
       (with_reducible refine (H3 _ _).out.mono ?_); rintro e w3 ⟨rfl, rfl⟩))
  go_ret
  exact ⟨by rw [← HR.out]; rfl, hb2⟩
end Go.Proofs.Ytaihkehbpppngaa
