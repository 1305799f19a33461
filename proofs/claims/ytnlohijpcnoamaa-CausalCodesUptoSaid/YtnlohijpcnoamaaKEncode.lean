/- causal.Encode: of a context that may be, what it puts behind bytes; of another the error. -/
import Derived.Test.YtnlohijpcnoamaaKDot
import Derived.Test.YtnlohijpcnoamaaConcat
import Derived.Test.YtnlohijpcnoamaaCPrunedWalk
namespace Go.Proofs.Ytnlohijpcnoamaa
open Go.RowKit
open Go.Lib (byteCells byteCells_length byteCells_append strCells strCells_eq)

/-- A context's bytes. -/
def codeC (ms ds : List DotA) : List UInt8 := num ms.length ++ nums (dotsN ms) ++ num ds.length ++ nums (dotsN ds)
theorem dotsN_length (ds : List DotA) : (dotsN ds).length = 3 * ds.length := by
  induction ds with
  | nil => rfl
  | cons d ds ih => show (dotN d ++ dotsN ds).length = _; rw [List.length_append, ih, List.length_cons]; simp [dotN]; omega
theorem dotsN_take {ds : List DotA} {k : Nat} {d : DotA} (h : ds[k]? = some d) : nums (dotsN (ds.take (k + 1))) = nums (dotsN (ds.take k)) ++ nums (dotN d) := by
  rw [List.take_add_one, h, ← nums_append]; simp [dotsN]
theorem dotsN_short {ds : List DotA} (k : Nat) (h : ds.length ≤ 64) : (nums (dotsN (ds.take k))).length ≤ 1728 := by
  have h1 := nums_length (dotsN (ds.take k))
  rw [dotsN_length] at h1
  have := List.length_take_le' k ds
  omega

def EncPost (bs : List UInt8) (ms ds : List DotA) (w : World) (e : Ending) (w' : World) : Prop :=
  (OkC ms ds ∧ ∃ v, e = .returned (.tuple #[v, .int .i64 0]) ∧ Own w' w.heap.size v (bs ++ codeC ms ds) ∧ Below w.heap.size w w') ∨
  (¬ OkC ms ds ∧ e = .returned (.tuple #[.slice none 0 0, .int .i64 30]) ∧ Below w.heap.size w w')

theorem may_small {d : DotA} (h : mayB d = true) : d.1 ≤ 9223372036854775807 ∧ d.2.1 ≤ 9223372036854775807 ∧ d.2.2 ≤ 9223372036854775807 := by
  simp [mayB] at h; omega

set_option maxRecDepth 100000 in
set_option maxHeartbeats 6400000 in
theorem encode_any (bv v : Value) (bs : List UInt8) (ms ds : List DotA) (w : World) (hb : Rd w 0 w.heap.size bv bs) (hbl : bs.length ≤ 1048576) (h : RdC w v ms ds) (hlm : ms.length ≤ 1099511627776) (hld : ds.length ≤ 1099511627776) :
    Calls Try.prog 6 #[bv, v] w (EncPost bs ms ds w) := by
  obtain ⟨mv, dv, rfl, hm, hd⟩ := h
  obtain ⟨W, hW⟩ : ∃ W, Hid (W = w.alloc (.cells #[mv, dv] 25)) := ⟨_, Lib.hid rfl⟩
  have hb0 : Below w.heap.size w W := by rw [hW.out]; exact (Below.refl _ _).alloc (Nat.le_refl _) _
  have hbc : BoxC W w.heap.size mv dv := by rw [hW.out]; exact ⟨box_cell _ _ _ 0, box_cell _ _ _ 1⟩
  have hlt0 : w.heap.size < W.heap.size := by rw [hW.out]; simp
  have HM := Lib.hid (hm.below hb0)
  have HD := Lib.hid (hd.below hb0)
  have HB := Lib.hid hb0
  have HBS := Lib.hid (hb.below hb0 (Nat.le_refl _))
  have HCAN := Lib.hid (can_any (.agg #[mv, dv]) ms ds W ⟨mv, dv, rfl, HM.out, HD.out⟩ hlm hld)
  have hWe := hW.out.symm
  have b0 := hbc.1
  have b1 := hbc.2
  clear hb0 hbc hW hb hm hd
  by_cases hok : OkC ms ds
  · have HOK := Lib.hid hok
    have HMM := Lib.hid (fun (j : Nat) (d : DotA) (hj : ms[j]? = some d) => may_small (hok.2.2.1.1 j d hj))
    have HMD := Lib.hid (fun (j : Nat) (d : DotA) (hj : ds[j]? = some d) => may_small (hok.2.2.2.1 j d hj).1)
    have hl1 := hok.1
    have hl2 := hok.2.1
    clear hok hlm hld
    obtain ⟨A, c, rfl, hc, hx⟩ := HM.out
    obtain ⟨A1, c1, rfl, hc1, hx1⟩ := HD.out
    have HX := Lib.hid hx
    have HX1 := Lib.hid hx1
    obtain ⟨n, hn⟩ : ∃ n, Hid (n = ms.length) := ⟨_, Lib.hid rfl⟩
    obtain ⟨n1, hn1⟩ : ∃ n1, Hid (n1 = ds.length) := ⟨_, Lib.hid rfl⟩
    rw [← hn.out] at hl1 hc HCAN hWe b0 HM ⊢
    rw [← hn1.out] at hl2 hc1 HCAN hWe b1 HD ⊢
    clear hx hx1 HM HD
    go_enter Try.func6, Try.ntmps6
    go_wp2_with fail
    clear hWe
    (with_reducible refine HCAN.out.mono ?_); rintro e w1 ⟨b, rfl, hbi, hb1⟩
    cases hbi.2 HOK.out
    have c0 : w1.cell? ⟨w.heap.size, 0, none⟩ = some (.slice A n c) := (hb1.cell (p := ⟨w.heap.size, 0, none⟩) hlt0).trans b0
    have c2 : w1.cell? ⟨w.heap.size, 1, none⟩ = some (.slice A1 n1 c1) := (hb1.cell (p := ⟨w.heap.size, 1, none⟩) hlt0).trans b1
    have HB1 := Lib.hid hb1
    have hs1 := hb1.size
    clear hbi hb1
    go_wp2_with fail
    refine (numbers_any W.heap.size w1.heap.size (.slice none 0 0) [] [(n : Int)] 1 1 _ (own_nil _ _) ?_ ?_ ?_ ?_ rfl (by simp) (by omega) ?_).mono ?_
    case _ => simp; omega
    case _ => simp
    case _ => intro e; cases e
    case _ => exact nrow_box _ _ rfl _ _ _ rfl
    case _ => intro x hx; simp at hx; omega
    rintro e w2 ⟨v2, rfl, hown2, hb2⟩
    have HO2 : Hid (Own w2 W.heap.size v2 (num n ++ nums (dotsN (ms.take 0)))) := Lib.hid (by simpa [nums, dotsN] using hown2)
    have HB2 : Hid (Below W.heap.size W w2) := Lib.hid ((HB1.out.alloc (by omega) _).trans hb2)
    have e0 : w2.cell? ⟨w.heap.size, 0, none⟩ = some (.slice A n c) := (HB2.out.cell (p := ⟨w.heap.size, 0, none⟩) hlt0).trans b0
    clear hown2 hb2 c0 c2
    go_wp2
    go_loopw [22, 6] (fun i x wr => ∃ (k : Nat), k ≤ n ∧ i = .int .i64 k ∧ Hid (Own wr W.heap.size x (num n ++ nums (dotsN (ms.take k)))) ∧ Below W.heap.size W wr) (fun i _ _ => n - (intOf i).toNat)
    case atStart => exact ⟨0, Nat.zero_le _, rfl, HO2, HB2.out⟩
    case round =>
      obtain ⟨k, hk, rfl, HO, hb⟩ := hrel
      have HBB := Lib.hid hb
      have hbs := hb.size
      have hxr := HX.out.below hb (Nat.le_refl _)
      by_cases hlt : k < n
      · obtain ⟨x, hdk⟩ : ∃ x, ms[k]? = some x := ⟨ms[k]'(by have := hn.out; omega), List.getElem?_eq_getElem _⟩
        obtain ⟨ad, rfl, hadlt, hda⟩ := hxr k x hdk
        obtain ⟨d0, d1, d2⟩ := hda
        have HT := Lib.hid (dotsN_take hdk)
        obtain ⟨m0, m1, m2⟩ := HMM.out k x hdk
        clear hdk hxr hb
        obtain ⟨W2, hW2⟩ : ∃ W2, Hid (W2 = wr.alloc (.cells #[.int .i64 x.1, .int .i64 x.2.1, .int .i64 x.2.2] 53)) := ⟨_, Lib.hid rfl⟩
        have hbA : Below wr.heap.size wr W2 := by rw [hW2.out]; exact (Below.refl _ _).alloc (Nat.le_refl _) _
        have g0 : W2.cell? ⟨wr.heap.size, 0, none⟩ = some (.int .i64 x.1) := by rw [hW2.out]; exact box_cell _ _ _ 0
        have g1 : W2.cell? ⟨wr.heap.size, 1, none⟩ = some (.int .i64 x.2.1) := by rw [hW2.out]; exact box_cell _ _ _ 1
        have g2 : W2.cell? ⟨wr.heap.size, 2, none⟩ = some (.int .i64 x.2.2) := by rw [hW2.out]; exact box_cell _ _ _ 2
        have hzW2 : wr.heap.size < W2.heap.size := by rw [hW2.out]; simp
        have HB3 := Lib.hid (HBB.out.trans (hbA.mono hbs))
        have hol : (num n ++ nums (dotsN (ms.take k))).length ≤ 1099511627776 := by
          have := num_length n
          have := dotsN_short k (ds := ms) (by rw [← hn.out]; exact hl1)
          rw [List.length_append]; omega
        have HP := Lib.hid (putDot_any W.heap.size u6 _ x W2 (HO.out.below hbA) (by omega) hol m0 m1 m2)
        have hWe2 := hW2.out.symm
        clear hbA hol m0 m1 m2
        go_upto_region 7 with fail
        clear hWe2
        go_wp2_with fail
        (with_reducible refine HP.out.mono ?_); rintro e w5 ⟨v5, rfl, ho5, hb5⟩
        have HO5 : Hid (Own w5 W.heap.size v5 (num n ++ nums (dotsN (ms.take (k + 1))))) := Lib.hid (by rw [HT.out, ← List.append_assoc]; exact ho5)
        have HB5 := Lib.hid (HB3.out.trans hb5)
        clear ho5 hb5 g0 g1 g2
        go_wp2
        go_roundw
        case rel => exact ⟨k + 1, by omega, by go_num, HO5, HB5.out⟩
        case measure => simp [intOf]; omega
      · have hkn : k = n := by omega
        have HO3 : Hid (Own wr W.heap.size u6 (num n ++ nums (dotsN ms))) := Lib.hid (by have := HO.out; rw [hkn, hn.out, List.take_length] at this; rw [hn.out]; exact this)
        have e1 : wr.cell? ⟨w.heap.size, 1, none⟩ = some (.slice A1 n1 c1) := (hb.cell (p := ⟨w.heap.size, 1, none⟩) hlt0).trans b1
        have hol : (num n ++ nums (dotsN ms)).length ≤ 1099511627776 := by
          have := num_length n
          have := dotsN_short ms.length (ds := ms) (by rw [← hn.out]; exact hl1)
          rw [List.take_length] at this
          rw [List.length_append]; omega
        clear hxr hb HO hkn
        go_wp2_with fail
        clear hlt
        refine (numbers_any W.heap.size wr.heap.size u6 _ [(n1 : Int)] 1 1 _ (own_alloc HO3.out _) ?_ ?_ ?_ ?_ rfl hol (by omega) ?_).mono ?_
        case _ => simp; omega
        case _ => simp
        case _ => intro e; have := (HO3.out.lt _ e).2; omega
        case _ => exact nrow_box _ _ rfl _ _ _ rfl
        case _ => intro x hx; simp at hx; omega
        rintro e w3 ⟨v3, rfl, hown3, hb3⟩
        have HO4 : Hid (Own w3 W.heap.size v3 (num n ++ nums (dotsN ms) ++ num n1 ++ nums (dotsN (ds.take 0)))) := Lib.hid (by simpa [nums, dotsN] using hown3)
        have HB4 : Hid (Below W.heap.size W w3) := Lib.hid ((HBB.out.alloc hbs _).trans hb3)
        have f1 : w3.cell? ⟨w.heap.size, 1, none⟩ = some (.slice A1 n1 c1) := (HB4.out.cell (p := ⟨w.heap.size, 1, none⟩) hlt0).trans b1
        clear hown3 hb3 e1 hol
        go_wp2
        obtain ⟨wa, hwa⟩ : ∃ wa : World, wa = w3 := ⟨_, rfl⟩
        subst hwa
        go_loopw [39, 6] (fun i x wr => ∃ (k : Nat), k ≤ n1 ∧ i = .int .i64 k ∧ Hid (Own wr W.heap.size x (num n ++ nums (dotsN ms) ++ num n1 ++ nums (dotsN (ds.take k)))) ∧ Below W.heap.size W wr) (fun i _ _ => n1 - (intOf i).toNat)
        case atStart => exact ⟨0, Nat.zero_le _, rfl, HO4, HB4.out⟩
        case round =>
          obtain ⟨k2, hk2, rfl, HO, hb⟩ := hrel
          have HBB := Lib.hid hb
          have hbs := hb.size
          have hxr := HX1.out.below hb (Nat.le_refl _)
          by_cases hlt2 : k2 < n1
          · obtain ⟨x, hdk⟩ : ∃ x, ds[k2]? = some x := ⟨ds[k2]'(by have := hn1.out; omega), List.getElem?_eq_getElem _⟩
            obtain ⟨ad, rfl, hadlt, hda⟩ := hxr k2 x hdk
            obtain ⟨d0, d1, d2⟩ := hda
            have HT := Lib.hid (dotsN_take hdk)
            obtain ⟨m0, m1, m2⟩ := HMD.out k2 x hdk
            clear hdk hxr hb
            obtain ⟨W2, hW2⟩ : ∃ W2, Hid (W2 = wr.alloc (.cells #[.int .i64 x.1, .int .i64 x.2.1, .int .i64 x.2.2] 55)) := ⟨_, Lib.hid rfl⟩
            have hbA : Below wr.heap.size wr W2 := by rw [hW2.out]; exact (Below.refl _ _).alloc (Nat.le_refl _) _
            have g0 : W2.cell? ⟨wr.heap.size, 0, none⟩ = some (.int .i64 x.1) := by rw [hW2.out]; exact box_cell _ _ _ 0
            have g1 : W2.cell? ⟨wr.heap.size, 1, none⟩ = some (.int .i64 x.2.1) := by rw [hW2.out]; exact box_cell _ _ _ 1
            have g2 : W2.cell? ⟨wr.heap.size, 2, none⟩ = some (.int .i64 x.2.2) := by rw [hW2.out]; exact box_cell _ _ _ 2
            have hzW2 : wr.heap.size < W2.heap.size := by rw [hW2.out]; simp
            have HB3 := Lib.hid (HBB.out.trans (hbA.mono hbs))
            have hol : (num n ++ nums (dotsN ms) ++ num n1 ++ nums (dotsN (ds.take k2))).length ≤ 1099511627776 := by
              have := num_length n
              have := num_length n1
              have h3 := dotsN_short ms.length (ds := ms) (by rw [← hn.out]; exact hl1)
              have := dotsN_short k2 (ds := ds) (by rw [← hn1.out]; exact hl2)
              rw [List.take_length] at h3
              rw [List.length_append, List.length_append, List.length_append]; omega
            have HP := Lib.hid (putDot_any W.heap.size u6 _ x W2 (HO.out.below hbA) (by omega) hol m0 m1 m2)
            have hWe2 := hW2.out.symm
            clear hbA hol m0 m1 m2
            go_upto_region 13 with fail
            clear hWe2
            go_wp2_with fail
            (with_reducible refine HP.out.mono ?_); rintro e w5 ⟨v5, rfl, ho5, hb5⟩
            have HO5 : Hid (Own w5 W.heap.size v5 (num n ++ nums (dotsN ms) ++ num n1 ++ nums (dotsN (ds.take (k2 + 1))))) := Lib.hid (by rw [HT.out, ← List.append_assoc]; exact ho5)
            have HB5 := Lib.hid (HB3.out.trans hb5)
            clear ho5 hb5 g0 g1 g2
            go_wp2
            go_roundw
            case rel => exact ⟨k2 + 1, by omega, by go_num, HO5, HB5.out⟩
            case measure => simp [intOf]; omega
          · have hkn2 : k2 = n1 := by omega
            have HO6 : Hid (Own wr W.heap.size u6 (codeC ms ds)) := Lib.hid (by have := HO.out; rw [hkn2, hn1.out, List.take_length, hn.out] at this; exact this)
            have hcl : (codeC ms ds).length ≤ 1048576 := by
              have := num_length ms.length
              have := num_length ds.length
              have h3 := dotsN_short ms.length (ds := ms) (by rw [← hn.out]; exact hl1)
              have h4 := dotsN_short ds.length (ds := ds) (by rw [← hn1.out]; exact hl2)
              rw [List.take_length] at h3 h4
              unfold codeC
              rw [List.length_append, List.length_append, List.length_append]; omega
            have HRB := Lib.hid (HO6.out.rd.mono (Nat.zero_le _) (Nat.le_refl _))
            have HRA := Lib.hid (HBS.out.below HBB.out (Nat.le_of_lt hlt0))
            obtain ⟨Ab, cb, rfl, _, _⟩ := HRA.out
            obtain ⟨Au, cu, rfl, _, _⟩ := HRB.out
            clear hxr hb HO hkn2
            go_wp2_with fail
            clear hlt2
            refine (concat_any wr.heap.size (.slice Ab bs.length cb) (.slice Au (codeC ms ds).length cu) bs (codeC ms ds) _ ?_ ?_ ?_ ?_ hbl hcl).mono ?_
            case _ => exact box_cell _ _ _ 0
            case _ => exact box_cell _ _ _ 1
            case _ => exact (HRA.out.below ((Below.refl _ _).alloc (Nat.le_refl _) _) (by omega)).mono (Nat.le_refl _) (by simp; omega)
            case _ => exact (HRB.out.below ((Below.refl _ _).alloc (Nat.le_refl _) _) (Nat.le_refl _)).mono (Nat.le_refl _) (by simp)
            rintro e w7 ⟨v7, rfl, ho7, hb7⟩
            have HO7 := Lib.hid ho7
            have HB7 := Lib.hid hb7
            clear ho7 hb7 hcl
            go_wp2
            go_ret2
            exact .inl ⟨HOK.out, _, rfl, HO7.out.base_le (by simp; omega), HB.out.trans (((HBB.out.alloc hbs _).trans (HB7.out.mono (by simp; omega))).mono (Nat.le_of_lt hlt0))⟩
  · have HOK := Lib.hid hok
    go_enter Try.func6, Try.ntmps6
    go_wp2_with fail
    clear hWe
    (with_reducible refine HCAN.out.mono ?_); rintro e w1 ⟨b, rfl, hbi, hb1⟩
    cases b with
    | true => exact absurd (hbi.1 rfl) HOK.out
    | false =>
      have HB1 := Lib.hid (HB.out.trans (hb1.mono (Nat.le_of_lt hlt0)))
      clear hbi hb1
      go_wp2
      go_ret2
      exact .inr ⟨HOK.out, rfl, HB1.out⟩
end Go.Proofs.Ytnlohijpcnoamaa
