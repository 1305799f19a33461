/- The walk of IdentHashes. -/
import Derived.Test.YtokhmfdfigbbeaaDoorRefMix
import Derived.Test.YtokhmfdfigbbeaaDoorNames
import Derived.Laws.StructEq
namespace Go.Proofs.YtokhmfdfigbbeaaDoor
open Go.RowKit
open Go.Lib (byteCells byteCells_length)

theorem convert_rd {A : Option Addr} {c lo hi : Nat} {bs : List UInt8} {w : World} (h : RdA w lo hi A bs) : (convert 29 9 (.slice A bs.length c)).run Tryd.prog w = .ok (.string ⟨bs.toArray⟩) w := by
  by_cases h0 : bs = []
  · subst h0
    cases A with
    | none => rw [show ([] : List UInt8).length = 0 from rfl, run_convert_bytes_string w _ _ 5 none 0 c Tryd.underlying29 Tryd.underlying5 Tryd.underlying9]; rfl
    | some ad => exact run_convert_bytes_back (P := Tryd.prog) w _ _ 5 ad c [] Tryd.underlying29 Tryd.underlying5 Tryd.underlying9 (fun j hj => absurd hj (by simp))
  · obtain ⟨ad, rfl, _, _, hc⟩ := h (List.length_pos_iff.2 h0)
    exact run_convert_bytes_back (P := Tryd.prog) w _ _ 5 ad c bs Tryd.underlying29 Tryd.underlying5 Tryd.underlying9 (fun j hj => hc j _ (byteCells_at bs j hj))

theorem position_any (s : ByteArray) (hs : s.size ≤ 9223372036854775807) (w : World) (ht : Tabs w) :
    Calls Tryd.prog 21 #[.string s] w fun e w' => e = .returned (.int .u64 (hash s.data.toList : Int)) ∧ Below w.heap.size w w' := by
  obtain ⟨w1, cap, hconv, hb, hcap, hrd⟩ := conv_any s w
  have hl := slen s
  have hR : Rd w1 w.heap.size w1.heap.size (.slice (some ⟨w.heap.size, 0, none⟩) s.size cap) s.data.toList := ⟨_, cap, by rw [hl], by rw [hl]; exact hcap, hrd⟩
  have HH := Lib.hid (hash_any _ _ _ _ _ hR (by rw [hl]; exact hs) (ht.below hb ht.big))
  clear hl hrd hR
  go_enter Tryd.func21, Tryd.ntmps21
  go_wp2_with fail
  (with_reducible refine HH.out.mono ?_); rintro e w' ⟨rfl, rfl⟩
  go_wp2
  go_ret
  exact ⟨rfl, hb⟩
theorem refPosition_any (s : ByteArray) (hs : s.size ≤ 9223372036854775807) (w : World) :
    Calls Tryd.prog 22 #[.string s] w fun e w' => e = .returned (.int .u64 (hash s.data.toList : Int)) ∧ Below w.heap.size w w' := by
  obtain ⟨w1, cap, hconv, hb, hcap, hrd⟩ := conv_any s w
  have hl := slen s
  have hR : Rd w1 w.heap.size w1.heap.size (.slice (some ⟨w.heap.size, 0, none⟩) s.size cap) s.data.toList := ⟨_, cap, by rw [hl], by rw [hl]; exact hcap, hrd⟩
  have HH := Lib.hid (refHash_any _ _ _ _ _ hR (by rw [hl]; exact hs))
  clear hl hrd hR
  go_enter Tryd.func22, Tryd.ntmps22
  go_wp2_with fail
  (with_reducible refine HH.out.mono ?_); rintro e w' ⟨rfl, rfl⟩
  go_wp2
  go_ret
  exact ⟨rfl, hb⟩

/-- Where a node lies, the so manieth time. -/
def pointOf (n i : Int) : Nat := if 0 ≤ n ∧ n < 8 ∧ 0 ≤ i ∧ i < 16 then mix (n.toNat + 1) i.toNat else 0

set_option maxHeartbeats 800000 in
theorem point_any (n i : Int) (w : World) (ht : Tabs w) :
    Calls Tryd.prog 23 #[.int .i64 n, .int .i64 i] w fun e w' => e = .returned (.int .u64 (pointOf n i : Int)) ∧ Below w.heap.size w w' := by
  by_cases hn : 0 ≤ n ∧ n < 8
  · obtain ⟨hn0, hn8⟩ := hn
    obtain ⟨k, rfl⟩ := Int.eq_ofNat_of_zero_le hn0
    have HN := Lib.hid (isNode_yes k (by omega) w)
    by_cases hi : 0 ≤ i ∧ i < 16
    · obtain ⟨hi0, hi16⟩ := hi
      obtain ⟨j, rfl⟩ := Int.eq_ofNat_of_zero_le hi0
      have hp : pointOf (k : Int) (j : Int) = mix (k + 1) j := by
        unfold pointOf
        rw [if_pos ⟨hn0, hn8, hi0, hi16⟩]
        simp
      have hm := mix_any (k + 1) j (by omega) (by omega) w ht
      rw [← hp] at hm
      generalize pointOf (k : Int) (j : Int) = r at hm
      rw [show (((k + 1 : Nat)) : Int) = (k : Int) + 1 by omega] at hm
      have HM := Lib.hid hm
      have d1 : decide ((j : Int) < 0) = false := by simp
      have d2 : decide (16 ≤ (j : Int)) = false := by simp; omega
      clear hp hm
      go_enter Tryd.func23, Tryd.ntmps23
      go_wp2_with fail
      (with_reducible refine HN.out.mono ?_); rintro e w' ⟨rfl, rfl⟩
      go_wp2_with fail
      (with_reducible refine HM.out.mono ?_); rintro e w' ⟨rfl, hb⟩
      go_wp2
      go_ret
      exact ⟨rfl, hb⟩
    · have hp : pointOf (k : Int) i = 0 := by unfold pointOf; rw [if_neg (by omega)]
      rw [hp]
      by_cases h0 : i < 0
      · have d1 : decide (i < 0) = true := by simpa using h0
        clear hi hp
        go_enter Tryd.func23, Tryd.ntmps23
        go_wp2_with fail
        (with_reducible refine HN.out.mono ?_); rintro e w' ⟨rfl, rfl⟩
        go_wp2
        go_ret
        exact ⟨rfl, Below.refl _ _⟩
      · have d1 : decide (i < 0) = false := by simpa using h0
        have d2 : decide (16 ≤ i) = true := by simp; omega
        clear hi hp
        go_enter Tryd.func23, Tryd.ntmps23
        go_wp2_with fail
        (with_reducible refine HN.out.mono ?_); rintro e w' ⟨rfl, rfl⟩
        go_wp2
        go_ret
        exact ⟨rfl, Below.refl _ _⟩
  · have hp : pointOf n i = 0 := by unfold pointOf; rw [if_neg (by omega)]
    have HN := Lib.hid (isNode_no n (by omega) w)
    rw [hp]
    clear hp hn
    go_enter Tryd.func23, Tryd.ntmps23
    go_wp2_with fail
    (with_reducible refine HN.out.mono ?_); rintro e w' ⟨rfl, rfl⟩
    go_wp2
    go_ret
    exact ⟨rfl, Below.refl _ _⟩

set_option maxHeartbeats 800000 in
theorem refPoint_any (n i : Int) (w : World) :
    Calls Tryd.prog 24 #[.int .i64 n, .int .i64 i] w fun e w' => e = .returned (.int .u64 (pointOf n i : Int)) ∧ Below w.heap.size w w' := by
  by_cases hn : 0 ≤ n ∧ n < 8 ∧ 0 ≤ i ∧ i < 16
  · obtain ⟨hn0, hn8, hi0, hi16⟩ := hn
    obtain ⟨k, rfl⟩ := Int.eq_ofNat_of_zero_le hn0
    obtain ⟨j, rfl⟩ := Int.eq_ofNat_of_zero_le hi0
    have hp : pointOf (k : Int) (j : Int) = mix (k + 1) j := by
      unfold pointOf
      rw [if_pos ⟨hn0, hn8, hi0, hi16⟩]
      simp
    have hm := refMix_any (k + 1) j (by omega) (by omega) w
    rw [← hp] at hm
    generalize pointOf (k : Int) (j : Int) = r at hm
    rw [show (((k + 1 : Nat)) : Int) = (k : Int) + 1 by omega] at hm
    have HM := Lib.hid hm
    have d1 : decide ((j : Int) < 0) = false := by simp
    have d2 : decide (16 ≤ (j : Int)) = false := by simp; omega
    have d3 : decide ((k : Int) < 0) = false := by simp
    have d4 : decide (8 ≤ (k : Int)) = false := by simp; omega
    clear hp hm
    go_enter Tryd.func24, Tryd.ntmps24
    go_wp2_with fail
    (with_reducible refine HM.out.mono ?_); rintro e w' ⟨rfl, hb⟩
    go_wp2
    go_ret
    exact ⟨rfl, hb⟩
  · have hp : pointOf n i = 0 := by unfold pointOf; rw [if_neg hn]
    rw [hp]
    by_cases h1 : n < 0
    · have d1 : decide (n < 0) = true := by simpa using h1
      clear hp hn
      go_enter Tryd.func24, Tryd.ntmps24
      go_wp2
      go_ret
      exact ⟨rfl, Below.refl _ _⟩
    · have d1 : decide (n < 0) = false := by simpa using h1
      by_cases h2 : 8 ≤ n
      · have d2 : decide (8 ≤ n) = true := by simpa using h2
        clear hp hn
        go_enter Tryd.func24, Tryd.ntmps24
        go_wp2
        go_ret
        exact ⟨rfl, Below.refl _ _⟩
      · have d2 : decide (8 ≤ n) = false := by simpa using h2
        by_cases h3 : i < 0
        · have d3 : decide (i < 0) = true := by simpa using h3
          clear hp hn
          go_enter Tryd.func24, Tryd.ntmps24
          go_wp2
          go_ret
          exact ⟨rfl, Below.refl _ _⟩
        · have d3 : decide (i < 0) = false := by simpa using h3
          have d4 : decide (16 ≤ i) = true := by simp; omega
          clear hp hn
          go_enter Tryd.func24, Tryd.ntmps24
          go_wp2
          go_ret
          exact ⟨rfl, Below.refl _ _⟩

set_option maxRecDepth 100000 in
set_option maxHeartbeats 1600000 in
theorem identHashes_walk (v : Value) (bs : List UInt8) (w0 : World) (hrd : Rd w0 0 w0.heap.size v bs) (hlen : bs.length ≤ 9223372036854775807) (x : Int) (hx0 : 0 ≤ x) (hx1 : x ≤ 18446744073709551615) (y : Int) (hy0 : 0 ≤ y) (hy1 : y ≤ 18446744073709551615)
    (s : ByteArray) (hs : s.size ≤ 9223372036854775807) (n : Int) (_hn0 : -9223372036854775808 ≤ n) (_hn1 : n ≤ 9223372036854775807) (i : Int) (_hi0 : -9223372036854775808 ≤ i) (_hi1 : i ≤ 9223372036854775807) (w : World) (hw : w0 = w) (ht : Tabs w) :
    Calls Tryd.prog 4 #[v, .int .u64 x, .int .u64 y, .string s, .int .i64 n, .int .i64 i] w fun e w' => e = .returned (.bool true) ∧ Below w.heap.size w w' := by
  subst hw
  obtain ⟨a, rfl⟩ := Int.eq_ofNat_of_zero_le hx0
  obtain ⟨b, rfl⟩ := Int.eq_ofNat_of_zero_le hy0
  have h1 := hash_any v bs _ _ w0 hrd hlen ht
  have h2 := refHash_any v bs _ _ w0 hrd hlen
  obtain ⟨A, c, rfl, hc, hx⟩ := hrd
  have hcv := convert_rd (c := c) hx
  have h3 := mix_any a b (by omega) (by omega) w0 ht
  have h4 := fun w => refMix_any a b (by omega) (by omega) w
  have h5 := fun w => position_any s hs w
  have h6 := fun w => refPosition_any s hs w
  have h7 := fun w => point_any n i w
  have h8 := fun w => refPoint_any n i w
  have h9 := fun w => awake_any w
  generalize hash bs = hh at h1 h2
  generalize mix a b = mm at h3 h4
  generalize hash s.data.toList = ss at h5 h6
  generalize pointOf n i = pp at h7 h8
  have H1 := Lib.hid h1
  have H2 := Lib.hid h2
  have H3 := Lib.hid h3
  have H4 := Lib.hid h4
  have H5 := Lib.hid h5
  have H6 := Lib.hid h6
  have H7 := Lib.hid h7
  have H8 := Lib.hid h8
  have H9 := Lib.hid h9
  have HT := Lib.hid ht
  clear h1 h2 h3 h4 h5 h6 h7 h8 h9 ht
  generalize (⟨bs.toArray⟩ : ByteArray) = g at hcv
  have egg : (g.toList == g.toList) = true := by rw [beq_iff_eq]
  go_enter Tryd.func4, Tryd.ntmps4
  go_wp2_with fail
  (with_reducible refine H1.out.mono ?_); rintro e w' ⟨rfl, rfl⟩
  go_wp2_with fail
  (with_reducible refine H2.out.mono ?_); rintro e w' ⟨rfl, rfl⟩
  go_wp2_with fail
  (with_reducible refine H3.out.mono ?_); rintro e w1 ⟨rfl, hb1⟩
  go_wp2_with fail
  (with_reducible refine (H4.out _).mono ?_); rintro e w2 ⟨rfl, hb2⟩
  have hb12 := hb1.trans (hb2.mono hb1.size)
  go_wp2_with fail
  (with_reducible refine (H5.out _ (HT.out.below hb12 HT.out.big)).mono ?_); rintro e w3 ⟨rfl, hb3⟩
  have hb13 := hb12.trans (hb3.mono hb12.size)
  go_wp2_with fail
  (with_reducible refine (H6.out _).mono ?_); rintro e w4 ⟨rfl, hb4⟩
  have hb14 := hb13.trans (hb4.mono hb13.size)
  go_wp2_with fail
  (with_reducible refine (H7.out _ (HT.out.below hb14 HT.out.big)).mono ?_); rintro e w5 ⟨rfl, hb5⟩
  have hb15 := hb14.trans (hb5.mono hb14.size)
  go_wp2_with fail
  (with_reducible refine (H8.out _).mono ?_); rintro e w6 ⟨rfl, hb6⟩
  have hb16 := hb15.trans (hb6.mono hb15.size)
  go_wp2_with fail
  (with_reducible refine (H9.out _ (HT.out.below hb16 HT.out.big)).mono ?_); rintro e w7 ⟨rfl, hb7⟩
  go_wp2
  go_ret
  exact ⟨rfl, hb16.trans (hb7.mono hb16.size)⟩
end Go.Proofs.YtokhmfdfigbbeaaDoor
