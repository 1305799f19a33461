/- The walk of WireForm. -/
import Derived.Test.YtnehchlfoidmdaaFramesWalk
import Derived.Test.YtnehchlfoidmdaaForm
namespace Go.Proofs.Ytnehchlfoidmdaa
open Go.RowKit
open Go.Lib (byteCells byteCells_length byteCells_append strCells strCells_eq)

/-- The first k bytes of a slice. -/
theorem Rd.head {w : World} {lo hi c : Nat} {A : Option Addr} {bs : List UInt8} (h : RdA w lo hi A bs) (hc : bs.length ≤ c) {k : Nat} (hk : k ≤ bs.length) : Rd w lo hi (.slice A k c) (bs.take k) := by
  have l : (bs.take k).length = k := by rw [List.length_take]; omega
  refine ⟨A, c, by rw [l], by omega, fun h0 => ?_⟩
  obtain ⟨ad, e, h1, h2, h3⟩ := h (by omega)
  refine ⟨ad, e, h1, h2, fun j u hu => h3 j u ?_⟩
  have := byteCells_piece bs 0 k j u (by simpa using hu)
  simpa using this

theorem uintR_lt (r : Nat) : ∀ (i acc : Nat) (bs : List UInt8), r + i = 9 → acc < 128 ^ i → (uintR r i acc bs).1 < 9223372036854775808 := by
  induction r with
  | zero => intro i acc bs _ _; simp [uintR]
  | succ r ih =>
    intro i acc bs hi ha
    cases bs with
    | nil => simp [uintR]
    | cons x bs =>
      have hsum : acc + x.toNat % 128 * 128 ^ i < 128 ^ (i + 1) := sum_lt acc i (x.toNat % 128) ha (by omega)
      simp only [uintR]
      split
      · simp
      · split
        · have h9 : 128 ^ (i + 1) ≤ 128 ^ 9 := Nat.pow_le_pow_right (by decide) (by omega)
          exact Nat.lt_of_lt_of_le hsum h9
        · exact ih (i + 1) _ bs (by omega) hsum
theorem uint_lt (bs : List UInt8) : (uint bs).1 ≤ 9223372036854775807 := by
  have := uintR_lt 9 0 0 bs rfl (by decide)
  unfold uint; omega
theorem put_nil (n : Nat) (w : World) (hn : n ≤ 9223372036854775807) : Calls Try.prog 11 #[.slice none 0 0, .int .i64 (n : Int)] w (Gives (num n) w) :=
  (put_any (.slice none 0 0) [] (n : Int) w (rd_nil _ _ _) (by simp) (by omega)).mono fun _ _ h => by simpa using h

set_option maxRecDepth 100000 in
set_option maxHeartbeats 4000000 in
theorem form_walk (v : Value) (bs : List UInt8) (w : World) (h : Rd w 0 w.heap.size v bs) (hl : bs.length ≤ 1099511627776) :
    Calls Try.prog 7 #[v] w fun e w' => e = .returned (.bool true) ∧ Below w.heap.size w w' := by
  have h0 := h
  obtain ⟨A, c, rfl, hc, hx⟩ := h
  obtain ⟨r, hr⟩ : ∃ r, Hid (r = uint bs) := ⟨_, Lib.hid rfl⟩
  have hkl : r.2.1 ≤ bs.length := by rw [hr.out]; exact uint_len bs
  have hform : r.2.2 = 0 → num r.1 = bs.take r.2.1 := by rw [hr.out]; exact num_of_uint
  have hrn : r.1 ≤ 9223372036854775807 := by
    rw [hr.out]; exact uint_lt bs
  have HF := Lib.hid hform
  clear hform
  have hxx : (r.2.2 != r.2.2) = false := by simp
  have lp := unP_len bs
  have lr := unR_len bs
  obtain ⟨ux, hux⟩ : ∃ ux, Hid (ux = (unfr bs).2.2) := ⟨_, Lib.hid rfl⟩
  obtain ⟨up, hup⟩ : ∃ up, Hid (up = unP bs) := ⟨_, Lib.hid rfl⟩
  obtain ⟨ur, hur⟩ : ∃ ur, Hid (ur = unR bs) := ⟨_, Lib.hid rfl⟩
  have cU : ∀ (W : World), Below w.heap.size w W → Calls Try.prog 20 #[.slice A bs.length c] W fun e w' => ∃ A c v, e = .returned (.tuple #[.slice A up.length c, v, .int .i64 ux]) ∧ Own w' W.heap.size (.slice A up.length c) up ∧ Own w' W.heap.size v ur ∧ Below W.heap.size W w' := by
    rw [hup.out, hux.out, hur.out]; exact fun W hb => (unframe_any _ bs W ((h0.below hb (Nat.le_refl _)).mono (Nat.le_refl _) hb.size) hl).mono fun _ _ h => h.one
  have cV : ∀ (W : World), Below w.heap.size w W → Calls Try.prog 21 #[.slice A bs.length c] W fun e w' => ∃ A c v, e = .returned (.tuple #[.slice A up.length c, v, .int .i64 ux]) ∧ Own w' W.heap.size (.slice A up.length c) up ∧ Own w' W.heap.size v ur ∧ Below W.heap.size W w' := by
    rw [hup.out, hux.out, hur.out]; exact fun W hb => (refUnframe_any _ bs W ((h0.below hb (Nat.le_refl _)).mono (Nat.le_refl _) hb.size) hl).mono fun _ _ h => h.one
  have hFR : ux = 0 → frameOf up = bs.take (bs.length - ur.length) ∧ up.length ≤ 65536 ∧ ur.length ≤ bs.length := by
    rw [hup.out, hux.out, hur.out]
    intro hz
    obtain ⟨f1, f2⟩ := frame_of_unfr hz
    have f3 := unfr_len hz
    unfold unP unR
    rw [if_pos hz, if_pos hz]
    refine ⟨?_, ?_, ?_⟩
    · rw [f1, List.length_drop]; congr 1; omega
    · rw [List.length_take, List.length_drop]; omega
    · rw [List.length_drop]; omega
  have CU := Lib.hid cU
  have CV := Lib.hid cV
  have HFR := Lib.hid hFR
  rw [← hup.out] at lp
  rw [← hur.out] at lr
  have huu : (ux != ux) = false := by simp
  clear cU cV hFR
  go_enter Try.func7, Try.ntmps7
  go_wp2_with fail
  refine (over_any _ bs w h0 hl).mono ?_
  rintro e w1 ⟨g, B, d, rfl, hg, hrd, hrx, hb1⟩
  have hm := uint_made g B d bs 0 w.heap.size g w1 hrd hrx (Nat.le_of_lt hrd.lt) (.inl (Nat.le_refl _))
  rw [List.drop_zero, ← hr.out, Nat.zero_add] at hm
  have HM := Lib.hid hm
  clear hm
  go_wp2_with fail
  refine HM.out.mono ?_
  rintro e w2 hR
  obtain rfl := hR.ending
  have b02 : Below w.heap.size w w2 := hb1.grown hR.grown hb1.size (by simp; omega)
  clear hR hrd hrx
  have hU := refUint_any _ bs _ _ w2 (h0.below b02 (Nat.le_refl _)) hl
  rw [← hr.out] at hU
  have HU := Lib.hid hU
  clear hU
  go_wp2_with fail
  refine HU.out.mono ?_
  rintro e w3 ⟨rfl, rfl⟩
  have hx2 : RdA w2 0 w.heap.size A bs := hx.keep fun p _ hp => b02.cell hp
  have hk1 : (0 : Int) ≤ (r.2.1 : Int) := Int.natCast_nonneg _
  have hk2 : (r.2.1 : Int) ≤ (c : Int) := by omega
  have HX2 := Lib.hid hx2
  clear hx2
  by_cases he : r.2.2 = 0
  · have hee : (r.2.2 == 0) = true := by simp [he]
    have HE := Lib.hid he
    clear he
    have R2 := Lib.hid (show Rd w2 0 w.heap.size (.slice A r.2.1 c) (num r.1) by rw [HF.out HE.out]; exact Rd.head HX2.out hc hkl)
    have HS2 := Lib.hid (show w.heap.size ≤ w2.drew.heap.size from b02.size)
    have LN := Lib.hid (show (num r.1).length ≤ 140737488355328 by have := num_length r.1; omega)
    go_wp2_with fail
    go_region_held3 (fun w' => True ∧ True)
      (first | exact ⟨trivial, trivial⟩)
      (first
        | (go_at_call 11; (with_reducible refine (put_nil r.1 _ hrn).mono ?_); rintro e w4 ⟨v4, rfl, hown4, hb4⟩)
        | (go_at_call 13; (with_reducible refine (equal_same v4 (.slice A r.2.1 c) (num r.1) _ _ _ _ w4 hown4.rd ((R2.out.drew).below hb4 (Nat.le_of_lt_succ (Nat.lt_succ_of_le HS2.out))) LN.out).mono ?_); rintro e w5 ⟨rfl, n5, rfl⟩))
    have bw4 : Below w.heap.size w (w4.drewN n5) := below_drewN (b02.drew.trans (hb4.mono b02.size)) n5
    obtain ⟨W, hW⟩ : ∃ W, Hid (W = w4.drewN n5) := ⟨_, Lib.hid rfl⟩
    have bW : Below w.heap.size w W := by rw [hW.out]; exact bw4
    clear bw4 hown4 hb4
    go_wp2_with fail
    have e2 := hW.out.symm
    rw [e2]
    clear e2
    have hs1 := bW.size
    go_wp2_with fail
    (with_reducible refine (CU.out W bW).mono ?_)
    rintro e w7 ⟨A7, c7, v7, rfl, hown7, hrest7, hb7⟩
    have b07 : Below w.heap.size w w7 := bW.trans (hb7.mono hs1)
    obtain ⟨A8, c8, rfl, hc8, _⟩ := hrest7.rd
    go_wp2_with fail
    (with_reducible refine (CV.out w7 b07).mono ?_)
    rintro e w8 ⟨A9, c9, v9, rfl, _, _, hb8⟩
    have b08 : Below w.heap.size w w8 := b07.trans (hb8.mono b07.size)
    by_cases hu : ux = 0
    · have hu1 : (ux != 0) = false := by simp [hu]
      obtain ⟨hfr, hle, hrl⟩ := HFR.out hu
      have hq0 : (0 : Int) ≤ (bs.length : Int) - (ur.length : Int) := by omega
      have hq1 : (bs.length : Int) - (ur.length : Int) ≤ (c : Int) := by omega
      have hq2 : ((bs.length : Int) - (ur.length : Int)).toNat = bs.length - ur.length := by omega
      have HFR2 := Lib.hid hfr
      have r7 : Rd w8 0 w8.heap.size (.slice A7 up.length c7) up := ((hown7.rd.below hb8 (Nat.le_refl _)).mono (Nat.zero_le _) hb8.size)
      have hF := Lib.hid (frame_any _ up w8 r7 (by omega))
      clear hfr r7 hrest7 hown7
      have HU0 := Lib.hid hu
      clear hu
      go_wp2_with fail
      (with_reducible refine hF.out.mono ?_)
      rintro e w9 (⟨hbig, _, _⟩ | ⟨_, v9, rfl, hown9, hb9⟩)
      · omega
      have b09 : Below w.heap.size w w9 := b08.trans (hb9.mono b08.size)
      have hx9 : RdA w9 0 w.heap.size A bs := hx.keep fun p _ hp => b09.cell hp
      have r9 : Rd w9 0 w.heap.size (.slice A (bs.length - ur.length) c) (frameOf up) := by rw [HFR2.out]; exact Rd.head hx9 hc (by omega)
      have R9 := Lib.hid r9
      have L9 := Lib.hid (show (frameOf up).length ≤ 140737488355328 by rw [HFR2.out, List.length_take]; omega)
      clear r9 hx9
      go_wp2_with fail
      (with_reducible refine (equal_same v9 (.slice A (bs.length - ur.length) c) (frameOf up) _ _ _ _ w9 hown9.rd R9.out L9.out).mono ?_)
      rintro e y1 ⟨rfl, n1, rfl⟩
      go_wp2
      go_ret
      exact ⟨rfl, below_drewN b09 _⟩
    · have hu1 : (ux != 0) = true := by simp [hu]
      have hu2 : (ux == ux) = true := by simp
      go_wp2
      go_ret
      exact ⟨rfl, b08⟩
  · have hee : (r.2.2 == 0) = false := by simp [he]
    clear HX2
    go_wp2_with fail
    go_quiet (fail)
    rename_i nq
    obtain ⟨W, hW⟩ : ∃ W, Hid (W = w2.drewN nq) := ⟨_, Lib.hid rfl⟩
    have bW : Below w.heap.size w W := by rw [hW.out]; exact below_drewN b02 _
    go_wp2_with fail
    have e2 := hW.out.symm
    rw [e2]
    clear e2
    have hs1 := bW.size
    go_wp2_with fail
    (with_reducible refine (CU.out W bW).mono ?_)
    rintro e w7 ⟨A7, c7, v7, rfl, hown7, hrest7, hb7⟩
    have b07 : Below w.heap.size w w7 := bW.trans (hb7.mono hs1)
    obtain ⟨A8, c8, rfl, hc8, _⟩ := hrest7.rd
    go_wp2_with fail
    (with_reducible refine (CV.out w7 b07).mono ?_)
    rintro e w8 ⟨A9, c9, v9, rfl, _, _, hb8⟩
    have b08 : Below w.heap.size w w8 := b07.trans (hb8.mono b07.size)
    by_cases hu : ux = 0
    · have hu1 : (ux != 0) = false := by simp [hu]
      obtain ⟨hfr, hle, hrl⟩ := HFR.out hu
      have hq0 : (0 : Int) ≤ (bs.length : Int) - (ur.length : Int) := by omega
      have hq1 : (bs.length : Int) - (ur.length : Int) ≤ (c : Int) := by omega
      have hq2 : ((bs.length : Int) - (ur.length : Int)).toNat = bs.length - ur.length := by omega
      have HFR2 := Lib.hid hfr
      have r7 : Rd w8 0 w8.heap.size (.slice A7 up.length c7) up := ((hown7.rd.below hb8 (Nat.le_refl _)).mono (Nat.zero_le _) hb8.size)
      have hF := Lib.hid (frame_any _ up w8 r7 (by omega))
      clear hfr r7 hrest7 hown7
      have HU0 := Lib.hid hu
      clear hu
      go_wp2_with fail
      (with_reducible refine hF.out.mono ?_)
      rintro e w9 (⟨hbig, _, _⟩ | ⟨_, v9, rfl, hown9, hb9⟩)
      · omega
      have b09 : Below w.heap.size w w9 := b08.trans (hb9.mono b08.size)
      have hx9 : RdA w9 0 w.heap.size A bs := hx.keep fun p _ hp => b09.cell hp
      have r9 : Rd w9 0 w.heap.size (.slice A (bs.length - ur.length) c) (frameOf up) := by rw [HFR2.out]; exact Rd.head hx9 hc (by omega)
      have R9 := Lib.hid r9
      have L9 := Lib.hid (show (frameOf up).length ≤ 140737488355328 by rw [HFR2.out, List.length_take]; omega)
      clear r9 hx9
      go_wp2_with fail
      (with_reducible refine (equal_same v9 (.slice A (bs.length - ur.length) c) (frameOf up) _ _ _ _ w9 hown9.rd R9.out L9.out).mono ?_)
      rintro e y1 ⟨rfl, n1, rfl⟩
      go_wp2
      go_ret
      exact ⟨rfl, below_drewN b09 _⟩
    · have hu1 : (ux != 0) = true := by simp [hu]
      have hu2 : (ux == ux) = true := by simp
      go_wp2
      go_ret
      exact ⟨rfl, b08⟩
end Go.Proofs.Ytnehchlfoidmdaa
