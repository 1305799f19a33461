/- The cursor's frame: its contract. -/
import Derived.Test.YtnehchlfoidmdaaFrame2
import Derived.Test.YtnehchlfoidmdaaReader2
namespace Go.Proofs.Ytnehchlfoidmdaa
open Go.RowKit
open Go.Lib (byteCells byteCells_length byteCells_append strCells strCells_eq)

/-- The first frame of some bytes: where its payload begins, how many bytes it has, the error's number. -/
def unfr (bs : List UInt8) : Nat × Nat × Int :=
  if (uint bs).2.2 ≠ 0 then (0, 0, (uint bs).2.2)
  else if 65536 < (uint bs).1 then (0, 0, 4)
  else if bs.length < (uint bs).2.1 + (uint bs).1 + 4 then (0, 0, 2)
  else if (bs.drop ((uint bs).2.1 + (uint bs).1)).take 4 = sumBytes (crc ((bs.drop (uint bs).2.1).take (uint bs).1)) then ((uint bs).2.1, (uint bs).1, 0) else (0, 0, 11)

/-- What (*cursor).frame comes to, of a cursor at the beginning. -/
def FrPost (u : Nat × Nat × Int) (g o : Nat) (A : Option Addr) (c len : Nat) (w : World) (e : Ending) (w' : World) : Prop :=
  (u.2.2 = 0 ∧ ∃ A' w1, e = .returned (.slice A' u.2.1 (c - u.1)) ∧ Piece A c u.1 A' ∧ AtIs w w1 g (o + 1) ((u.1 + u.2.1 + 4 : Nat) : Int) ∧ Below w1.heap.size w1 w') ∨
  (u.2.2 ≠ 0 ∧ Gave u.2.2 e ∧ ∃ (q : Nat) (w1 : World), q ≤ len ∧ AtIs w w1 g (o + 1) (q : Int) ∧ Below w1.heap.size w1 w')

set_option maxRecDepth 100000 in
set_option maxHeartbeats 3200000 in
theorem cframe_any (g o : Nat) (A : Option Addr) (c : Nat) (bs : List UInt8) (lo hi : Nat) (w : World) (h : Cur w g o A c bs 0) (hr : RdA w lo hi A bs) (hhi : hi ≤ w.heap.size) (hg : hi ≤ g ∨ g < lo) :
    Calls Try.prog 38 #[.pointer (some ⟨g, o, none⟩)] w (FrPost (unfr bs) g o A c bs.length w) := by
  obtain ⟨r, hrr⟩ : ∃ r, Hid (r = uint bs) := ⟨_, Lib.hid rfl⟩
  obtain ⟨u, hu⟩ : ∃ u, Hid (u = unfr bs) := ⟨_, Lib.hid rfl⟩
  have hn := number_any g o A c bs 0 lo hi w h hr hg
  have hpl := uint_drop_len h.le
  rw [List.drop_zero] at hn hpl
  rw [Nat.zero_add] at hpl
  rw [← hrr.out] at hn hpl
  rw [← hu.out]
  have HN := Lib.hid hn
  have hu2 : Hid (u = if r.2.2 ≠ 0 then (0, 0, r.2.2) else if 65536 < r.1 then (0, 0, 4) else if bs.length < r.2.1 + r.1 + 4 then (0, 0, 2)
      else if (bs.drop (r.2.1 + r.1)).take 4 = sumBytes (crc ((bs.drop r.2.1).take r.1)) then (r.2.1, r.1, 0) else (0, 0, 11)) := Lib.hid (by rw [hu.out, hrr.out]; rfl)
  clear hn
  have hsm := h.small
  go_enter Try.func38, Try.ntmps38
  go_wp2_with fail
  refine HN.out.mono ?_
  rintro e w1 (⟨h0, rfl, ha⟩ | ⟨h0, rfl, q, hq, ha⟩)
  · rw [Nat.zero_add] at ha
    have hcur := h.moved ha (by omega)
    have H0 := Lib.hid h0
    have hA1 := Lib.hid ha
    have hr1 : RdA w1 lo hi A bs := hr.keep fun q h1 h2 => World.cell?_of_block (ha.block (by omega))
    clear h0 ha
    by_cases hbig : 65536 < r.1
    · have e1 : Hid (u = (0, 0, 4)) := Lib.hid (by rw [hu2.out, if_neg (by simpa using H0.out), if_pos hbig])
      go_wp2
      exact ⟨rfl, .inr ⟨by rw [e1.out]; decide, by rw [e1.out]; rfl, _, w1, by omega, hA1.out, Below.refl _ _⟩⟩
    · by_cases hn1 : r.2.1 + r.1 ≤ bs.length
      · go_wp2_with fail
        refine (take_ok g o A c bs (r.2.1) r.1 w1 hcur hn1).mono ?_
        rintro e w2 ⟨A1, rfl, hp1, hat1⟩
        have hcur2 := hcur.moved hat1 hn1
        have hr2 : RdA w2 lo hi A bs := hr1.keep fun q h1 h2 => World.cell?_of_block (hat1.block (by omega))
        by_cases hn2 : r.2.1 + r.1 + 4 ≤ bs.length
        · go_wp2_with fail
          refine (take_ok g o A c bs (r.2.1 + r.1) 4 w2 hcur2 hn2).mono ?_
          rintro e w3 ⟨A2, rfl, hp2, hat2⟩
          have hr3 : RdA w3 lo hi A bs := hr2.keep fun q h1 h2 => World.cell?_of_block (hat2.block (by omega))
          have hA3 := Lib.hid ((hA1.out.trans hat1).trans hat2)
          have hs3 := hA3.out.size
          have q1 := hp1.rd (n := r.1) hr3 h.cap
          have q2 := hp2.rd (n := 4) hr3 h.cap
          have l1 : ((bs.drop (r.2.1)).take r.1).length = r.1 := by rw [List.length_take, List.length_drop]; omega
          have l2 : ((bs.drop (r.2.1 + r.1)).take 4).length = 4 := by rw [List.length_take, List.length_drop]; omega
          obtain ⟨pl, hpl2⟩ : ∃ pl, Hid (pl = (bs.drop (r.2.1)).take r.1) := ⟨_, Lib.hid rfl⟩
          obtain ⟨sm, hsm2⟩ : ∃ sm, Hid (sm = (bs.drop (r.2.1 + r.1)).take 4) := ⟨_, Lib.hid rfl⟩
          rw [← hpl2.out] at q1 l1
          rw [← hsm2.out] at q2 l2
          have v1 : Rd w3 0 w3.heap.size (.slice A1 r.1 (c - (r.2.1))) pl := ⟨A1, _, by rw [l1], by have := h.cap; omega, q1.mono (Nat.zero_le _) (by omega)⟩
          have v2 : Rd w3 lo hi (.slice A2 4 (c - (r.2.1 + r.1))) sm := ⟨A2, _, by rw [l2], by have := h.cap; omega, q2⟩
          have V1 := Lib.hid v1
          have V2 := Lib.hid v2
          have L1 := Lib.hid l1
          have HP1 := Lib.hid hp1
          clear v1 v2 q1 q2 l1 l2 hp1 hp2 hr1 hr2 hr3 hcur hcur2 hat1 hat2
          go_wp2_with fail
          refine (sumForm_any _ pl w3 V1.out (by have := L1.out; omega)).mono ?_
          rintro e w4 ⟨v4, rfl, hown4, hb4⟩
          go_wp2_with fail
          refine (equalB_any _ v4 sm _ _ _ _ _ w4 (V2.out.below hb4 (by omega)) hown4.rd).mono ?_
          rintro e w5 ⟨rfl, n5, rfl⟩
          by_cases heq : sm = sumBytes (crc pl)
          · have hb : (sm == sumBytes (crc pl)) = true := by simp [heq]
            have e1 : Hid (u = (r.2.1, r.1, 0)) := Lib.hid (by
              have e := heq
              rw [hsm2.out, hpl2.out] at e
              rw [hu2.out, if_neg (by simpa using H0.out), if_neg hbig, if_neg (by omega), if_pos e])
            have HQ := Lib.hid heq
            clear heq
            go_wp2
            go_ret
            refine .inl ⟨by rw [e1.out], A1, w3, by rw [e1.out]; rfl, by rw [e1.out]; exact HP1.out, by rw [e1.out]; exact hA3.out, below_drewN hb4 n5⟩
          · have hb : (sm == sumBytes (crc pl)) = false := by simp [heq]
            have e1 : Hid (u = (0, 0, 11)) := Lib.hid (by
              have e := heq
              rw [hsm2.out, hpl2.out] at e
              rw [hu2.out, if_neg (by simpa using H0.out), if_neg hbig, if_neg (by omega), if_neg e])
            go_wp2
            exact ⟨rfl, .inr ⟨by rw [e1.out]; decide, by rw [e1.out]; rfl, _, w3, by omega, hA3.out, below_drewN hb4 n5⟩⟩
        · have e1 : Hid (u = (0, 0, 2)) := Lib.hid (by rw [hu2.out, if_neg (by simpa using H0.out), if_neg hbig, if_pos (by omega)])
          have hA2 := Lib.hid (hA1.out.trans hat1)
          go_wp2_with fail
          refine (take_short g o A c bs (r.2.1 + r.1) 4 w2 hcur2 (by omega)).mono ?_
          rintro e w3 ⟨rfl, j, rfl⟩
          go_wp2
          exact ⟨rfl, .inr ⟨by rw [e1.out]; decide, by rw [e1.out]; rfl, _, w2, by omega, hA2.out, below_drewN (Below.refl _ _) j⟩⟩
      · have e1 : Hid (u = (0, 0, 2)) := Lib.hid (by rw [hu2.out, if_neg (by simpa using H0.out), if_neg hbig, if_pos (by omega)])
        go_wp2_with fail
        refine (take_short g o A c bs (r.2.1) _ w1 hcur (by omega)).mono ?_
        rintro e w3 ⟨rfl, j, rfl⟩
        go_wp2
        exact ⟨rfl, .inr ⟨by rw [e1.out]; decide, by rw [e1.out]; rfl, _, w1, by omega, hA1.out, below_drewN (Below.refl _ _) j⟩⟩
  · have e1 : Hid (u = (0, 0, r.2.2)) := Lib.hid (by rw [hu2.out, if_pos h0])
    go_wp2
    exact ⟨rfl, .inr ⟨by rw [e1.out]; exact h0, by rw [e1.out]; rfl, q, w1, hq, ha, Below.refl _ _⟩⟩
end Go.Proofs.Ytnehchlfoidmdaa
