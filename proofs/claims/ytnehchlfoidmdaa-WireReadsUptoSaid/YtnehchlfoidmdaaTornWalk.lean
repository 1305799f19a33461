/- The walk of WireTorn. -/
import Derived.Test.YtnehchlfoidmdaaFormWalk
import Derived.Test.YtnehchlfoidmdaaTurn
namespace Go.Proofs.Ytnehchlfoidmdaa
open Go.RowKit
open Go.Lib (byteCells byteCells_length byteCells_append strCells strCells_eq)

theorem u64_range (k : Int) : 0 ≤ IntKind.u64.wrap k ∧ IntKind.u64.wrap k < 18446744073709551616 := by rw [IntKind.wrap_u64]; omega
theorem mod_nat (k : Int) (n : Nat) (h0 : 0 < n) (h1 : n ≤ 4611686018427387904) : ∃ i : Nat, i < n ∧ wrap64 ((IntKind.u64.wrap k).tmod (n : Int)) = (i : Int) := by
  obtain ⟨a, b⟩ := u64_range k
  have e : (IntKind.u64.wrap k).tmod (n : Int) = (IntKind.u64.wrap k) % (n : Int) := Int.tmod_eq_emod_of_nonneg a
  have h2 := Int.emod_nonneg (IntKind.u64.wrap k) (show (n : Int) ≠ 0 by omega)
  have h3 := Int.emod_lt_of_pos (IntKind.u64.wrap k) (show 0 < (n : Int) by omega)
  refine ⟨((IntKind.u64.wrap k) % (n : Int)).toNat, by omega, ?_⟩
  rw [e]
  unfold wrap64
  omega

theorem turn_byte (x : Int) : ∃ b : UInt8, b ≠ 0 ∧ IntKind.u64.wrap (1 + (IntKind.u64.wrap x).tmod 255) % 256 = (b.toNat : Int) := by
  obtain ⟨h1, h2⟩ := u64_range x
  have e : (IntKind.u64.wrap x).tmod 255 = (IntKind.u64.wrap x) % 255 := Int.tmod_eq_emod_of_nonneg h1
  have h3 : 0 ≤ (IntKind.u64.wrap x) % 255 ∧ (IntKind.u64.wrap x) % 255 < 255 := ⟨Int.emod_nonneg _ (by decide), Int.emod_lt_of_pos _ (by decide)⟩
  obtain ⟨m, hm⟩ : ∃ m : Nat, (IntKind.u64.wrap x) % 255 = (m : Int) := ⟨((IntKind.u64.wrap x) % 255).toNat, by omega⟩
  refine ⟨UInt8.ofNat (1 + m), fun h => ?_, ?_⟩
  · have := congrArg UInt8.toNat h
    rw [UInt8.toNat_ofNat'] at this
    simp at this
    omega
  · rw [e, hm, UInt8.toNat_ofNat', IntKind.wrap_u64]
    omega
theorem xor_ne (y b : UInt8) (h : b ≠ 0) : y ^^^ b ≠ y := by
  intro e
  have h1 := congrArg UInt8.toNat e
  rw [UInt8.toNat_xor] at h1
  have h2 : y.toNat ^^^ (y.toNat ^^^ b.toNat) = y.toNat ^^^ y.toNat := by rw [h1]
  rw [← Nat.xor_assoc, Nat.xor_self, Nat.zero_xor] at h2
  exact h (UInt8.toNat_inj.1 h2)

set_option maxRecDepth 100000 in
set_option maxHeartbeats 4000000 in
theorem torn_walk (v : Value) (bs : List UInt8) (k x : Int) (w : World) (h : Rd w 0 w.heap.size v bs) (hl : bs.length ≤ 1099511627776) :
    Calls Try.prog 8 #[v, .int .i64 k, .int .i64 x] w fun e w' => e = .returned (.bool true) ∧ Below w.heap.size w w' := by
  have h0 := h
  obtain ⟨A, c, rfl, hc, hxr⟩ := h
  have hF := Lib.hid (frame_any _ bs w h0 hl)
  by_cases hbig : 65536 < bs.length
  · go_enter Try.func8, Try.ntmps8
    go_wp2_with fail
    refine hF.out.mono ?_
    rintro e w1 (⟨_, rfl, hb⟩ | ⟨hs, _⟩)
    · go_wp2
      go_ret
      exact ⟨rfl, hb⟩
    · omega
  · have hfl := frameOf_len bs
    have hnp := num_pos bs.length
    have hnl := num_length bs.length
    obtain ⟨fr, hfr⟩ : ∃ fr, Hid (fr = frameOf bs) := ⟨_, Lib.hid rfl⟩
    rw [← hfr.out] at hfl
    have hf1 : bs.length + 5 ≤ fr.length := by omega
    have hf2 : fr.length ≤ bs.length + 13 := by omega
    have HFL := Lib.hid hfl
    clear hfl
    obtain ⟨i, hi1, hi2⟩ := mod_nat k fr.length (by omega) (by omega)
    obtain ⟨j, hj1, hj2⟩ := mod_nat k (bs.length + 4) (by omega) (by omega)
    have hj3 : wrap64 ((IntKind.u64.wrap k).tmod ((bs.length : Int) + 4)) = (j : Int) := hj2
    clear hj2
    go_enter Try.func8, Try.ntmps8
    go_wp2_with fail
    refine hF.out.mono ?_
    rintro e w1 (⟨hs, _, _⟩ | ⟨_, v1, rfl, hown1, hb1⟩)
    · omega
    rw [← hfr.out] at hown1
    obtain ⟨A1, c1, rfl, hc1, hx1'⟩ := hown1.rd
    have hic : (i : Int) ≤ (c1 : Int) := by omega
    have ht : (unfr (fr.take i)).2.2 ≠ 0 := by rw [hfr.out]; exact torn (by omega) (by rw [← hfr.out]; exact hi1)
    obtain ⟨ux, hux⟩ : ∃ ux, Hid (ux = (unfr (fr.take i)).2.2) := ⟨_, Lib.hid rfl⟩
    have r1 : Rd w1 0 w1.heap.size (.slice A1 i c1) (fr.take i) := (Rd.head hx1' hc1 (by omega)).mono (Nat.zero_le _) (Nat.le_refl _)
    have hU := Lib.hid (unframe_any _ _ w1 r1 (by rw [List.length_take]; omega))
    go_wp2_with fail
    (with_reducible refine hU.out.mono ?_)
    rintro e w2 (⟨_, rfl, hb2⟩ | ⟨hz, _⟩)
    rotate_left
    · exact absurd hz ht
    rw [← hux.out] at ht ⊢
    have hne : (ux == 0) = false := by simp [ht]
    clear ht r1
    have hown2 := hown1.below hb2
    have b02 := hb1.trans (hb2.mono hb1.size)
    go_wp2_with fail
    refine (clone_any _ fr w2 (hown2.rd.mono (Nat.zero_le _) (Nat.le_refl _)) (by omega)).mono ?_
    rintro e w3 ⟨v3, rfl, hown3, hb3⟩
    have b03 := b02.trans (hb3.mono b02.size)
    obtain ⟨g, c3, rfl, hg1, hg2⟩ := World.ownsRow.form hown3 (by omega)
    obtain ⟨q, hq⟩ : ∃ q, Hid (q = fr.length - bs.length - 4 + j) := ⟨_, Lib.hid rfl⟩
    have hq1 : q < fr.length := by rw [hq.out]; omega
    have hq2 : (fr.length : Int) - (bs.length : Int) - 4 + (j : Int) = (q : Int) := by rw [hq.out]; omega
    obtain ⟨ha, hf⟩ := Own.byte hown3 hq1
    have hq3 : (0 : Int) ≤ (q : Int) := Int.natCast_nonneg _
    have hq4 : (q : Int) < (fr.length : Int) := by omega
    obtain ⟨y, hy⟩ : ∃ y, Hid (y = fr[q]) := ⟨_, Lib.hid rfl⟩
    rw [← hy.out] at ha
    obtain ⟨b, hb0, hb⟩ := turn_byte x
    have HB := Lib.hid hb
    have hset := fun (z : Int) (hz : z = ((y ^^^ b).toNat : Int)) => hown3.set_ q hz
    have HT : Hid (unfr (fr.set q (y ^^^ b)) = (0, 0, 11)) := Lib.hid (by
      have e : q = (num bs.length).length + j := by rw [hq.out, HFL.out]; omega
      have hne := xor_ne y b hb0
      rw [hy.out] at hne
      rw [e]
      have := turned (p := bs) (by omega) hj1 (fr[q] ^^^ b) (fun h => by
        have e2 : (frameOf bs)[(num bs.length).length + j] = fr[q] := by
          simp only [← hfr.out]; congr 1; exact e.symm
        rw [e2]; exact hne)
      rw [← hfr.out] at this
      rw [hy.out]
      exact this)
    have HS := Lib.hid hset
    have hlen : (fr.set q (y ^^^ b)).length = fr.length := List.length_set
    have HLN := Lib.hid hlen
    clear hb hset hlen
    go_wp2_with fail
    have hval : bits .xor .u8 (y.toNat : Int) (IntKind.u64.wrap (1 + (IntKind.u64.wrap x).tmod 255) % 256) = ((y ^^^ b).toNat : Int) := by rw [HB.out]; exact xor_byte y b
    have hown4 := HS.out _ hval
    obtain ⟨w4, hw4⟩ : ∃ w4, Hid (w4 = w3.setCell ⟨g, q, none⟩ (.int .u8 (bits .xor .u8 (y.toNat : Int) (IntKind.u64.wrap (1 + (IntKind.u64.wrap x).tmod 255) % 256)))) := ⟨_, Lib.hid rfl⟩
    rw [← hw4.out] at hown4 ⊢
    have b04 : Below w.heap.size w w4 := by rw [hw4.out]; exact b03.setCell (by simp; exact Nat.le_trans b02.size hg1) _
    have r4 : Rd w4 0 w4.heap.size (.slice (some ⟨g, 0, none⟩) fr.length c3) (fr.set q (y ^^^ b)) := hown4.rd.mono (Nat.zero_le _) (Nat.le_refl _)
    have hU2 := Lib.hid (unframe_any _ _ w4 r4 (by rw [HLN.out]; omega))
    (with_reducible refine hU2.out.mono ?_)
    rintro e w5 (⟨_, rfl, hb5⟩ | ⟨hz, _⟩)
    · rw [HT.out]
      go_wp2
      go_ret
      exact ⟨rfl, b04.trans (hb5.mono b04.size)⟩
    · rw [HT.out] at hz
      exact absurd hz (by decide)
end Go.Proofs.Ytnehchlfoidmdaa
