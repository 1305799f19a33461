/- Uint of the document's own answer. -/
import Derived.Test.YtnehchlfoidmdaaNumber
namespace Go.Proofs.Ytnehchlfoidmdaa
open Go.RowKit
open Go.Lib (byteCells byteCells_length byteCells_append strCells strCells_eq)

theorem uintR_long (n : Nat) (x : UInt8) (l : List UInt8) (h2 : ¬ x.toNat < 128) : uintR (9 - 8) 8 n (x :: l) = (0, 0, 5) := by
  rw [uintR_more 8 n x l (by omega) h2]; rfl

theorem wrap_acc (n x m : Nat) (h1 : x % 128 * m ≤ 127 * 72057594037927936) (h2 : n < 72057594037927936) : wrap64 ((n : Int) + wrap64 ((x : Int) % 128 * (m : Int))) = ((n + x % 128 * m : Nat) : Int) := by
  have e : ((x : Int) % 128 * (m : Int)) = ((x % 128 * m : Nat) : Int) := by rw [Int.natCast_mul]; rfl
  rw [e, Int.natCast_add]
  unfold wrap64
  omega
theorem tuple3 {a b c a' b' c' : Int} (h1 : a = a') (h2 : b = b') (h3 : c = c') : Ending.returned (.tuple #[.int .i64 a, .int .i64 b, .int .i64 c]) = .returned (.tuple #[.int .i64 a', .int .i64 b', .int .i64 c']) := by rw [h1, h2, h3]

set_option maxRecDepth 100000 in
set_option maxHeartbeats 3200000 in
theorem refUint_any (v : Value) (bs : List UInt8) (lo hi : Nat) (w : World) (h : Rd w lo hi v bs) (hl : bs.length ≤ 1099511627776) :
    Calls Try.prog 32 #[v] w fun e w' => e = .returned (.tuple #[.int .i64 ((uint bs).1 : Int), .int .i64 ((uint bs).2.1 : Int), .int .i64 (uint bs).2.2]) ∧ w = w' := by
  obtain ⟨A, c, rfl, hc, hx⟩ := h
  obtain ⟨r, hr⟩ : ∃ r, Hid (r = uint bs) := ⟨_, Lib.hid rfl⟩
  rw [← hr.out]
  go_enter Try.func32, Try.ntmps32
  go_wp2
  go_loop [5, 6, 11] (fun y b i => ∃ (n m k : Nat), k ≤ 8 ∧ k ≤ bs.length ∧ i = .int .i64 (k : Int) ∧ y = .int .i64 (n : Int) ∧ b = .int .i64 (m : Int) ∧ m = 128 ^ k ∧ n < 128 ^ k ∧ uintR (9 - k) k n (bs.drop k) = r) (fun _ _ i => bs.length - (intOf i).toNat)
  case atStart => exact ⟨0, 1, 0, by omega, by omega, rfl, rfl, rfl, rfl, by omega, hr.out.symm⟩
  case round =>
    obtain ⟨n, m, k, hk, hkl, rfl, rfl, rfl, hm, hn, hun⟩ := hrel
    have hnm : n < m := by omega
    have hmb : m ≤ 72057594037927936 := by rw [hm]; exact Nat.pow_le_pow_right (n := 128) (by decide) hk
    have HM := Lib.hid hm
    have HN := Lib.hid hn
    have HU := Lib.hid hun
    clear hm hn hun
    by_cases hlt : k < bs.length
    · obtain ⟨a, rfl, ha⟩ := hx.at_ hlt
      obtain ⟨x, hxx⟩ : ∃ x, Hid (x = bs[k]) := ⟨_, Lib.hid rfl⟩
      have hdr : Hid (bs.drop k = x :: bs.drop (k + 1)) := Lib.hid (by rw [hxx.out]; exact List.drop_eq_getElem_cons hlt)
      rw [← hxx.out] at ha
      have hxb := byte_lt x
      have HR : Hid (r = uintR (9 - k) k n (x :: bs.drop (k + 1))) := by rw [← hdr.out]; exact HU.out.symm
      have hpb : x.toNat % 128 * m ≤ 127 * 72057594037927936 := Nat.mul_le_mul (by omega) hmb
      have HPB := Lib.hid hpb
      clear hpb
      have hacc := Lib.hid (wrap_acc n x.toNat m HPB.out (by omega))
      by_cases hC : x.toNat < 128
      · by_cases hA : x.toNat = 0
        · by_cases hB : 0 < k
          · have e := Lib.hid (HR.out.trans (uintR_form k n x _ (by omega) ⟨hA, hB⟩))
            have hA' : ((x.toNat : Int) == 0) = true := by simp [hA]
            have HA := Lib.hid hA
            clear HR hA
            by_cases h8 : k = 8
            · have h8' : (((k : Nat) : Int) == 8) = true := by simp [h8]
              clear h8
              go_wp2
              refine bodyPost_ret (results_tmp3 rfl _ _ _) rfl ?_
              exact ⟨by rw [e.out]; rfl, rfl⟩
            · have h8' : (((k : Nat) : Int) == 8) = false := by simp; omega
              go_wp2
              refine bodyPost_ret (results_tmp3 rfl _ _ _) rfl ?_
              exact ⟨by rw [e.out]; rfl, rfl⟩
          · have e := Lib.hid (HR.out.trans (uintR_last k n x _ (by omega) (by omega) hC))
            have hA' : ((x.toNat : Int) == 0) = true := by simp [hA]
            have h8' : (((k : Nat) : Int) == 8) = false := by simp; omega
            have HA := Lib.hid hA
            clear HR hA
            go_wp2
            refine bodyPost_ret (results_tmp3 rfl _ _ _) rfl ?_
            exact ⟨tuple3 (by rw [e.out, hacc.out, HM.out]) (by rw [e.out]; go_num) (by rw [e.out]), rfl⟩
        · have e := Lib.hid (HR.out.trans (uintR_last k n x _ (by omega) (by omega) hC))
          have hA' : ((x.toNat : Int) == 0) = false := by simp; omega
          clear HR
          by_cases h8 : k = 8
          · have h8' : (((k : Nat) : Int) == 8) = true := by simp [h8]
            clear h8
            go_wp2
            refine bodyPost_ret (results_tmp3 rfl _ _ _) rfl ?_
            exact ⟨tuple3 (by rw [e.out, hacc.out, HM.out]) (by rw [e.out]; go_num) (by rw [e.out]), rfl⟩
          · have h8' : (((k : Nat) : Int) == 8) = false := by simp; omega
            go_wp2
            refine bodyPost_ret (results_tmp3 rfl _ _ _) rfl ?_
            exact ⟨tuple3 (by rw [e.out, hacc.out, HM.out]) (by rw [e.out]; go_num) (by rw [e.out]), rfl⟩
      · by_cases h8 : k = 8
        · have e : Hid (r = (0, 0, 5)) := Lib.hid (by have e := HR.out; rw [h8] at e; exact e.trans (uintR_long n x _ hC))
          have h8' : (((k : Nat) : Int) == 8) = true := by simp [h8]
          clear h8
          clear HR
          go_wp2
          refine bodyPost_ret (results_tmp3 rfl _ _ _) rfl ?_
          exact ⟨by rw [e.out]; rfl, rfl⟩
        · have e := Lib.hid (HR.out.trans (uintR_more k n x _ (by omega) hC))
          have h8' : (((k : Nat) : Int) == 8) = false := by simp; omega
          have hm3 : k ≤ 7 := by omega
          have hm2 : m ≤ 562949953421312 := by
            have h7 : 128 ^ k ≤ 128 ^ 7 := Nat.pow_le_pow_right (by decide) hm3
            rw [HM.out]; exact h7
          have hs := Lib.hid (sum_lt n k (x.toNat % 128) HN.out (by omega))
          clear HR
          go_wp2
          go_round
          case rel => exact ⟨_, m * 128, k + 1, by omega, by omega, by go_num, val_int hacc.out, by go_num, by rw [Nat.pow_succ, HM.out], by rw [HM.out]; exact hs.out, by rw [HM.out]; exact e.out.symm⟩
          case measure => simp [intOf]; omega
    · have e2 : Hid (r = (0, 0, 2)) := Lib.hid (by rw [← HU.out, List.drop_of_length_le (by omega)]; exact uintR_nil k n (by omega))
      go_wp2
      refine bodyPost_ret (results_tmp3 rfl _ _ _) rfl ?_
      exact ⟨by rw [e2.out]; rfl, rfl⟩
end Go.Proofs.Ytnehchlfoidmdaa
