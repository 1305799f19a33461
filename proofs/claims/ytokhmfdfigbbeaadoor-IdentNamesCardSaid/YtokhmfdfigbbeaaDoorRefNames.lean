/- The document's own names and keys. -/
import Derived.Test.YtokhmfdfigbbeaaDoorNode
namespace Go.Proofs.YtokhmfdfigbbeaaDoor
open Go.RowKit
open Go.Lib (byteCells byteCells_length)

theorem dig_byte (k : Nat) (h : k < 8) : (48 + (k : Int)) = ((UInt8.ofNat (48 + k)).toNat : Int) := by
  rw [UInt8.toNat_ofNat']; omega

set_option maxRecDepth 100000 in
set_option maxHeartbeats 800000 in
theorem refName_yes (k : Nat) (h : k < 8) (w : World) :
    Calls Tryd.prog 11 #[.int .i64 k] w fun e w' => e = .returned (.tuple #[.string (nameS k), .bool true]) ∧ Below w.heap.size w w' := by
  have h1 : decide (8 ≤ (k : Int)) = false := by simp; omega
  have h2 : decide ((k : Int) < 0) = false := by simp
  have hk8 : (k : Int) < 8 := by omega
  have hcv : (convert 29 9 (.slice (some ⟨w.heap.size, 0, none⟩) 1 1)).run Tryd.prog (w.alloc (.cells #[.int .u8 (48 + (k : Int))] 5)) = .ok (.string (digS k)) (w.alloc (.cells #[.int .u8 (48 + (k : Int))] 5)) := by
    refine run_convert_bytes_back (P := Tryd.prog) _ 29 9 5 ⟨w.heap.size, 0, none⟩ 1 [UInt8.ofNat (48 + k)] Tryd.underlying29 Tryd.underlying5 Tryd.underlying9 fun j hj => ?_
    obtain rfl : j = 0 := by simp at hj; exact hj
    have e : (⟨w.heap.size, 0, none⟩ : Addr).add 0 = ⟨w.heap.size, 0, none⟩ := by unfold Addr.add; simp
    rw [e, dig_byte k h]
    exact World.cell?_alloc_at _ _ _ _ rfl
  have HD := Lib.hid (n_dig k h)
  have HB : Below w.heap.size w (w.alloc (.cells #[.int .u8 (48 + (k : Int))] 5)) := (Below.refl _ _).alloc (Nat.le_refl _) _
  clear h
  go_enter Tryd.func11, Tryd.ntmps11
  go_wp2
  go_ret2
  exact ⟨ret_str HD.out, HB⟩
theorem refName_no (k : Int) (h : k < 0 ∨ 8 ≤ k) (w : World) :
    Calls Tryd.prog 11 #[.int .i64 k] w fun e w' => e = .returned (.tuple #[.string .empty, .bool false]) ∧ Below w.heap.size w w' := by
  by_cases hk : k < 0
  · clear h
    go_enter Tryd.func11, Tryd.ntmps11
    go_wp2
    go_ret2
    exact ⟨rfl, Below.refl _ _⟩
  · have h1 : 8 ≤ k := by omega
    have h0 : 0 ≤ k := by omega
    clear h hk
    go_enter Tryd.func11, Tryd.ntmps11
    go_wp2
    go_ret2
    exact ⟨rfl, Below.refl _ _⟩

set_option maxRecDepth 100000 in
set_option maxHeartbeats 800000 in
theorem refNode_yes (k : Nat) (hk : k < 8) (w : World) :
    Calls Tryd.prog 13 #[.string (nameS k)] w fun e w' => e = .returned (.tuple #[.int .i64 k, .bool true]) ∧ Below w.heap.size w w' := by
  go_enter Tryd.func13, Tryd.ntmps13
  go_wp2
  go_loopw [4] (fun i wr => ∃ j : Nat, j ≤ k ∧ i = .int .i64 j ∧ Below w.heap.size w wr) (fun i _ => 8 - (intOf i).toNat)
  case atStart => exact ⟨0, Nat.zero_le _, rfl, Below.refl _ _⟩
  case round =>
    obtain ⟨j, hj, rfl, hb⟩ := hrel
    have HN := Lib.hid (refName_yes j (by omega) wr)
    have hj8 : j < 8 := by omega
    by_cases he : j = k
    · subst he
      go_wp2_with fail
      (with_reducible refine HN.out.mono ?_); rintro e w' ⟨rfl, hb1⟩
      go_wp2
      go_ret2
      exact ⟨rfl, hb.trans (hb1.mono hb.size)⟩
    · have hne := name_ne hj8 hk he
      have HJ : Hid (j + 1 ≤ k) := Lib.hid (by omega)
      clear he
      go_wp2_with fail
      (with_reducible refine HN.out.mono ?_); rintro e w' ⟨rfl, hb1⟩
      go_wp2
      go_roundw
      case rel => exact ⟨j + 1, HJ.out, by go_num, hb.trans (hb1.mono hb.size)⟩
      case measure => simp [intOf]; omega

set_option maxRecDepth 100000 in
set_option maxHeartbeats 800000 in
theorem refNode_no (s : ByteArray) (hs : ∀ k, k < 8 → nameS k ≠ s) (w : World) :
    Calls Tryd.prog 13 #[.string s] w fun e w' => e = .returned (.tuple #[.int .i64 0, .bool false]) ∧ Below w.heap.size w w' := by
  have HS := Lib.hid hs
  clear hs
  go_enter Tryd.func13, Tryd.ntmps13
  go_wp2
  go_loopw [4] (fun i wr => ∃ j : Nat, j ≤ 8 ∧ i = .int .i64 j ∧ Below w.heap.size w wr) (fun i _ => 8 - (intOf i).toNat)
  case atStart => exact ⟨0, Nat.zero_le _, rfl, Below.refl _ _⟩
  case round =>
    obtain ⟨j, hj, rfl, hb⟩ := hrel
    by_cases hlt : j < 8
    · have HN := Lib.hid (refName_yes j hlt wr)
      have hne := str_ne (HS.out j hlt)
      go_wp2_with fail
      (with_reducible refine HN.out.mono ?_); rintro e w' ⟨rfl, hb1⟩
      go_wp2
      go_roundw
      case rel => exact ⟨j + 1, by omega, by go_num, hb.trans (hb1.mono hb.size)⟩
      case measure => simp [intOf]; omega
    · obtain rfl : j = 8 := by omega
      go_wp2
      go_ret2
      exact ⟨rfl, hb⟩

theorem canS_not {l : List UInt8} (h : okAll l = false) : canS l = false := by unfold canS; rw [h]; simp
theorem canS_len {l : List UInt8} (h : okAll l = true) : canS l = (decide (1 ≤ l.length) && decide (l.length ≤ 32)) := by unfold canS; rw [h]; simp

theorem classes (c : Int) : (97 ≤ c ∧ c ≤ 122) ∨ (65 ≤ c ∧ c ≤ 90) ∨ (48 ≤ c ∧ c ≤ 57) ∨ (c = 46) ∨ (c = 45) ∨ (c = 95) ∨ (c < 45) ∨ (46 < c ∧ c < 48) ∨ (57 < c ∧ c < 65) ∨ (90 < c ∧ c < 95) ∨ (95 < c ∧ c < 97) ∨ (122 < c) := by omega

set_option maxRecDepth 100000 in
set_option maxHeartbeats 3200000 in
theorem refIsKey_any (s : ByteArray) (hs : s.size ≤ 9223372036854775807) (w : World) :
    Calls Tryd.prog 15 #[.string s] w fun e w' => e = .returned (.bool (canS s.data.toList)) ∧ w = w' := by
  go_enter Tryd.func15, Tryd.ntmps15
  go_wp2
  go_loop [3] (fun i => ∃ k : Nat, k ≤ s.size ∧ i = .int .i64 k ∧ okAll (s.data.toList.take k) = true) (fun i => s.size - (intOf i).toNat)
  case atStart => exact ⟨0, Nat.zero_le _, rfl, rfl⟩
  case round =>
    obtain ⟨k, hk, rfl, hok⟩ := hrel
    have HOK := Lib.hid hok
    clear hok
    by_cases hlt : k < s.size
    · have hlt' : k < s.data.toList.length := by rw [slen]; exact hlt
      have hg : s.data.toList[k] = s[k] := by simp [ByteArray.getElem_eq_getElem_data]
      have HG := Lib.hid hg
      have hby := s[k].toNat_lt
      clear hg
      rcases classes (s[k].toNat : Int) with ⟨q1, q2⟩ | ⟨q1, q2⟩ | ⟨q1, q2⟩ | q1 | q1 | q1 | q1 | ⟨q1, q2⟩ | ⟨q1, q2⟩ | ⟨q1, q2⟩ | ⟨q1, q2⟩ | q1
      · have HB : Hid (okB (s.data.toList[k]).toNat = true) := Lib.hid (by rw [HG.out]; simp [okB]; omega)
        go_wp2
        go_round
        case rel => exact ⟨k + 1, by omega, by go_num, okAll_take hlt' HOK.out HB.out⟩
        case measure => simp [intOf]; omega
      · have HB : Hid (okB (s.data.toList[k]).toNat = true) := Lib.hid (by rw [HG.out]; simp [okB]; omega)
        go_wp2
        go_round
        case rel => exact ⟨k + 1, by omega, by go_num, okAll_take hlt' HOK.out HB.out⟩
        case measure => simp [intOf]; omega
      · have HB : Hid (okB (s.data.toList[k]).toNat = true) := Lib.hid (by rw [HG.out]; simp [okB]; omega)
        go_wp2
        go_round
        case rel => exact ⟨k + 1, by omega, by go_num, okAll_take hlt' HOK.out HB.out⟩
        case measure => simp [intOf]; omega
      · have HB : Hid (okB (s.data.toList[k]).toNat = true) := Lib.hid (by rw [HG.out]; simp [okB]; omega)
        have b46 : ((s[k].toNat : Int) != 46) = false := by rw [q1]; rfl
        have q2 : 46 ≤ (s[k].toNat : Int) ∧ (s[k].toNat : Int) ≤ 46 := by omega
        obtain ⟨q3, q4⟩ := q2
        clear q1
        go_wp2
        go_round
        case rel => exact ⟨k + 1, by omega, by go_num, okAll_take hlt' HOK.out HB.out⟩
        case measure => simp [intOf]; omega
      · have HB : Hid (okB (s.data.toList[k]).toNat = true) := Lib.hid (by rw [HG.out]; simp [okB]; omega)
        have b46 : ((s[k].toNat : Int) != 46) = true := by rw [bne_iff_ne]; omega
        have b45 : ((s[k].toNat : Int) != 45) = false := by rw [q1]; rfl
        have q2 : 45 ≤ (s[k].toNat : Int) ∧ (s[k].toNat : Int) ≤ 45 := by omega
        obtain ⟨q3, q4⟩ := q2
        clear q1
        go_wp2
        go_round
        case rel => exact ⟨k + 1, by omega, by go_num, okAll_take hlt' HOK.out HB.out⟩
        case measure => simp [intOf]; omega
      · have HB : Hid (okB (s.data.toList[k]).toNat = true) := Lib.hid (by rw [HG.out]; simp [okB]; omega)
        have b46 : ((s[k].toNat : Int) != 46) = true := by rw [bne_iff_ne]; omega
        have b45 : ((s[k].toNat : Int) != 45) = true := by rw [bne_iff_ne]; omega
        have b95 : ((s[k].toNat : Int) != 95) = false := by rw [q1]; rfl
        have q2 : 95 ≤ (s[k].toNat : Int) ∧ (s[k].toNat : Int) ≤ 95 := by omega
        obtain ⟨q3, q4⟩ := q2
        clear q1
        go_wp2
        go_round
        case rel => exact ⟨k + 1, by omega, by go_num, okAll_take hlt' HOK.out HB.out⟩
        case measure => simp [intOf]; omega
      · have HB : Hid (okB (s.data.toList[k]).toNat = false) := Lib.hid (by rw [HG.out]; simp [okB]; omega)
        have b46 : ((s[k].toNat : Int) != 46) = true := by rw [bne_iff_ne]; omega
        have b45 : ((s[k].toNat : Int) != 45) = true := by rw [bne_iff_ne]; omega
        have b95 : ((s[k].toNat : Int) != 95) = true := by rw [bne_iff_ne]; omega
        have c97 : decide (97 ≤ (s[k].toNat : Int)) = false := by rw [decide_eq_false_iff_not]; omega
        have c65 : decide (65 ≤ (s[k].toNat : Int)) = false := by rw [decide_eq_false_iff_not]; omega
        have c48 : decide (48 ≤ (s[k].toNat : Int)) = false := by rw [decide_eq_false_iff_not]; omega
        have c122 : decide ((s[k].toNat : Int) ≤ 122) = true := by rw [decide_eq_true_eq]; omega
        have c90 : decide ((s[k].toNat : Int) ≤ 90) = true := by rw [decide_eq_true_eq]; omega
        have c57 : decide ((s[k].toNat : Int) ≤ 57) = true := by rw [decide_eq_true_eq]; omega
        go_wp2
        go_ret
        exact ⟨ret_bool (canS_not (okAll_not hlt' HB.out)).symm, rfl⟩
      · have HB : Hid (okB (s.data.toList[k]).toNat = false) := Lib.hid (by rw [HG.out]; simp [okB]; omega)
        have b46 : ((s[k].toNat : Int) != 46) = true := by rw [bne_iff_ne]; omega
        have b45 : ((s[k].toNat : Int) != 45) = true := by rw [bne_iff_ne]; omega
        have b95 : ((s[k].toNat : Int) != 95) = true := by rw [bne_iff_ne]; omega
        have c97 : decide (97 ≤ (s[k].toNat : Int)) = false := by rw [decide_eq_false_iff_not]; omega
        have c65 : decide (65 ≤ (s[k].toNat : Int)) = false := by rw [decide_eq_false_iff_not]; omega
        have c48 : decide (48 ≤ (s[k].toNat : Int)) = false := by rw [decide_eq_false_iff_not]; omega
        have c122 : decide ((s[k].toNat : Int) ≤ 122) = true := by rw [decide_eq_true_eq]; omega
        have c90 : decide ((s[k].toNat : Int) ≤ 90) = true := by rw [decide_eq_true_eq]; omega
        have c57 : decide ((s[k].toNat : Int) ≤ 57) = true := by rw [decide_eq_true_eq]; omega
        go_wp2
        go_ret
        exact ⟨ret_bool (canS_not (okAll_not hlt' HB.out)).symm, rfl⟩
      · have HB : Hid (okB (s.data.toList[k]).toNat = false) := Lib.hid (by rw [HG.out]; simp [okB]; omega)
        have b46 : ((s[k].toNat : Int) != 46) = true := by rw [bne_iff_ne]; omega
        have b45 : ((s[k].toNat : Int) != 45) = true := by rw [bne_iff_ne]; omega
        have b95 : ((s[k].toNat : Int) != 95) = true := by rw [bne_iff_ne]; omega
        have c97 : decide (97 ≤ (s[k].toNat : Int)) = false := by rw [decide_eq_false_iff_not]; omega
        have c65 : decide (65 ≤ (s[k].toNat : Int)) = false := by rw [decide_eq_false_iff_not]; omega
        have c48 : decide (48 ≤ (s[k].toNat : Int)) = true := by rw [decide_eq_true_eq]; omega
        have c122 : decide ((s[k].toNat : Int) ≤ 122) = true := by rw [decide_eq_true_eq]; omega
        have c90 : decide ((s[k].toNat : Int) ≤ 90) = true := by rw [decide_eq_true_eq]; omega
        have c57 : decide ((s[k].toNat : Int) ≤ 57) = false := by rw [decide_eq_false_iff_not]; omega
        go_wp2
        go_ret
        exact ⟨ret_bool (canS_not (okAll_not hlt' HB.out)).symm, rfl⟩
      · have HB : Hid (okB (s.data.toList[k]).toNat = false) := Lib.hid (by rw [HG.out]; simp [okB]; omega)
        have b46 : ((s[k].toNat : Int) != 46) = true := by rw [bne_iff_ne]; omega
        have b45 : ((s[k].toNat : Int) != 45) = true := by rw [bne_iff_ne]; omega
        have b95 : ((s[k].toNat : Int) != 95) = true := by rw [bne_iff_ne]; omega
        have c97 : decide (97 ≤ (s[k].toNat : Int)) = false := by rw [decide_eq_false_iff_not]; omega
        have c65 : decide (65 ≤ (s[k].toNat : Int)) = true := by rw [decide_eq_true_eq]; omega
        have c48 : decide (48 ≤ (s[k].toNat : Int)) = true := by rw [decide_eq_true_eq]; omega
        have c122 : decide ((s[k].toNat : Int) ≤ 122) = true := by rw [decide_eq_true_eq]; omega
        have c90 : decide ((s[k].toNat : Int) ≤ 90) = false := by rw [decide_eq_false_iff_not]; omega
        have c57 : decide ((s[k].toNat : Int) ≤ 57) = false := by rw [decide_eq_false_iff_not]; omega
        go_wp2
        go_ret
        exact ⟨ret_bool (canS_not (okAll_not hlt' HB.out)).symm, rfl⟩
      · have HB : Hid (okB (s.data.toList[k]).toNat = false) := Lib.hid (by rw [HG.out]; simp [okB]; omega)
        have b46 : ((s[k].toNat : Int) != 46) = true := by rw [bne_iff_ne]; omega
        have b45 : ((s[k].toNat : Int) != 45) = true := by rw [bne_iff_ne]; omega
        have b95 : ((s[k].toNat : Int) != 95) = true := by rw [bne_iff_ne]; omega
        have c97 : decide (97 ≤ (s[k].toNat : Int)) = false := by rw [decide_eq_false_iff_not]; omega
        have c65 : decide (65 ≤ (s[k].toNat : Int)) = true := by rw [decide_eq_true_eq]; omega
        have c48 : decide (48 ≤ (s[k].toNat : Int)) = true := by rw [decide_eq_true_eq]; omega
        have c122 : decide ((s[k].toNat : Int) ≤ 122) = true := by rw [decide_eq_true_eq]; omega
        have c90 : decide ((s[k].toNat : Int) ≤ 90) = false := by rw [decide_eq_false_iff_not]; omega
        have c57 : decide ((s[k].toNat : Int) ≤ 57) = false := by rw [decide_eq_false_iff_not]; omega
        go_wp2
        go_ret
        exact ⟨ret_bool (canS_not (okAll_not hlt' HB.out)).symm, rfl⟩
      · have HB : Hid (okB (s.data.toList[k]).toNat = false) := Lib.hid (by rw [HG.out]; simp [okB]; omega)
        have b46 : ((s[k].toNat : Int) != 46) = true := by rw [bne_iff_ne]; omega
        have b45 : ((s[k].toNat : Int) != 45) = true := by rw [bne_iff_ne]; omega
        have b95 : ((s[k].toNat : Int) != 95) = true := by rw [bne_iff_ne]; omega
        have c97 : decide (97 ≤ (s[k].toNat : Int)) = true := by rw [decide_eq_true_eq]; omega
        have c65 : decide (65 ≤ (s[k].toNat : Int)) = true := by rw [decide_eq_true_eq]; omega
        have c48 : decide (48 ≤ (s[k].toNat : Int)) = true := by rw [decide_eq_true_eq]; omega
        have c122 : decide ((s[k].toNat : Int) ≤ 122) = false := by rw [decide_eq_false_iff_not]; omega
        have c90 : decide ((s[k].toNat : Int) ≤ 90) = false := by rw [decide_eq_false_iff_not]; omega
        have c57 : decide ((s[k].toNat : Int) ≤ 57) = false := by rw [decide_eq_false_iff_not]; omega
        go_wp2
        go_ret
        exact ⟨ret_bool (canS_not (okAll_not hlt' HB.out)).symm, rfl⟩
    · obtain rfl : k = s.size := by omega
      have hc : canS s.data.toList = (decide (1 ≤ s.size) && decide (s.size ≤ 32)) := by
        have := HOK.out
        rw [List.take_of_length_le (by rw [slen]; exact Nat.le_refl _)] at this
        rw [canS_len this, slen]
      have HC := Lib.hid hc
      clear hc
      by_cases h1 : 1 ≤ s.size
      · by_cases h2 : s.size ≤ 32
        · have d1 : decide (1 ≤ (s.size : Int)) = true := by simp; omega
          have d2 : decide ((s.size : Int) ≤ 32) = true := by simp; omega
          go_wp2
          go_ret
          exact ⟨ret_bool (by rw [HC.out]; simp; omega), rfl⟩
        · have d1 : decide (1 ≤ (s.size : Int)) = true := by simp; omega
          have d2 : decide ((s.size : Int) ≤ 32) = false := by simp; omega
          go_wp2
          go_ret
          exact ⟨ret_bool (by rw [HC.out]; simp; omega), rfl⟩
      · have d1 : decide (1 ≤ (s.size : Int)) = false := by simp; omega
        go_wp2
        go_ret
        exact ⟨ret_bool (by rw [HC.out]; simp; omega), rfl⟩
end Go.Proofs.YtokhmfdfigbbeaaDoor
