/- A frame with a byte of its payload or sum turned is none: the check sum tells any one byte. -/
import Derived.Test.YtnehchlfoidmdaaForm
namespace Go.Proofs.Ytnehchlfoidmdaa

theorem xor_back (a b : Nat) : (a ^^^ b) ^^^ b = a := by rw [Nat.xor_assoc, Nat.xor_self, Nat.xor_zero]
theorem xor_inj {a b c : Nat} (h : a ^^^ c = b ^^^ c) : a = b := by rw [← xor_back a c, h, xor_back]

theorem crcBit_big {c : Nat} (h : c < 4294967296) : (2147483648 ≤ crcBit c) ↔ c % 2 = 1 := by
  unfold crcBit
  split
  · rename_i ho
    refine ⟨fun _ => ho, fun _ => ?_⟩
    have h1 : (c / 2 ^^^ 3988292384).testBit 31 = true := by
      rw [Nat.testBit_xor, Nat.testBit_lt_two_pow (show c / 2 < 2 ^ 31 by omega)]
      decide
    exact Nat.ge_two_pow_of_testBit h1
  · omega

theorem crcBit_inj {c d : Nat} (hc : c < 4294967296) (hd : d < 4294967296) (h : crcBit c = crcBit d) : c = d := by
  have h1 := crcBit_big hc
  have h2 := crcBit_big hd
  rw [h, h2] at h1
  unfold crcBit at h
  by_cases ho : c % 2 = 1
  · rw [if_pos ho, if_pos (h1.2 ho)] at h
    have := xor_inj h
    have := h1.2 ho
    omega
  · have hd2 : ¬ d % 2 = 1 := fun e => ho (h1.1 e)
    rw [if_neg ho, if_neg hd2] at h
    omega

theorem crcBits_inj (k : Nat) : ∀ {c d : Nat}, c < 4294967296 → d < 4294967296 → crcBits k c = crcBits k d → c = d := by
  induction k with
  | zero => intro c d _ _ h; exact h
  | succ k ih => intro c d hc hd h; exact crcBit_inj hc hd (ih (crcBit_lt hc) (crcBit_lt hd) h)

theorem crcByte_inj {c d : Nat} {x : UInt8} (hc : c < 4294967296) (hd : d < 4294967296) (h : crcByte c x = crcByte d x) : c = d := by
  have hx := byte_lt x
  exact xor_inj (crcBits_inj 8 (xor_lt32 hc (by omega)) (xor_lt32 hd (by omega)) h)
theorem crcByte_byte {c : Nat} {x y : UInt8} (hc : c < 4294967296) (h : crcByte c x = crcByte c y) : x = y := by
  have hx := byte_lt x
  have hy := byte_lt y
  have h1 := crcBits_inj 8 (xor_lt32 hc (by omega)) (xor_lt32 hc (by omega)) h
  rw [Nat.xor_comm c, Nat.xor_comm c] at h1
  exact UInt8.toNat_inj.1 (xor_inj h1)
theorem crcFold_inj (bs : List UInt8) : ∀ {c d : Nat}, c < 4294967296 → d < 4294967296 → bs.foldl crcByte c = bs.foldl crcByte d → c = d := by
  induction bs with
  | nil => intro c d _ _ h; exact h
  | cons x bs ih => intro c d hc hd h; exact crcByte_inj hc hd (ih (crcByte_lt hc x) (crcByte_lt hd x) h)

theorem crc_one (a b : List UInt8) (x y : UInt8) (h : crc (a ++ x :: b) = crc (a ++ y :: b)) : x = y := by
  unfold crc at h
  have h1 := xor_inj h
  unfold crcAll at h1
  rw [List.foldl_append, List.foldl_append, List.foldl_cons, List.foldl_cons] at h1
  have hl := crcAll_lt a
  exact crcByte_byte hl (crcFold_inj b (crcByte_lt hl x) (crcByte_lt hl y) h1)

theorem sumBytes_inj {s t : Nat} (hs : s < 4294967296) (ht : t < 4294967296) (h : sumBytes s = sumBytes t) : s = t := by
  simp only [sumBytes, List.cons.injEq, ← UInt8.toNat_inj, UInt8.toNat_ofNat', and_true] at h
  omega

theorem set_parts (l : List UInt8) (j : Nat) (v : UInt8) (h : j < l.length) : l.set j v = l.take j ++ v :: l.drop (j + 1) := List.set_eq_take_append_cons_drop ▸ (by rw [if_pos h])
theorem self_parts (l : List UInt8) (j : Nat) (h : j < l.length) : l = l.take j ++ l[j] :: l.drop (j + 1) := by
  rw [List.getElem_cons_drop, List.take_append_drop]

/-- A frame with a byte of its payload or sum turned. -/
theorem turned {p : List UInt8} (hp : p.length ≤ 65536) {j : Nat} (hj : j < p.length + 4) (v : UInt8) (hv : ∀ h : (num p.length).length + j < (frameOf p).length, v ≠ (frameOf p)[(num p.length).length + j]) :
    unfr ((frameOf p).set ((num p.length).length + j) v) = (0, 0, 11) := by
  have hfl := frameOf_len p
  have hv := hv (by omega)
  have e0 : frameOf p = num p.length ++ (p ++ (sumBytes (crc p) ++ [])) := by simp [frameOf]
  have e1 : (frameOf p)[(num p.length).length + j]'(by omega) = (p ++ (sumBytes (crc p) ++ []))[j]'(by simp [sumBytes]; omega) := by
    simp only [e0]
    rw [List.getElem_append_right (by omega)]
    congr 1
    omega
  rw [e1] at hv
  have e2 : (frameOf p).set ((num p.length).length + j) v = num p.length ++ (p ++ (sumBytes (crc p) ++ [])).set j v := by
    rw [e0, List.set_append_right _ _ (by omega), Nat.add_sub_cancel_left]
  rw [e2]
  by_cases hjp : j < p.length
  · rw [List.set_append_left _ _ hjp]
    rw [List.getElem_append_left hjp] at hv
    have h := unfr_parts (p.set j v) (sumBytes (crc p)) [] (by simpa using hp) rfl
    rw [List.length_set] at h
    rw [h, if_neg]
    intro he
    have hc := sumBytes_inj (crc_lt _) (crc_lt _) he
    have s1 := set_parts p j v hjp
    have s2 := self_parts p j hjp
    rw [s1] at hc
    have hc2 : crc (p.take j ++ p[j] :: p.drop (j + 1)) = crc (p.take j ++ v :: p.drop (j + 1)) := by rw [← s2]; exact hc
    exact hv (crc_one _ _ _ _ hc2).symm
  · rw [List.set_append_right _ _ (by omega)]
    rw [List.getElem_append_right (by omega)] at hv
    have h4 : j - p.length < (sumBytes (crc p)).length := by rw [sumBytes_len]; omega
    rw [List.set_append_left _ _ h4]
    rw [List.getElem_append_left h4] at hv
    have h := unfr_parts p ((sumBytes (crc p)).set (j - p.length) v) [] hp (by simp [sumBytes])
    rw [h, if_neg]
    intro he
    have := congrArg (fun l : List UInt8 => l[j - p.length]?) he
    simp only [List.getElem?_set_self h4, List.getElem?_eq_getElem h4, Option.some.injEq] at this
    exact hv this
end Go.Proofs.Ytnehchlfoidmdaa
