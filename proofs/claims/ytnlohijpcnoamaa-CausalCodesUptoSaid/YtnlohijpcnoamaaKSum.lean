/- The check sum: of the program and of the document's own answer: one function of lists of bytes. -/
import Derived.Test.YtnlohijpcnoamaaKPut
import Derived.Laws.BitsAllLaws
import Derived.Laws.ShiftsVarLaws
namespace Go.Proofs.Ytnlohijpcnoamaa
open Go.RowKit
open Go.Lib (byteCells byteCells_length byteCells_append strCells strCells_eq)

def crcBit (c : Nat) : Nat := if c % 2 = 1 then (c / 2) ^^^ 3988292384 else c / 2
def crcBits : Nat → Nat → Nat
  | 0, c => c
  | k + 1, c => crcBits k (crcBit c)
def crcByte (c : Nat) (b : UInt8) : Nat := crcBits 8 (c ^^^ b.toNat)
def crcAll (bs : List UInt8) : Nat := bs.foldl crcByte 4294967295
def crc (bs : List UInt8) : Nat := crcAll bs ^^^ 4294967295

theorem xor_lt32 {a b : Nat} (ha : a < 4294967296) (hb : b < 4294967296) : a ^^^ b < 4294967296 := Nat.xor_lt_two_pow (n := 32) ha hb
theorem crcBit_lt {c : Nat} (h : c < 4294967296) : crcBit c < 4294967296 := by
  unfold crcBit; split
  · exact xor_lt32 (by omega) (by omega)
  · omega
theorem crcBits_lt (k : Nat) : ∀ {c : Nat}, c < 4294967296 → crcBits k c < 4294967296 := by
  induction k with
  | zero => intro c h; exact h
  | succ k ih => intro c h; exact ih (crcBit_lt h)
theorem byte_lt (b : UInt8) : b.toNat < 256 := b.toNat_lt
theorem crcByte_lt {c : Nat} (h : c < 4294967296) (b : UInt8) : crcByte c b < 4294967296 := crcBits_lt 8 (xor_lt32 h (by have := byte_lt b; omega))
theorem crcFold_lt (bs : List UInt8) : ∀ {c : Nat}, c < 4294967296 → bs.foldl crcByte c < 4294967296 := by
  induction bs with
  | nil => intro c h; exact h
  | cons b bs ih => intro c h; exact ih (crcByte_lt h b)
theorem crcAll_lt (bs : List UInt8) : crcAll bs < 4294967296 := crcFold_lt bs (by decide)
theorem crc_lt (bs : List UInt8) : crc bs < 4294967296 := xor_lt32 (crcAll_lt bs) (by decide)
theorem crcBits_succ (k : Nat) : ∀ c, crcBits (k + 1) c = crcBit (crcBits k c) := by
  induction k with
  | zero => intro c; rfl
  | succ k ih => intro c; show crcBits (k + 1) (crcBit c) = _; rw [ih]; rfl
theorem crcAll_take (bs : List UInt8) (k : Nat) (h : k < bs.length) : crcAll (bs.take (k + 1)) = crcByte (crcAll (bs.take k)) bs[k] := by
  unfold crcAll
  rw [List.take_succ_eq_append_getElem h, List.foldl_append]; rfl

theorem crc_step (g : Nat) (h : g < 4294967296) : bits .xor .u32 ((g : Int) / 2) (3988292384 * bits .and .u32 (g : Int) 1 % 4294967296) = (crcBit g : Int) := by
  have e1 : bits .and .u32 (g : Int) 1 = ((g % 2 : Nat) : Int) := by
    have := u32_and_nat g 1 h (by decide)
    rw [nat_mask1] at this
    exact this
  rw [e1, show ((g : Int) / 2) = ((g / 2 : Nat) : Int) by omega]
  unfold crcBit
  by_cases ho : g % 2 = 1
  · rw [ho, if_pos rfl, show (3988292384 * ((1 : Nat) : Int) % 4294967296) = ((3988292384 : Nat) : Int) by decide, u32_xor_nat _ _ (by omega) (by decide)]
  · rw [show g % 2 = 0 by omega, if_neg (by decide), show (3988292384 * ((0 : Nat) : Int) % 4294967296) = ((0 : Nat) : Int) by decide, u32_xor_nat _ _ (by omega) (by decide), Nat.xor_zero]

theorem crc_end (c : Nat) (h : c < 4294967296) : wrap64 (bits .xor .u32 IntKind.u32.max (c : Int)) = ((c ^^^ 4294967295 : Nat) : Int) := by
  have e := u32_xor_nat 4294967295 c (by decide) h
  have hm : IntKind.u32.max = ((4294967295 : Nat) : Int) := by decide
  have hl := xor_lt32 h (show 4294967295 < 4294967296 by decide)
  rw [hm, e, Nat.xor_comm]
  unfold wrap64
  omega

theorem i64_xor_nat (a b : Nat) (ha : a < 9223372036854775808) (hb : b < 9223372036854775808) : bits .xor .i64 (a : Int) (b : Int) = ((a ^^^ b : Nat) : Int) := by
  have hx : a ^^^ b < 2 ^ 63 := Nat.xor_lt_two_pow (by omega) (by omega)
  show IntKind.i64.wrap ((BitVec.ofInt 64 (a : Int) ^^^ BitVec.ofInt 64 (b : Int)).toNat : Int) = _
  rw [BitVec.toNat_xor, ofInt_u64 a (by omega), ofInt_u64 b (by omega), IntKind.wrap_i64]
  omega
theorem i64_or_nat (a b : Nat) (ha : a < 9223372036854775808) (hb : b < 9223372036854775808) : bits .or .i64 (a : Int) (b : Int) = ((a ||| b : Nat) : Int) := by
  have hx : a ||| b < 2 ^ 63 := Nat.or_lt_two_pow (by omega) (by omega)
  show IntKind.i64.wrap ((BitVec.ofInt 64 (a : Int) ||| BitVec.ofInt 64 (b : Int)).toNat : Int) = _
  rw [BitVec.toNat_or, ofInt_u64 a (by omega), ofInt_u64 b (by omega), IntKind.wrap_i64]
  omega
theorem crcBit_odd {g : Nat} (h : g < 4294967296) (ho : g % 2 = 1) : bits .xor .i64 ((g : Int) / 2) 3988292384 = (crcBit g : Int) := by
  rw [show ((g : Int) / 2) = ((g / 2 : Nat) : Int) by omega, show (3988292384 : Int) = ((3988292384 : Nat) : Int) by decide, i64_xor_nat _ _ (by omega) (by decide)]
  unfold crcBit; rw [if_pos ho]
theorem crcBit_even {g : Nat} (ho : ¬ g % 2 = 1) : ((g : Int) / 2) = (crcBit g : Int) := by
  unfold crcBit; rw [if_neg ho]; omega

theorem ret_int {k : IntKind} {a b : Int} (h : a = b) : Ending.returned (.int k a) = .returned (.int k b) := by rw [h]
theorem val_int {k : IntKind} {a b : Int} (h : a = b) : Value.int k a = .int k b := by rw [h]


end Go.Proofs.Ytnlohijpcnoamaa
