/- Two numbers in one hash: the program's. -/
import Derived.Test.YtmgobekdlgogmaaDoorHashes
namespace Go.Proofs.YtmgobekdlgogmaaDoor
open Go.RowKit
open Go.Lib (byteCells byteCells_length)

/-- The sixteen cells, so many rounds on. -/
def mixRow (x y : Int) : Nat → Array Value
  | 0 => #[.int .u8 0, .int .u8 0, .int .u8 0, .int .u8 0, .int .u8 0, .int .u8 0, .int .u8 0, .int .u8 0, .int .u8 0, .int .u8 0, .int .u8 0, .int .u8 0, .int .u8 0, .int .u8 0, .int .u8 0, .int .u8 0]
  | 1 => #[.int .u8 (x / 72057594037927936), .int .u8 0, .int .u8 0, .int .u8 0, .int .u8 0, .int .u8 0, .int .u8 0, .int .u8 0, .int .u8 (y / 72057594037927936), .int .u8 0, .int .u8 0, .int .u8 0, .int .u8 0, .int .u8 0, .int .u8 0, .int .u8 0]
  | 2 => #[.int .u8 (x / 72057594037927936), .int .u8 (IntKind.u8.wrap (x / 281474976710656)), .int .u8 0, .int .u8 0, .int .u8 0, .int .u8 0, .int .u8 0, .int .u8 0, .int .u8 (y / 72057594037927936), .int .u8 (IntKind.u8.wrap (y / 281474976710656)), .int .u8 0, .int .u8 0, .int .u8 0, .int .u8 0, .int .u8 0, .int .u8 0]
  | 3 => #[.int .u8 (x / 72057594037927936), .int .u8 (IntKind.u8.wrap (x / 281474976710656)), .int .u8 (IntKind.u8.wrap (x / 1099511627776)), .int .u8 0, .int .u8 0, .int .u8 0, .int .u8 0, .int .u8 0, .int .u8 (y / 72057594037927936), .int .u8 (IntKind.u8.wrap (y / 281474976710656)), .int .u8 (IntKind.u8.wrap (y / 1099511627776)), .int .u8 0, .int .u8 0, .int .u8 0, .int .u8 0, .int .u8 0]
  | 4 => #[.int .u8 (x / 72057594037927936), .int .u8 (IntKind.u8.wrap (x / 281474976710656)), .int .u8 (IntKind.u8.wrap (x / 1099511627776)), .int .u8 (IntKind.u8.wrap (x / 4294967296)), .int .u8 0, .int .u8 0, .int .u8 0, .int .u8 0, .int .u8 (y / 72057594037927936), .int .u8 (IntKind.u8.wrap (y / 281474976710656)), .int .u8 (IntKind.u8.wrap (y / 1099511627776)), .int .u8 (IntKind.u8.wrap (y / 4294967296)), .int .u8 0, .int .u8 0, .int .u8 0, .int .u8 0]
  | 5 => #[.int .u8 (x / 72057594037927936), .int .u8 (IntKind.u8.wrap (x / 281474976710656)), .int .u8 (IntKind.u8.wrap (x / 1099511627776)), .int .u8 (IntKind.u8.wrap (x / 4294967296)), .int .u8 (IntKind.u8.wrap (x / 16777216)), .int .u8 0, .int .u8 0, .int .u8 0, .int .u8 (y / 72057594037927936), .int .u8 (IntKind.u8.wrap (y / 281474976710656)), .int .u8 (IntKind.u8.wrap (y / 1099511627776)), .int .u8 (IntKind.u8.wrap (y / 4294967296)), .int .u8 (IntKind.u8.wrap (y / 16777216)), .int .u8 0, .int .u8 0, .int .u8 0]
  | 6 => #[.int .u8 (x / 72057594037927936), .int .u8 (IntKind.u8.wrap (x / 281474976710656)), .int .u8 (IntKind.u8.wrap (x / 1099511627776)), .int .u8 (IntKind.u8.wrap (x / 4294967296)), .int .u8 (IntKind.u8.wrap (x / 16777216)), .int .u8 (IntKind.u8.wrap (x / 65536)), .int .u8 0, .int .u8 0, .int .u8 (y / 72057594037927936), .int .u8 (IntKind.u8.wrap (y / 281474976710656)), .int .u8 (IntKind.u8.wrap (y / 1099511627776)), .int .u8 (IntKind.u8.wrap (y / 4294967296)), .int .u8 (IntKind.u8.wrap (y / 16777216)), .int .u8 (IntKind.u8.wrap (y / 65536)), .int .u8 0, .int .u8 0]
  | 7 => #[.int .u8 (x / 72057594037927936), .int .u8 (IntKind.u8.wrap (x / 281474976710656)), .int .u8 (IntKind.u8.wrap (x / 1099511627776)), .int .u8 (IntKind.u8.wrap (x / 4294967296)), .int .u8 (IntKind.u8.wrap (x / 16777216)), .int .u8 (IntKind.u8.wrap (x / 65536)), .int .u8 (IntKind.u8.wrap (x / 256)), .int .u8 0, .int .u8 (y / 72057594037927936), .int .u8 (IntKind.u8.wrap (y / 281474976710656)), .int .u8 (IntKind.u8.wrap (y / 1099511627776)), .int .u8 (IntKind.u8.wrap (y / 4294967296)), .int .u8 (IntKind.u8.wrap (y / 16777216)), .int .u8 (IntKind.u8.wrap (y / 65536)), .int .u8 (IntKind.u8.wrap (y / 256)), .int .u8 0]
  | _ => #[.int .u8 (x / 72057594037927936), .int .u8 (IntKind.u8.wrap (x / 281474976710656)), .int .u8 (IntKind.u8.wrap (x / 1099511627776)), .int .u8 (IntKind.u8.wrap (x / 4294967296)), .int .u8 (IntKind.u8.wrap (x / 16777216)), .int .u8 (IntKind.u8.wrap (x / 65536)), .int .u8 (IntKind.u8.wrap (x / 256)), .int .u8 (IntKind.u8.wrap x), .int .u8 (y / 72057594037927936), .int .u8 (IntKind.u8.wrap (y / 281474976710656)), .int .u8 (IntKind.u8.wrap (y / 1099511627776)), .int .u8 (IntKind.u8.wrap (y / 4294967296)), .int .u8 (IntKind.u8.wrap (y / 16777216)), .int .u8 (IntKind.u8.wrap (y / 65536)), .int .u8 (IntKind.u8.wrap (y / 256)), .int .u8 (IntKind.u8.wrap y)]

theorem u8_byte (x : Int) (n : Nat) (d : Nat) (hx : x = (n : Int)) : IntKind.u8.wrap (x / (d : Int)) = ((UInt8.ofNat (n / d)).toNat : Int) := by
  subst hx
  rw [IntKind.wrap_u8', UInt8.toNat_ofNat', ← Int.natCast_ediv]
  generalize n / d = m
  omega
theorem u8_byte0 (x : Int) (n : Nat) (hx : x = (n : Int)) (hn : n ≤ 18446744073709551615) : x / 72057594037927936 = ((UInt8.ofNat (n / 72057594037927936)).toNat : Int) := by
  subst hx
  rw [UInt8.toNat_ofNat']
  omega
theorem u8_byte7 (x : Int) (n : Nat) (hx : x = (n : Int)) : IntKind.u8.wrap x = ((UInt8.ofNat n).toNat : Int) := by
  subst hx
  rw [IntKind.wrap_u8', UInt8.toNat_ofNat']
  omega
theorem mixRow_8 (x y : Nat) (hx : x ≤ 18446744073709551615) (hy : y ≤ 18446744073709551615) : (mixRow x y 8).toList = byteCells (eight x ++ eight y) := by
  simp only [mixRow, eight, byteCells, List.cons_append, List.nil_append, List.map_cons, List.map_nil]
  rw [u8_byte0 x x rfl hx, u8_byte0 y y rfl hy, u8_byte7 x x rfl, u8_byte7 y y rfl]
  rw [show IntKind.u8.wrap ((x : Int) / 281474976710656) = ((UInt8.ofNat (x / 281474976710656)).toNat : Int) from u8_byte x x 281474976710656 rfl]
  rw [show IntKind.u8.wrap ((x : Int) / 1099511627776) = ((UInt8.ofNat (x / 1099511627776)).toNat : Int) from u8_byte x x 1099511627776 rfl]
  rw [show IntKind.u8.wrap ((x : Int) / 4294967296) = ((UInt8.ofNat (x / 4294967296)).toNat : Int) from u8_byte x x 4294967296 rfl]
  rw [show IntKind.u8.wrap ((x : Int) / 16777216) = ((UInt8.ofNat (x / 16777216)).toNat : Int) from u8_byte x x 16777216 rfl]
  rw [show IntKind.u8.wrap ((x : Int) / 65536) = ((UInt8.ofNat (x / 65536)).toNat : Int) from u8_byte x x 65536 rfl]
  rw [show IntKind.u8.wrap ((x : Int) / 256) = ((UInt8.ofNat (x / 256)).toNat : Int) from u8_byte x x 256 rfl]
  rw [show IntKind.u8.wrap ((y : Int) / 281474976710656) = ((UInt8.ofNat (y / 281474976710656)).toNat : Int) from u8_byte y y 281474976710656 rfl]
  rw [show IntKind.u8.wrap ((y : Int) / 1099511627776) = ((UInt8.ofNat (y / 1099511627776)).toNat : Int) from u8_byte y y 1099511627776 rfl]
  rw [show IntKind.u8.wrap ((y : Int) / 4294967296) = ((UInt8.ofNat (y / 4294967296)).toNat : Int) from u8_byte y y 4294967296 rfl]
  rw [show IntKind.u8.wrap ((y : Int) / 16777216) = ((UInt8.ofNat (y / 16777216)).toNat : Int) from u8_byte y y 16777216 rfl]
  rw [show IntKind.u8.wrap ((y : Int) / 65536) = ((UInt8.ofNat (y / 65536)).toNat : Int) from u8_byte y y 65536 rfl]
  rw [show IntKind.u8.wrap ((y : Int) / 256) = ((UInt8.ofNat (y / 256)).toNat : Int) from u8_byte y y 256 rfl]

set_option maxRecDepth 100000 in
set_option maxHeartbeats 3200000 in
theorem mix_any (a b : Nat) (ha : a ≤ 18446744073709551615) (hb : b ≤ 18446744073709551615) (w : World) (ht : Tabs w) :
    Calls Tryd.prog 87 #[.int .u64 a, .int .u64 b] w fun e w' => e = .returned (.int .u64 (mix a b : Int)) ∧ Below w.heap.size w w' := by
  obtain ⟨x, hx⟩ : ∃ x : Int, Hid (x = (a : Int)) := ⟨_, Lib.hid rfl⟩
  obtain ⟨y, hy⟩ : ∃ y : Int, Hid (y = (b : Int)) := ⟨_, Lib.hid rfl⟩
  have hx0 : 0 ≤ x := by rw [hx.out]; omega
  have hx1 : x ≤ 18446744073709551615 := by rw [hx.out]; omega
  have hy0 : 0 ≤ y := by rw [hy.out]; omega
  have hy1 : y ≤ 18446744073709551615 := by rw [hy.out]; omega
  have HR : Hid ((mixRow x y 8).toList = byteCells (eight a ++ eight b)) := Lib.hid (by rw [hx.out, hy.out]; exact mixRow_8 a b ha hb)
  rw [← hx.out, ← hy.out]
  clear ha hb
  go_enter Tryd.func87, Tryd.ntmps87
  go_wp2
  go_loopw [8] (fun i wr => ∃ k : Nat, k ≤ 8 ∧ i = .int .i64 k ∧ wr = w.alloc (.cells (mixRow x y k) 106)) (fun i _ => 8 - (intOf i).toNat)
  case atStart => exact ⟨0, Nat.zero_le _, rfl, rfl⟩
  case round =>
    obtain ⟨k, hk, rfl, rfl⟩ := hrel
    have hk9 : k = 0 ∨ k = 1 ∨ k = 2 ∨ k = 3 ∨ k = 4 ∨ k = 5 ∨ k = 6 ∨ k = 7 ∨ k = 8 := by omega
    rcases hk9 with rfl | rfl | rfl | rfl | rfl | rfl | rfl | rfl | rfl
    · unfold mixRow
      go_wp2
      go_roundw
      case rel => exact ⟨1, by decide, rfl, rfl⟩
      case measure => simp [intOf]
    · unfold mixRow
      go_wp2
      go_roundw
      case rel => exact ⟨2, by decide, rfl, rfl⟩
      case measure => simp [intOf]
    · unfold mixRow
      go_wp2
      go_roundw
      case rel => exact ⟨3, by decide, rfl, rfl⟩
      case measure => simp [intOf]
    · unfold mixRow
      go_wp2
      go_roundw
      case rel => exact ⟨4, by decide, rfl, rfl⟩
      case measure => simp [intOf]
    · unfold mixRow
      go_wp2
      go_roundw
      case rel => exact ⟨5, by decide, rfl, rfl⟩
      case measure => simp [intOf]
    · unfold mixRow
      go_wp2
      go_roundw
      case rel => exact ⟨6, by decide, rfl, rfl⟩
      case measure => simp [intOf]
    · unfold mixRow
      go_wp2
      go_roundw
      case rel => exact ⟨7, by decide, rfl, rfl⟩
      case measure => simp [intOf]
    · unfold mixRow
      go_wp2
      go_roundw
      case rel => exact ⟨8, by decide, rfl, rfl⟩
      case measure => simp [intOf]
    · have hW : Tabs (w.alloc (.cells (mixRow x y 8) 106)) := ht.below ((Below.refl _ _).alloc (Nat.le_refl _) _) ht.big
      have hrd : Rd (w.alloc (.cells (mixRow x y 8) 106)) 0 (w.heap.size + 1) (.slice (some ⟨w.heap.size, 0, none⟩) 16 16) (eight a ++ eight b) := by
        refine ⟨some ⟨w.heap.size, 0, none⟩, 16, rfl, Nat.le_refl _, fun _ => ⟨_, rfl, Nat.zero_le _, Nat.lt_succ_self _, fun j u hu => ?_⟩⟩
        have e : (⟨w.heap.size, 0, none⟩ : Addr).add j = ⟨w.heap.size, j, none⟩ := by unfold Addr.add; split <;> simp_all
        rw [e, World.cell?_alloc_mark]
        rw [← HR.out] at hu
        simpa using hu
      have HH := Lib.hid (hash_any _ _ _ _ _ hrd (by simp [eight]) hW)
      have HB : Below w.heap.size w (w.alloc (.cells (mixRow x y 8) 106)) := (Below.refl _ _).alloc (Nat.le_refl _) _
      clear hW hrd
      generalize mixRow x y 8 = row at HH HB
      go_wp2_with fail
      (with_reducible refine HH.out.mono ?_); rintro e w' ⟨rfl, rfl⟩
      go_wp2
      go_ret
      exact ⟨rfl, HB⟩
end Go.Proofs.YtmgobekdlgogmaaDoor
