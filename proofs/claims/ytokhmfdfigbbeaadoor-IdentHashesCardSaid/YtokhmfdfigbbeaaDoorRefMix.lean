/- Two numbers in one hash: the document's. -/
import Derived.Test.YtokhmfdfigbbeaaDoorMix
namespace Go.Proofs.YtokhmfdfigbbeaaDoor
open Go.RowKit
open Go.Lib (byteCells byteCells_length)

theorem own_alloc {w : World} {base : Nat} {v : Value} {bs : List UInt8} (h : Own w base v bs) (o : Obj) : Own (w.alloc o) base v bs := World.ownsRow.alloc h o
def downI : Nat → Int
  | 0 => 7
  | 1 => 6
  | 2 => 5
  | 3 => 4
  | 4 => 3
  | 5 => 2
  | 6 => 1
  | 7 => 0
  | _ => -1
def leftI (x : Int) : Nat := (x + 1).toNat

set_option maxRecDepth 100000 in
set_option maxHeartbeats 3200000 in
theorem refEight_any (n : Nat) (hn : n ≤ 18446744073709551615) (w : World) :
    Calls Tryd.prog 32 #[.int .u64 n] w fun e w' => ∃ v, e = .returned v ∧ Own w' w.heap.size v (eight n) ∧ Below w.heap.size w w' := by
  obtain ⟨x, hx⟩ : ∃ x : Int, Hid (x = (n : Int)) := ⟨_, Lib.hid rfl⟩
  have hx0 : 0 ≤ x := by rw [hx.out]; omega
  have hx1 : x ≤ 18446744073709551615 := by rw [hx.out]; omega
  rw [← hx.out]
  go_enter Tryd.func32, Tryd.ntmps32
  go_wp2
  go_loopw [4, 3] (fun i v wr => ∃ k : Nat, k ≤ 8 ∧ i = .int .i64 (downI k) ∧ Own wr w.heap.size v ((eight n).take k) ∧ Below w.heap.size w wr) (fun i _ _ => leftI (intOf i))
  case atStart => exact ⟨0, Nat.zero_le _, rfl, own_nil _ _, Below.refl _ _⟩
  case round =>
    obtain ⟨k, hk, rfl, hown, hb⟩ := hrel
    have hbs := hb.size
    have hk9 : k = 0 ∨ k = 1 ∨ k = 2 ∨ k = 3 ∨ k = 4 ∨ k = 5 ∨ k = 6 ∨ k = 7 ∨ k = 8 := by omega
    rcases hk9 with rfl | rfl | rfl | rfl | rfl | rfl | rfl | rfl | rfl
    · unfold downI
      obtain ⟨b, HB⟩ : ∃ b : UInt8, Hid (b = UInt8.ofNat (n / 72057594037927936)) := ⟨_, rfl⟩
      go_wp2_with (at_builtin; refine wpList_append_rd _ rfl (.tmp 9) (.tmp 15) rfl rfl (own_alloc hown _) (ys := [b]) rfl rfl (rdA_one (World.cell?_alloc_at _ _ _ _ rfl) ?_) ?_ ?_ ?_)
      case _ => rw [HB.out]; exact u8_byte0 x n hx.out hn
      case _ => simp [eight]
      case _ => simp; omega
      intro v1 w1 hown1 hg1 hat1
      go_wp2
      go_roundw
      case rel => exact ⟨1, by decide, rfl, by have := hown1; rw [HB.out] at this; exact this, (hb.alloc hbs _).grown hg1 (by simp; omega) (fun k hk => (hown.lt k hk).1)⟩
      case measure => decide
    · unfold downI
      obtain ⟨b, HB⟩ : ∃ b : UInt8, Hid (b = UInt8.ofNat (n / 281474976710656)) := ⟨_, rfl⟩
      go_wp2_with (at_builtin; refine wpList_append_rd _ rfl (.tmp 9) (.tmp 15) rfl rfl (own_alloc hown _) (ys := [b]) rfl rfl (rdA_one (World.cell?_alloc_at _ _ _ _ rfl) ?_) ?_ ?_ ?_)
      case _ => rw [HB.out]; exact u8_byte x n 281474976710656 hx.out
      case _ => simp [eight]
      case _ => simp; omega
      intro v1 w1 hown1 hg1 hat1
      go_wp2
      go_roundw
      case rel => exact ⟨2, by decide, rfl, by have := hown1; rw [HB.out] at this; exact this, (hb.alloc hbs _).grown hg1 (by simp; omega) (fun k hk => (hown.lt k hk).1)⟩
      case measure => decide
    · unfold downI
      obtain ⟨b, HB⟩ : ∃ b : UInt8, Hid (b = UInt8.ofNat (n / 1099511627776)) := ⟨_, rfl⟩
      go_wp2_with (at_builtin; refine wpList_append_rd _ rfl (.tmp 9) (.tmp 15) rfl rfl (own_alloc hown _) (ys := [b]) rfl rfl (rdA_one (World.cell?_alloc_at _ _ _ _ rfl) ?_) ?_ ?_ ?_)
      case _ => rw [HB.out]; exact u8_byte x n 1099511627776 hx.out
      case _ => simp [eight]
      case _ => simp; omega
      intro v1 w1 hown1 hg1 hat1
      go_wp2
      go_roundw
      case rel => exact ⟨3, by decide, rfl, by have := hown1; rw [HB.out] at this; exact this, (hb.alloc hbs _).grown hg1 (by simp; omega) (fun k hk => (hown.lt k hk).1)⟩
      case measure => decide
    · unfold downI
      obtain ⟨b, HB⟩ : ∃ b : UInt8, Hid (b = UInt8.ofNat (n / 4294967296)) := ⟨_, rfl⟩
      go_wp2_with (at_builtin; refine wpList_append_rd _ rfl (.tmp 9) (.tmp 15) rfl rfl (own_alloc hown _) (ys := [b]) rfl rfl (rdA_one (World.cell?_alloc_at _ _ _ _ rfl) ?_) ?_ ?_ ?_)
      case _ => rw [HB.out]; exact u8_byte x n 4294967296 hx.out
      case _ => simp [eight]
      case _ => simp; omega
      intro v1 w1 hown1 hg1 hat1
      go_wp2
      go_roundw
      case rel => exact ⟨4, by decide, rfl, by have := hown1; rw [HB.out] at this; exact this, (hb.alloc hbs _).grown hg1 (by simp; omega) (fun k hk => (hown.lt k hk).1)⟩
      case measure => decide
    · unfold downI
      obtain ⟨b, HB⟩ : ∃ b : UInt8, Hid (b = UInt8.ofNat (n / 16777216)) := ⟨_, rfl⟩
      go_wp2_with (at_builtin; refine wpList_append_rd _ rfl (.tmp 9) (.tmp 15) rfl rfl (own_alloc hown _) (ys := [b]) rfl rfl (rdA_one (World.cell?_alloc_at _ _ _ _ rfl) ?_) ?_ ?_ ?_)
      case _ => rw [HB.out]; exact u8_byte x n 16777216 hx.out
      case _ => simp [eight]
      case _ => simp; omega
      intro v1 w1 hown1 hg1 hat1
      go_wp2
      go_roundw
      case rel => exact ⟨5, by decide, rfl, by have := hown1; rw [HB.out] at this; exact this, (hb.alloc hbs _).grown hg1 (by simp; omega) (fun k hk => (hown.lt k hk).1)⟩
      case measure => decide
    · unfold downI
      obtain ⟨b, HB⟩ : ∃ b : UInt8, Hid (b = UInt8.ofNat (n / 65536)) := ⟨_, rfl⟩
      go_wp2_with (at_builtin; refine wpList_append_rd _ rfl (.tmp 9) (.tmp 15) rfl rfl (own_alloc hown _) (ys := [b]) rfl rfl (rdA_one (World.cell?_alloc_at _ _ _ _ rfl) ?_) ?_ ?_ ?_)
      case _ => rw [HB.out]; exact u8_byte x n 65536 hx.out
      case _ => simp [eight]
      case _ => simp; omega
      intro v1 w1 hown1 hg1 hat1
      go_wp2
      go_roundw
      case rel => exact ⟨6, by decide, rfl, by have := hown1; rw [HB.out] at this; exact this, (hb.alloc hbs _).grown hg1 (by simp; omega) (fun k hk => (hown.lt k hk).1)⟩
      case measure => decide
    · unfold downI
      obtain ⟨b, HB⟩ : ∃ b : UInt8, Hid (b = UInt8.ofNat (n / 256)) := ⟨_, rfl⟩
      go_wp2_with (at_builtin; refine wpList_append_rd _ rfl (.tmp 9) (.tmp 15) rfl rfl (own_alloc hown _) (ys := [b]) rfl rfl (rdA_one (World.cell?_alloc_at _ _ _ _ rfl) ?_) ?_ ?_ ?_)
      case _ => rw [HB.out]; exact u8_byte x n 256 hx.out
      case _ => simp [eight]
      case _ => simp; omega
      intro v1 w1 hown1 hg1 hat1
      go_wp2
      go_roundw
      case rel => exact ⟨7, by decide, rfl, by have := hown1; rw [HB.out] at this; exact this, (hb.alloc hbs _).grown hg1 (by simp; omega) (fun k hk => (hown.lt k hk).1)⟩
      case measure => decide
    · unfold downI
      obtain ⟨b, HB⟩ : ∃ b : UInt8, Hid (b = UInt8.ofNat n) := ⟨_, rfl⟩
      go_wp2_with (at_builtin; refine wpList_append_rd _ rfl (.tmp 9) (.tmp 15) rfl rfl (own_alloc hown _) (ys := [b]) rfl rfl (rdA_one (World.cell?_alloc_at _ _ _ _ rfl) ?_) ?_ ?_ ?_)
      case _ => rw [HB.out]; exact u8_byte7 x n hx.out
      case _ => simp [eight]
      case _ => simp; omega
      intro v1 w1 hown1 hg1 hat1
      go_wp2
      go_roundw
      case rel => exact ⟨8, by decide, rfl, by have := hown1; rw [HB.out] at this; exact this, (hb.alloc hbs _).grown hg1 (by simp; omega) (fun k hk => (hown.lt k hk).1)⟩
      case measure => decide
    · unfold downI
      go_wp2
      go_ret
      exact ⟨_, rfl, hown, hb⟩

set_option maxRecDepth 100000 in
set_option maxHeartbeats 3200000 in
theorem refMix_any (a b : Nat) (ha : a ≤ 18446744073709551615) (hb : b ≤ 18446744073709551615) (w : World) :
    Calls Tryd.prog 20 #[.int .u64 a, .int .u64 b] w fun e w' => e = .returned (.int .u64 (mix a b : Int)) ∧ Below w.heap.size w w' := by
  go_enter Tryd.func20, Tryd.ntmps20
  go_wp2_with fail
  refine (refEight_any a ha w).mono ?_
  rintro e w1 ⟨v1, rfl, hown1, hb1⟩
  go_wp2_with fail
  refine (refEight_any b hb w1).mono ?_
  rintro e w2 ⟨v2, rfl, hown2, hb2⟩
  have hown1' := Own.below hown1 hb2
  obtain ⟨A, c, rfl, hc, hx⟩ := hown2.rd
  have s1 := hb1.size
  have s2 := hb2.size
  go_wp2_with (at_builtin; refine wpList_append_rd _ rfl (.tmp 6) (.tmp 8) rfl rfl hown1' rfl rfl hx ?_ ?_ ?_)
  case _ => simp [eight]
  case _ => omega
  intro v3 w3 hown3 hg3 hat3
  have hb3 : Below w.heap.size w w3 := (hb1.trans (hb2.mono hb1.size)).grown hg3 (by omega) (fun k hk => (hown1.lt k hk).1)
  have HH := Lib.hid (refHash_any v3 _ _ _ w3 hown3.rd (by simp [eight]))
  clear hg3 hat3 hown3
  go_wp2_with fail
  (with_reducible refine HH.out.mono ?_); rintro e w' ⟨rfl, rfl⟩
  go_wp2
  go_ret
  exact ⟨rfl, hb3⟩
end Go.Proofs.YtokhmfdfigbbeaaDoor
