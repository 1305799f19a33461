/- The walk of IdentBytes. -/
import Derived.Test.YtokhmfdfigbbeaaDoorAwake
namespace Go.Proofs.YtokhmfdfigbbeaaDoor
open Go.RowKit

set_option maxRecDepth 100000 in
set_option maxHeartbeats 800000 in
theorem identBytes_walk (a : Int) (ha0 : 0 ≤ a) (ha1 : a ≤ 255) (b : Int) (hb0 : 0 ≤ b) (hb1 : b ≤ 255) (w : World) (ht : Tabs w) :
    Calls Tryd.prog 9 #[.int .u8 a, .int .u8 b] w fun e w' => e = .returned (.bool true) ∧ Below w.heap.size w w' := by
  have ea : a = ((UInt8.ofNat a.toNat).toNat : Int) := by rw [UInt8.toNat_ofNat']; omega
  have eb : b = ((UInt8.ofNat b.toNat).toNat : Int) := by rw [UInt8.toNat_ofNat']; omega
  have hab : UInt8.ofNat a.toNat = UInt8.ofNat b.toNat ↔ a = b := ⟨fun h => by rw [ea, eb, h], fun h => by rw [h]⟩
  generalize UInt8.ofNat a.toNat = x at ea hab
  generalize UInt8.ofNat b.toNat = y at eb hab
  have ht1 : Tabs (w.alloc (.cells #[.int .u8 a] 5)) := ht.below ((Below.refl _ _).alloc (Nat.le_refl _) _) ht.big
  have h1 := hash_any _ [x] _ _ _ (rd_new w 5 (0, 0) a x ea w.heap.size rfl) (by simp) ht1
  have ht2 : Tabs ((w.alloc (.cells #[.int .u8 a] 5)).alloc (.cells #[.int .u8 b] 5)) := ht1.below ((Below.refl _ _).alloc (Nat.le_refl _) _) (Nat.le_trans ht.big (by simp))
  have h2 := hash_any _ [y] _ _ _ (rd_new (w.alloc (.cells #[.int .u8 a] 5)) 5 (0, 0) b y eb (w.heap.size + 1) (by simp)) (by simp) ht2
  have HA := Lib.hid (awake_any _ ht2)
  have hh := hash_one x y
  generalize hash [x] = hx at h1 hh
  generalize hash [y] = hy at h2 hh
  have H1 := Lib.hid h1
  have H2 := Lib.hid h2
  have hq : ((hx : Int) == (hy : Int)) = (a == b) := by
    rw [Bool.eq_iff_iff, beq_iff_eq, beq_iff_eq, ← hab, ← hh]
    omega
  have HB : Below w.heap.size w ((w.alloc (.cells #[.int .u8 a] 5)).alloc (.cells #[.int .u8 b] 5)) := ((Below.refl _ _).alloc (Nat.le_refl _) _).alloc (by simp) _
  clear h1 h2 hh hab ea eb
  go_enter Tryd.func9, Tryd.ntmps9
  go_wp2_with fail
  (with_reducible refine H1.out.mono ?_); rintro e w' ⟨rfl, rfl⟩
  go_wp2_with fail
  (with_reducible refine H2.out.mono ?_); rintro e w' ⟨rfl, rfl⟩
  go_wp2_with fail
  (with_reducible refine HA.out.mono ?_); rintro e w' ⟨rfl, hb⟩
  go_wp2
  go_ret
  exact ⟨rfl, HB.trans (hb.mono (by simp; omega))⟩
end Go.Proofs.YtokhmfdfigbbeaaDoor
