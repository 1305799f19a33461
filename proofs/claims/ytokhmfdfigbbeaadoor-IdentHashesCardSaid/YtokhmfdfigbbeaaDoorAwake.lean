/- The program is awake. -/
import Derived.Test.YtokhmfdfigbbeaaDoorHashes
import Derived.Lib.SmallJoins
namespace Go.Proofs.YtokhmfdfigbbeaaDoor
open Go.RowKit
open Go.Lib (byteCells byteCells_length)

theorem rdA_one {w : World} {ad : Addr} {X : Int} {b : UInt8} (hc : w.cell? ad = some (.int .u8 X)) (hX : X = (b.toNat : Int)) : RdA w 0 (ad.block + 1) (some ad) [b] := fun _ => by
  refine ⟨ad, rfl, Nat.zero_le _, Nat.lt_succ_self _, fun j u hu => ?_⟩
  cases j with
  | zero =>
    simp [byteCells] at hu
    subst hu; subst hX
    have : ad.add 0 = ad := by unfold Addr.add; simp
    rw [this]; exact hc
  | succ j => simp [byteCells] at hu
theorem rd_new (w : World) (t : TypeId) (fr : Nat × Nat) (X : Int) (b : UInt8) (hX : X = (b.toNat : Int)) (g : Nat) (hg : g = w.heap.size) : Rd (w.alloc (.cells #[.int .u8 X] t fr)) 0 (g + 1) (.slice (some ⟨g, 0, none⟩) 1 1) [b] := by
  subst hg
  exact ⟨some ⟨w.heap.size, 0, none⟩, 1, rfl, Nat.le_refl _, rdA_one (ad := ⟨w.heap.size, 0, none⟩) (World.cell?_alloc_mark w _ t fr 0) hX⟩

set_option maxRecDepth 100000 in
set_option maxHeartbeats 1600000 in
theorem awake_any (w : World) (ht : Tabs w) :
    Calls Tryd.prog 16 #[] w fun e w' => e = .returned (.bool true) ∧ Below w.heap.size w w' := by
  have hk := fun w => isKey_any ⟨#[99, 97, 114, 116, 45, 49]⟩ (by decide) w
  rw [show canS (ByteArray.data ⟨#[99, 97, 114, 116, 45, 49]⟩).toList = true from rfl] at hk
  have HK := Lib.hid hk
  have HN := Lib.hid (name_yes 3 (by decide) w)
  clear hk
  go_enter Tryd.func16, Tryd.ntmps16
  go_wp2_with fail
  refine HN.out.mono ?_
  rintro e w' ⟨rfl, rfl⟩
  have hs : ((nameS 3).toList == [110, 51]) = true := by decide +kernel
  go_wp2_with fail
  refine (HK.out _).mono ?_
  rintro e w1 ⟨rfl, hb1⟩
  have ht1 : Tabs (w1.alloc (.cells #[.int .u8 97] 5 (1, 2))) := (ht.below hb1 ht.big).below ((Below.refl _ _).alloc (Nat.le_refl _) _) (Nat.le_trans ht.big hb1.size)
  have HH := Lib.hid (hash_any _ [97] _ _ _ (rd_new w1 5 (1, 2) 97 97 (by decide) w1.heap.size rfl) (by decide) ht1)
  have ht2 := ht1.below ((Below.refl _ _).alloc (Nat.le_refl _) (.cells #[.int .u8 98] 5 (1, 2))) (Nat.le_trans (Nat.le_trans ht.big hb1.size) (by simp))
  have HJ := Lib.hid (hash_any _ [98] _ _ _ (rd_new (w1.alloc (.cells #[.int .u8 97] 5 (1, 2))) 5 (1, 2) 98 98 (by decide) (w1.heap.size + 1) (by simp)) (by decide) ht2)
  have hcv1 : (convert 29 29 (.slice (some ⟨w1.heap.size, 0, none⟩) 1 1)).run Tryd.prog (w1.alloc (.cells #[.int .u8 97] 5)) = .ok (.slice (some ⟨w1.heap.size, 0, none⟩) 1 1) (w1.alloc (.cells #[.int .u8 97] 5 (1, 2))) :=
    Go.Joins.run_convert_bytes_const_at w1 29 5 #[.int .u8 97] 1 1 w1.heap.size rfl Tryd.underlying29 Tryd.underlying5
  have hcv2 : (convert 29 29 (.slice (some ⟨w1.heap.size + 1, 0, none⟩) 1 1)).run Tryd.prog ((w1.alloc (.cells #[.int .u8 97] 5 (1, 2))).alloc (.cells #[.int .u8 98] 5)) = .ok (.slice (some ⟨w1.heap.size + 1, 0, none⟩) 1 1) ((w1.alloc (.cells #[.int .u8 97] 5 (1, 2))).alloc (.cells #[.int .u8 98] 5 (1, 2))) :=
    Go.Joins.run_convert_bytes_const_at (w1.alloc (.cells #[.int .u8 97] 5 (1, 2))) 29 5 #[.int .u8 98] 1 1 (w1.heap.size + 1) (by simp) Tryd.underlying29 Tryd.underlying5
  obtain ⟨h97, e97⟩ : ∃ x, Hid (x = hash [97]) := ⟨_, Lib.hid rfl⟩
  obtain ⟨h98, e98⟩ : ∃ x, Hid (x = hash [98]) := ⟨_, Lib.hid rfl⟩
  have hne : ((h97 : Int) != (h98 : Int)) = true := by
    rw [bne_iff_ne]
    intro e
    have e2 : h97 = h98 := by omega
    rw [e97.out, e98.out] at e2
    exact hash_ab e2
  rw [← e97.out] at HH
  rw [← e98.out] at HJ
  go_wp2_with fail
  (with_reducible refine HH.out.mono ?_)
  rintro e w' ⟨rfl, rfl⟩
  go_wp2_with fail
  (with_reducible refine HJ.out.mono ?_)
  rintro e w' ⟨rfl, rfl⟩
  go_wp2
  go_ret
  exact ⟨rfl, (hb1.alloc hb1.size _).alloc (by have := hb1.size; simp; omega) _⟩
end Go.Proofs.YtokhmfdfigbbeaaDoor
