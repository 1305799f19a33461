/- The walk of DiskNone: disks that no call made, nil and a plain one. -/
import Derived.Test.YtokhmfdfigbbeabDTears
import Derived.Test.YtokhmfdfigbbeabDNone
namespace Go.Proofs.Ytokhmfdfigbbeab
open Go.RowKit
open Go.Lib (byteCells byteCells_length)

set_option maxRecDepth 100000 in
set_option maxHeartbeats 3200000 in
theorem diskNone_walk (nm ot : ByteArray) (v : Value) (vt : Value) (ts : List TearA) (w : World) (ht : RdTears w vt ts) (hl : ts.length ≤ 1099511627776) (hj : ∀ t ∈ ts, t.2.2.length ≤ 140737488355328) :
    Calls Try.prog 5 #[.string nm, .string ot, v, vt] w fun e w' => e = .returned (.bool true) ∧ Below w.heap.size w w' := by
  have HA := Lib.hid awake_any
  have HJ := Lib.hid hj
  have HTS := Lib.hid ht
  obtain ⟨W1, hW1⟩ : ∃ W1, Hid (W1 = (w.alloc (.cells #[.int .i64 0, .map none] 43)).alloc (.cells #[.pointer none, .pointer (some ⟨w.heap.size, 0, none⟩)] 23)) := ⟨_, Lib.hid rfl⟩
  have s1 : W1.heap.size = w.heap.size + 2 := by rw [hW1.out]; simp
  have b1 : Below w.heap.size w W1 := by
    rw [hW1.out]
    exact ((Below.refl _ w).alloc (Nat.le_refl _) _).alloc (by simp) _
  have k0 : W1.heap[w.heap.size]? = some (.cells #[.int .i64 0, .map none] 43 (0, 0)) := by
    rw [hW1.out, Below.heap_alloc _ _ _ (by simp)]
    exact heap_alloc_new w _
  have k1 : W1.heap[w.heap.size + 1]? = some (.cells #[.pointer none, .pointer (some ⟨w.heap.size, 0, none⟩)] 23 (0, 0)) := by
    rw [hW1.out]
    have := heap_alloc_new (w.alloc (.cells #[.int .i64 0, .map none] 43)) (.cells #[.pointer none, .pointer (some ⟨w.heap.size, 0, none⟩)] 23)
    simpa using this
  have K0 := Lib.hid k0
  have K1 := Lib.hid k1
  have S1 := Lib.hid s1
  have HL := Lib.hid hl
  clear k0 k1 s1 hj ht hl
  go_enter Try.func5, Try.ntmps5
  go_wp2_with fail
  have e2 := hW1.out.symm
  rw [e2]
  clear e2
  go_loopw [20] (fun i wr => ∃ k : Nat, k ≤ 2 ∧ i = .int .i64 k ∧ Below W1.heap.size W1 wr) (fun i _ => 2 - (intOf i).toNat)
  case atStart => exact ⟨0, by omega, rfl, Below.refl _ _⟩
  case round =>
    obtain ⟨k, hk, rfl, hb⟩ := hrel
    have hsz := hb.size
    have hs := S1.out
    by_cases hlt : k < 2
    · obtain ⟨r, hc, hp⟩ : ∃ r, wr.cell? ⟨w.heap.size + 1, k, none⟩ = some (.pointer r) ∧ Unm wr (.pointer r) := by
        have hblk : wr.heap[w.heap.size + 1]? = some (.cells #[.pointer none, .pointer (some ⟨w.heap.size, 0, none⟩)] 23 (0, 0)) := (hb.block _ (by omega)).trans K1.out
        have hrow := fun i => cell_of_row wr (w.heap.size + 1) i _ _ (0, 0) hblk
        have hblk0 := (hb.block (w.heap.size) (by omega)).trans K0.out
        have hrow0 := fun i => cell_of_row wr (w.heap.size) i _ _ (0, 0) hblk0
        have : k = 0 ∨ k = 1 := by omega
        rcases this with rfl | rfl
        · exact ⟨none, hrow 0, .inl rfl⟩
        · exact ⟨some ⟨w.heap.size, 0, none⟩, hrow 1, .inr ⟨_, rfl, hrow0 0, hrow0 1⟩⟩
      have hB : Below w.heap.size w wr := b1.trans (hb.mono b1.size)
      have HB := Lib.hid hB
      clear hs hsz hB
      go_wp2_with fail
      (with_reducible refine (read_no _ nm wr hp).mono ?_); rintro e w1 ⟨rfl, hb1⟩
      go_wp2_with fail
      (with_reducible refine (size_no _ nm w1 (hp.below hb1)).mono ?_); rintro e w2 ⟨rfl, hb2⟩
      have b02 := hb1.trans (hb2.mono hb1.size)
      clear hb1 hb2
      go_wp2_with fail
      (with_reducible refine (append_no _ nm v w2 (hp.below b02)).mono ?_); rintro e w3 ⟨rfl, hb3⟩
      have b03 := b02.trans (hb3.mono b02.size)
      clear hb3 b02
      go_wp2_with fail
      (with_reducible refine (sync_no _ nm w3 (hp.below b03)).mono ?_); rintro e w4 ⟨rfl, hb4⟩
      have b04 := b03.trans (hb4.mono b03.size)
      clear hb4 b03
      go_wp2_with fail
      (with_reducible refine (rename_no _ nm ot w4 (hp.below b04)).mono ?_); rintro e w5 ⟨rfl, hb5⟩
      have b05 := b04.trans (hb5.mono b04.size)
      clear hb5 b04
      go_wp2_with fail
      (with_reducible refine (remove_no _ nm w5 (hp.below b05)).mono ?_); rintro e w6 ⟨rfl, hb6⟩
      have b06 := b05.trans (hb6.mono b05.size)
      clear hb6 b05
      go_wp2_with fail
      (with_reducible refine (tears_any vt ts w6 (HTS.out.below (HB.out.trans (b06.mono HB.out.size))) HL.out HJ.out).mono ?_); rintro e w7 ⟨v7, vs7, rfl, hb7, _, _⟩
      have b07 := b06.trans (hb7.mono b06.size)
      clear hb7 b06
      go_wp2_with fail
      (with_reducible refine (crash_no _ v7 w7 (hp.below b07)).mono ?_); rintro e w8 ⟨rfl, hb8⟩
      have b08 := b07.trans (hb8.mono b07.size)
      clear hb8 b07
      go_wp2_with fail
      (with_reducible refine (wipe_no _ w8 (hp.below b08)).mono ?_); rintro e w9 ⟨rfl, hb9⟩
      have b09 := b08.trans (hb9.mono b08.size)
      clear hb9 b08
      go_wp2_with fail
      (with_reducible refine (files_no _ w9 (hp.below b09)).mono ?_); rintro e w10 ⟨rfl, hb10⟩
      have b010 := b09.trans (hb10.mono b09.size)
      clear hb10 b09
      go_wp2_with fail
      (with_reducible refine (used_no _ w10 (hp.below b010)).mono ?_); rintro e w11 ⟨rfl, hb11⟩
      have b011 := b010.trans (hb11.mono b010.size)
      clear hb11 b010
      go_wp2_with fail
      (with_reducible refine (room_no _ w11 (hp.below b011)).mono ?_); rintro e w12 ⟨rfl, hb12⟩
      have b012 := b011.trans (hb12.mono b011.size)
      clear hb12 b011
      go_wp2_with fail
      (with_reducible refine (copy_no _ w12 (hp.below b012)).mono ?_); rintro e w13 ⟨rfl, hb13⟩
      have b013 := b012.trans (hb13.mono b012.size)
      clear hb13 b012
      go_wp2
      go_roundw
      case rel => exact ⟨k + 1, by omega, by go_num, hb.trans (b013.mono hb.size)⟩
      case measure => simp [intOf]; omega
    · have bL : Below w.heap.size w wr := b1.trans (hb.mono b1.size)
      have BL := Lib.hid bL
      clear hs hsz bL
      go_wp2_with fail
      (with_reducible refine (HA.out _).mono ?_); rintro e w1 ⟨rfl, hb1⟩
      go_wp2
      go_ret
      exact ⟨rfl, BL.out.trans (hb1.mono BL.out.size)⟩
end Go.Proofs.Ytokhmfdfigbbeab
