/- SeglogNobody, walked. -/
import Derived.Test.YtakmndfcelghfaaGreatDoorSBegun2
import Derived.Test.YtakmndfcelghfaaGreatDoorClone
namespace Go.Proofs.YtakmndfcelghfaaGreatDoor
open Go.RowKit

set_option maxRecDepth 100000 in
set_option maxHeartbeats 6400000 in
theorem seglogNobody_walk (v : Value) (bs : List UInt8) (w : World) (h : Rd w 0 w.heap.size v bs) (hl : bs.length ≤ 1048576) :
    Calls Tryz.prog 3 #[v] w fun e w' => e = .returned (.bool true) ∧ Below w.heap.size w w' := by
  have HREC := Lib.hid (fun w' (hb : Below w.heap.size w w') => clone_any v bs w' ((h.below hb (Nat.le_refl _)).mono (Nat.le_refl _) hb.size) (by omega))
  obtain ⟨W1, hW1⟩ : ∃ W1, Hid (W1 = (w.alloc (.cells #[.nilIface] 29)).alloc (.cells #[.pointer none, .pointer (some ⟨w.heap.size, 0, none⟩)] 23)) := ⟨_, Lib.hid rfl⟩
  have hb1 : Below w.heap.size w W1 := by rw [hW1.out]; exact ((Below.refl _ _).alloc (Nat.le_refl _) _).alloc (by simp) _
  have hz1 : W1.heap.size = w.heap.size + 2 := by rw [hW1.out]; simp
  have hrow : W1.heap[w.heap.size + 1]? = some (.cells #[.pointer none, .pointer (some ⟨w.heap.size, 0, none⟩)] 23 (0, 0)) := by
    rw [hW1.out]
    have := heap_alloc_new (w.alloc (.cells #[.nilIface] 29)) (.cells #[.pointer none, .pointer (some ⟨w.heap.size, 0, none⟩)] 23)
    simpa using this
  have hrow0 : W1.heap[w.heap.size]? = some (.cells #[.nilIface] 29 (0, 0)) := by
    rw [hW1.out]
    exact (Below.heap_alloc _ _ _ (by simp)).trans (heap_alloc_new w _)
  have hel : ∀ k, k < 2 → ∃ lv, W1.cell? ⟨w.heap.size + 1, k, none⟩ = some lv ∧ UnmL W1 lv := fun k hk => by
    rcases k with _ | _ | k
    · exact ⟨_, cell_of_row W1 _ 0 _ _ (0, 0) hrow, .inl rfl⟩
    · exact ⟨_, cell_of_row W1 _ 1 _ _ (0, 0) hrow, .inr ⟨_, rfl, cell_of_row W1 _ 0 _ _ (0, 0) hrow0⟩⟩
    · omega
  have HEL := Lib.hid hel
  have HB1 := Lib.hid hb1
  have HZ1 := Lib.hid hz1
  clear h hb1 hz1 hrow hrow0 hel
  go_enter Tryz.func3, Tryz.ntmps3
  go_wp2
  rw [← hW1.out]
  obtain ⟨wa, hwa⟩ : ∃ wa : World, wa = W1 := ⟨_, rfl⟩
  subst hwa
  go_loopw [17] (fun i wr => ∃ k : Nat, (k ≤ 2 ∧ i = .int .i64 k) ∧ Hid (Below wa.heap.size wa wr)) (fun i _ => 2 - (intOf i).toNat)
  case atStart => exact ⟨0, ⟨Nat.zero_le _, rfl⟩, Lib.hid (Below.refl _ _)⟩
  case round =>
    obtain ⟨k, ⟨hk, rfl⟩, HB⟩ := hrel
    by_cases hlt : k < 2
    · obtain ⟨lv, hlv, hun⟩ := HEL.out k hlt
      have hlv2 : wr.cell? ⟨w.heap.size + 1, k, none⟩ = some lv := (HB.out.cell (p := ⟨_, _, none⟩) (by have := HZ1.out; show w.heap.size + 1 < wa.heap.size; omega)).trans hlv
      have HUN := Lib.hid (hun.below HB.out)
      have HBW := Lib.hid (HB1.out.trans (HB.out.mono HB1.out.size))
      have HCL := Lib.hid (HREC.out wr HBW.out)
      clear hlv hun
      go_wp2_with fail
      (with_reducible refine HCL.out.mono ?_); rintro e w1 ⟨v1, rfl, _, hb1⟩
      have HUN1 := Lib.hid (HUN.out.below hb1)
      have HB2 : Hid (Below wa.heap.size wa w1) := Lib.hid (HB.out.trans (hb1.mono HB.out.size))
      have HA := Lib.hid (appendL_no lv v1 w1 HUN1.out)
      have HSY := Lib.hid (syncL_no lv w1 HUN1.out)
      have HRE := Lib.hid (replaceL_no lv (.slice none 0 0) w1 HUN1.out)
      have HSG := Lib.hid (segmentsL_no lv w1 HUN1.out)
      have HBY := Lib.hid (bytesL_no lv w1 HUN1.out)
      clear hb1 HCL
      go_wp2_with fail
      (with_reducible refine HA.out.mono ?_); rintro e w2 ⟨rfl, rfl⟩
      go_wp2_with fail
      (with_reducible refine HSY.out.mono ?_); rintro e w3 ⟨rfl, rfl⟩
      go_wp2_with fail
      (with_reducible refine HRE.out.mono ?_); rintro e w4 ⟨rfl, rfl⟩
      go_wp2_with fail
      (with_reducible refine HSG.out.mono ?_); rintro e w5 ⟨rfl, rfl⟩
      go_wp2_with fail
      (with_reducible refine HBY.out.mono ?_); rintro e w6 ⟨rfl, hb6⟩
      have HB6 : Hid (Below wa.heap.size wa w6) := Lib.hid (HB2.out.trans (hb6.mono HB2.out.size))
      clear hb6
      go_wp2
      go_roundw
      case rel => exact ⟨k + 1, ⟨by omega, by go_num⟩, HB6⟩
      case measure => simp [intOf]; omega
    · have HBW := Lib.hid (HB1.out.trans (HB.out.mono HB1.out.size))
      obtain ⟨w0, hw0⟩ : ∃ w0 : World, w0 = wr := ⟨_, rfl⟩
      subst hw0
      obtain ⟨W2, hW2⟩ : ∃ W2, Hid (W2 = (w0.alloc (.cells #[.int .i64 0, .map none] 42)).alloc (.cells #[.pointer none, .pointer (some ⟨w0.heap.size, 0, none⟩)] 39)) := ⟨_, Lib.hid rfl⟩
      have hb2 : Below w0.heap.size w0 W2 := by rw [hW2.out]; exact ((Below.refl _ _).alloc (Nat.le_refl _) _).alloc (by simp) _
      have hz2 : W2.heap.size = w0.heap.size + 2 := by rw [hW2.out]; simp
      have hrow : W2.heap[w0.heap.size + 1]? = some (.cells #[.pointer none, .pointer (some ⟨w0.heap.size, 0, none⟩)] 39 (0, 0)) := by
        rw [hW2.out]
        have := heap_alloc_new (w0.alloc (.cells #[.int .i64 0, .map none] 42)) (.cells #[.pointer none, .pointer (some ⟨w0.heap.size, 0, none⟩)] 39)
        simpa using this
      have hrow0 : W2.heap[w0.heap.size]? = some (.cells #[.int .i64 0, .map none] 42 (0, 0)) := by
        rw [hW2.out]
        exact (Below.heap_alloc _ _ _ (by simp)).trans (heap_alloc_new w0 _)
      have hel : ∀ k, k < 2 → ∃ lv, W2.cell? ⟨w0.heap.size + 1, k, none⟩ = some lv ∧ Unm W2 lv := fun k hk => by
        rcases k with _ | _ | k
        · exact ⟨_, cell_of_row W2 _ 0 _ _ (0, 0) hrow, .inl rfl⟩
        · exact ⟨_, cell_of_row W2 _ 1 _ _ (0, 0) hrow, .inr ⟨_, rfl, cell_of_row W2 _ 0 _ _ (0, 0) hrow0, cell_of_row W2 _ 1 _ _ (0, 0) hrow0⟩⟩
        · omega
      have HEL2 := Lib.hid hel
      have HB2 := Lib.hid (HBW.out.trans (hb2.mono HBW.out.size))
      have HZ2 := Lib.hid hz2
      clear hb2 hz2 hrow hrow0 hel
      go_wp2
      rw [← hW2.out]
      obtain ⟨wb, hwb⟩ : ∃ wb : World, wb = W2 := ⟨_, rfl⟩
      subst hwb
      go_loopw [52] (fun i wr => ∃ k : Nat, (k ≤ 2 ∧ i = .int .i64 k) ∧ Hid (Below wb.heap.size wb wr)) (fun i _ => 2 - (intOf i).toNat)
      case atStart => exact ⟨0, ⟨Nat.zero_le _, rfl⟩, Lib.hid (Below.refl _ _)⟩
      case round =>
        obtain ⟨k2, ⟨hk2, rfl⟩, HBb⟩ := hrel
        by_cases hlt2 : k2 < 2
        · obtain ⟨lv, hlv, hun⟩ := HEL2.out k2 hlt2
          have hlv2 : wr.cell? ⟨w0.heap.size + 1, k2, none⟩ = some lv := (HBb.out.cell (p := ⟨_, _, none⟩) (by have := HZ2.out; show w0.heap.size + 1 < wb.heap.size; omega)).trans hlv
          have HOP := Lib.hid (openU_any lv wr (hun.below HBb.out))
          clear hlv hun
          go_wp2_with fail
          (with_reducible refine HOP.out.mono ?_); rintro e w1 ⟨rfl, hb1⟩
          have HB3 : Hid (Below wb.heap.size wb w1) := Lib.hid (HBb.out.trans (hb1.mono HBb.out.size))
          clear hb1
          go_wp2
          go_roundw
          case rel => exact ⟨k2 + 1, ⟨by omega, by go_num⟩, HB3⟩
          case measure => simp [intOf]; omega
        · have HBG := Lib.hid (begun_any wr)
          have HB4 := Lib.hid (HB2.out.trans (HBb.out.mono HB2.out.size))
          go_wp2_with fail
          (with_reducible refine HBG.out.mono ?_); rintro e w1 ⟨dv, gv, rfl, hb1⟩
          go_wp2
          go_ret
          exact ⟨rfl, HB4.out.trans (hb1.mono HB4.out.size)⟩
end Go.Proofs.YtakmndfcelghfaaGreatDoor
