/- slices.Concat of two slices of bytes. -/
import Derived.Shelf.Spec.SlicesGrow
import Derived.Test.YtnlohijpcnoamaaClone
namespace Go.Proofs.Ytnlohijpcnoamaa
open Go.RowKit
open Go.Shelf (Ren)
open Go.Lib (byteCells byteCells_length)

def growB_ren : Go.Shelf.Ren := ⟨fun | 4 => 43 | n => n, fun | 22 => 26 | 25 => 5 | 3 => 3 | 4 => 4 | 9 => 9 | 20 => 20 | 0 => 0 | n => n, fun | n => n⟩
theorem growB : Lays8.n4 Try.prog growB_ren := {
  mixed := by kernel_rfl,
  f4 := ⟨Try.f43.name, by decide, Try.func43.trans (congrArg some (by kernel_rfl))⟩,
  t0 := Try.underlying0,
  a0 := Try.isAgg0,
  z0 := Try.sizeOf0,
  v0 := Try.zeroValue0,
  t3 := Try.underlying3,
  a3 := Try.isAgg3,
  z3 := Try.sizeOf3,
  v3 := Try.zeroValue3,
  t4 := Try.underlying4,
  a4 := Try.isAgg4,
  z4 := Try.sizeOf4,
  v4 := Try.zeroValue4,
  t9 := Try.underlying9,
  a9 := Try.isAgg9,
  z9 := Try.sizeOf9,
  v9 := Try.zeroValue9,
  t20 := Try.underlying20,
  a20 := Try.isAgg20,
  z20 := Try.sizeOf20,
  v20 := Try.zeroValue20,
  t22 := Try.underlying26,
  a22 := Try.isAgg26,
  z22 := Try.sizeOf26,
  v22 := Try.zeroValue26 }

theorem grow_any (n : Nat) (hn : n ≤ 1099511627776) (w : World) : Calls Try.prog 43 #[.slice none 0 0, .int .i64 n] w fun e w' => ∃ v, e = .returned v ∧ Own w' w.heap.size v [] ∧ Below w.heap.size w w' := by
  by_cases h0 : n = 0
  · subst h0
    exact (Any8.slices_Grow_room growB none 0 0 0 w (by omega) (by omega) (by omega) (by omega)).mono fun e w' ⟨he, hw⟩ => ⟨_, he, by
      subst hw
      exact own_nil _ _, by subst hw; exact Below.refl _ _⟩
  · obtain ⟨i0, hi, hz0, hz1, hz2⟩ := info_parts info5
    refine (Any8.slices_Grow_grow growB i0 (.int .u8 0) hi hz0 (by rw [hz1]; decide) none 0 0 n [] w (Nat.le_refl _) (by omega) (by rw [hz2]; omega) (by omega) (by simp) (fun _ => rfl) (fun a ha => by cases ha)).mono fun e w' ⟨he, hw⟩ => ?_
    subst hw
    refine ⟨_, he, ?_, ((below_drewN (Below.refl _ w) 1)).alloc (Nat.le_refl _) _⟩
    have hG := grownCap_ge w (0 + n) 0 5
    have hG2 := grownCap_le_maxLen w (0 + n) 0 5 (by unfold maxLen; omega)
    obtain ⟨G, hGe⟩ : ∃ G, G = grownCap w (0 + n) 0 5 := ⟨_, rfl⟩
    show Own _ _ (.slice (some ⟨w.heap.size, 0, none⟩) 0 (grownCap w (0 + n) 0 5)) []
    rw [show (growB_ren.t 25) = 5 from rfl]
    rw [← hGe] at hG hG2 ⊢
    refine World.ownsRow_made w.drew _ G (Nat.le_refl _) hG2 ?_
    simp [size_zeroCells, Value.cells]
    omega

def lenK (a b : List UInt8) : Nat → Nat
  | 0 => 0
  | 1 => a.length
  | _ => a.length + b.length
def catK (a b : List UInt8) : Nat → List UInt8
  | 0 => []
  | 1 => a
  | _ => a ++ b

set_option maxRecDepth 100000 in
set_option maxHeartbeats 1600000 in
theorem concat_any (g : Nat) (va vb : Value) (a b : List UInt8) (w : World) (h0 : w.cell? ⟨g, 0, none⟩ = some va) (h1 : w.cell? ⟨g, 1, none⟩ = some vb) (ra : Rd w 0 w.heap.size va a) (rb : Rd w 0 w.heap.size vb b) (hla : a.length ≤ 1048576) (hlb : b.length ≤ 1048576) :
    Calls Try.prog 23 #[.slice (some ⟨g, 0, none⟩) 2 2] w (Gives (a ++ b) w) := by
  have hg := World.block_lt_of_cell? w _ h0
  simp only at hg
  have HRA := Lib.hid ra
  have HRB := Lib.hid rb
  obtain ⟨Aa, ca, rfl, _, _⟩ := ra
  obtain ⟨Ab, cb, rfl, _, _⟩ := rb
  have hgr := grow_any (a.length + b.length) (by omega) w
  rw [show ((a.length + b.length : Nat) : Int) = (a.length : Int) + (b.length : Int) by omega] at hgr
  have HG := Lib.hid hgr
  clear hgr
  obtain ⟨K, hK⟩ : ∃ K, Hid (K = lenK a b) := ⟨_, Lib.hid rfl⟩
  have HK0 : Hid (K 0 = 0) := Lib.hid (by rw [hK.out]; rfl)
  have HK1 : Hid (K 1 = a.length) := Lib.hid (by rw [hK.out]; rfl)
  have HK2 : Hid (K 2 = a.length + b.length) := Lib.hid (by rw [hK.out]; rfl)
  have nn : ¬ ((a.length : Int) < 0) := by omega
  have nm : ¬ ((a.length : Int) + (b.length : Int) < 0) := by omega
  go_enter Try.func23, Try.ntmps23
  go_wp2
  go_loop [3, 11] (fun s i => ∃ k : Nat, k ≤ 2 ∧ i = .int .i64 k ∧ s = .int .i64 (K k : Int)) (fun _ i => 2 - (intOf i).toNat)
  case atStart => exact ⟨0, by omega, rfl, by rw [HK0.out]; first | done | rfl⟩
  case round =>
    obtain ⟨k, hk, rfl, rfl⟩ := hrel
    rcases (by omega : k = 0 ∨ k = 1 ∨ k = 2) with rfl | rfl | rfl
    · have z0 := HK0.out
      go_wp2
      go_round
      case rel => exact ⟨1, by omega, by first | rfl | go_num, by rw [HK1.out]; first | rfl | done | go_num⟩
      case measure => simp [intOf]
    · have z1 := HK1.out
      go_wp2
      go_round
      case rel => exact ⟨2, by omega, by first | rfl | go_num, by rw [HK2.out]; first | rfl | done | go_num⟩
      case measure => simp [intOf]
    · have z2 := HK2.out
      go_wp2_with fail
      (with_reducible refine HG.out.mono ?_); rintro e w1 ⟨v, rfl, hown1, hb1⟩
      have HOWN1 := Lib.hid hown1
      have HB1 := Lib.hid hb1
      obtain ⟨C, hC⟩ : ∃ C, Hid (C = catK a b) := ⟨_, Lib.hid rfl⟩
      have C0 : Hid (C 0 = []) := Lib.hid (by rw [hC.out]; rfl)
      have C1 : Hid (C 1 = a) := Lib.hid (by rw [hC.out]; rfl)
      have C2 : Hid (C 2 = a ++ b) := Lib.hid (by rw [hC.out]; rfl)
      have x0 := hb1.cell (p := ⟨g, 0, none⟩) hg
      have x1 := hb1.cell (p := ⟨g, 1, none⟩) hg
      clear hown1 hb1 x0 x1 z2
      go_wp2
      go_loopw [6, 27] (fun v i wr => ∃ k : Nat, k ≤ 2 ∧ i = .int .i64 k ∧ Own wr w.heap.size v (C k) ∧ Below w.heap.size w wr) (fun _ i _ => 2 - (intOf i).toNat)
      case atStart => exact ⟨0, by omega, rfl, by rw [C0.out]; exact HOWN1.out, HB1.out⟩
      case round =>
        obtain ⟨k, hk, rfl, hown, hb⟩ := hrel
        have HOWN := Lib.hid hown
        have HB := Lib.hid hb
        have y0 : wr.cell? ⟨g, 0, none⟩ = some (.slice Aa a.length ca) := (hb.cell (p := ⟨g, 0, none⟩) hg).trans h0
        have y1 : wr.cell? ⟨g, 1, none⟩ = some (.slice Ab b.length cb) := (hb.cell (p := ⟨g, 1, none⟩) hg).trans h1
        obtain ⟨_, _, ea, _, hxa⟩ := HRA.out.below hb (Nat.le_refl _)
        obtain ⟨_, _, eb, _, hxb⟩ := HRB.out.below hb (Nat.le_refl _)
        injection ea with ea1 _ ea3
        injection eb with eb1 _ eb3
        subst ea1 ea3 eb1 eb3
        have HXA := Lib.hid hxa
        have HXB := Lib.hid hxb
        have hbs := hb.size
        clear hown hb hxa hxb
        rcases (by omega : k = 0 ∨ k = 1 ∨ k = 2) with rfl | rfl | rfl
        · have ho := HOWN.out
          rw [C0.out] at ho
          go_wp2_with (at_builtin; refine wpList_append_rd _ rfl (.tmp 31) (.tmp 32) rfl rfl ho rfl rfl HXA.out (by simp only [List.length_nil]; omega) hbs ?_)
          intro v2 w2 ho2 hg2 hat2
          have HO2 : Hid (Own w2 w.heap.size v2 (C 1)) := Lib.hid (by rw [C1.out]; simpa using ho2)
          have HB2 : Hid (Below w.heap.size w w2) := Lib.hid (HB.out.grown hg2 hbs fun q e => (HOWN.out.lt q e).1)
          clear ho ho2 hg2 hat2
          go_wp2
          go_roundw
          case rel => exact ⟨1, by omega, by first | rfl | go_num, HO2.out, HB2.out⟩
          case measure => simp [intOf]
        · have ho := HOWN.out
          rw [C1.out] at ho
          go_wp2_with (at_builtin; refine wpList_append_rd _ rfl (.tmp 31) (.tmp 32) rfl rfl ho rfl rfl HXB.out (by omega) hbs ?_)
          intro v2 w2 ho2 hg2 hat2
          have HO2 : Hid (Own w2 w.heap.size v2 (C 2)) := Lib.hid (by rw [C2.out]; exact ho2)
          have HB2 : Hid (Below w.heap.size w w2) := Lib.hid (HB.out.grown hg2 hbs fun q e => (HOWN.out.lt q e).1)
          clear ho ho2 hg2 hat2
          go_wp2
          go_roundw
          case rel => exact ⟨2, by omega, by first | rfl | go_num, HO2.out, HB2.out⟩
          case measure => simp [intOf]
        · go_wp2
          go_ret
          exact ⟨_, rfl, by have := HOWN.out; rw [C2.out] at this; exact this, HB.out⟩
end Go.Proofs.Ytnlohijpcnoamaa
