/- Dots and actors compared. -/
import Derived.Test.YtnlohijpcnoamaaCCmp
namespace Go.Proofs.Ytnlohijpcnoamaa
open Go.RowKit
open Go.Lib (byteCells byteCells_length)

set_option maxRecDepth 100000 in
set_option maxHeartbeats 800000 in
theorem cmpA_any (a b : ActA) (w : World) : Calls Try.prog 58 #[actV a, actV b] w fun e w' => e = .returned (.int .i64 (cmpA a b)) ∧ Below w.heap.size w w' := by
  obtain ⟨a1, a2⟩ := a
  obtain ⟨b1, b2⟩ := b
  have HC := fun w' => Lib.hid (cmp_any a1 b1 w')
  have HD := fun w' => Lib.hid (cmp_any a2 b2 w')
  by_cases h : a1 = b1
  · have e : Hid (cmpA (a1, a2) (b1, b2) = cmpI a2 b2) := Lib.hid (by unfold cmpA; rw [if_pos h])
    have d1 : (a1 != b1) = false := by simpa using h
    obtain ⟨k, hk⟩ : ∃ k, k = cmpI a2 b2 := ⟨_, rfl⟩
    rw [e.out]
    rw [← hk] at HD ⊢
    clear h hk HC
    go_enter Try.func58, Try.ntmps58
    go_wp2_with fail
    (with_reducible refine (HD _).out.mono ?_); rintro e w1 ⟨rfl, rfl⟩
    go_wp2
    go_ret
    exact ⟨rfl, ((Below.refl _ _).alloc (Nat.le_refl _) _).alloc (by simp) _⟩
  · have e : Hid (cmpA (a1, a2) (b1, b2) = cmpI a1 b1) := Lib.hid (by unfold cmpA; rw [if_neg h])
    have d1 : (a1 != b1) = true := by simpa using h
    obtain ⟨k, hk⟩ : ∃ k, k = cmpI a1 b1 := ⟨_, rfl⟩
    rw [e.out]
    rw [← hk] at HC ⊢
    clear h hk HD
    go_enter Try.func58, Try.ntmps58
    go_wp2_with fail
    (with_reducible refine (HC _).out.mono ?_); rintro e w1 ⟨rfl, rfl⟩
    go_wp2
    go_ret
    exact ⟨rfl, ((Below.refl _ _).alloc (Nat.le_refl _) _).alloc (by simp) _⟩

/-- The first that is not nought. -/
def orI (a b : Int) : Int := if a = 0 then b else a
set_option maxRecDepth 100000 in
set_option maxHeartbeats 800000 in
theorem or_any (g : Nat) (a b : Int) (w : World) (h0 : w.cell? ⟨g, 0, none⟩ = some (.int .i64 a)) (h1 : w.cell? ⟨g, 1, none⟩ = some (.int .i64 b)) :
    Calls Try.prog 68 #[.slice (some ⟨g, 0, none⟩) 2 2] w fun e w' => e = .returned (.int .i64 (orI a b)) ∧ w = w' := by
  obtain ⟨r, hr⟩ : ∃ r, Hid (r = orI a b) := ⟨_, Lib.hid rfl⟩
  rw [← hr.out]
  by_cases ha : a = 0
  · by_cases hb : b = 0
    · have e : Hid (r = 0) := Lib.hid (by rw [hr.out]; unfold orI; rw [if_pos ha, hb])
      subst ha; subst hb
      go_enter Try.func68, Try.ntmps68
      go_wp2
      go_loop [8] (fun i => ∃ k : Nat, k ≤ 2 ∧ i = .int .i64 k) (fun i => 2 - (intOf i).toNat)
      case atStart => exact ⟨0, by omega, rfl⟩
      case round =>
        obtain ⟨k, hk, rfl⟩ := hrel
        rcases (by omega : k = 0 ∨ k = 1 ∨ k = 2) with rfl | rfl | rfl
        · go_wp2
          go_round
          case rel => exact ⟨1, by omega, by first | rfl | go_num⟩
          case measure => simp [intOf]
        · go_wp2
          go_round
          case rel => exact ⟨2, by omega, by first | rfl | go_num⟩
          case measure => simp [intOf]
        · go_wp2
          go_ret
          exact ⟨ret_int e.out.symm, rfl⟩
    · have e : Hid (r = b) := Lib.hid (by rw [hr.out]; unfold orI; rw [if_pos ha])
      have d1 : (b != 0) = true := by simpa using hb
      subst ha
      clear hb
      go_enter Try.func68, Try.ntmps68
      go_wp2
      go_loop [8] (fun i => ∃ k : Nat, k ≤ 1 ∧ i = .int .i64 k) (fun i => 2 - (intOf i).toNat)
      case atStart => exact ⟨0, by omega, rfl⟩
      case round =>
        obtain ⟨k, hk, rfl⟩ := hrel
        rcases (by omega : k = 0 ∨ k = 1) with rfl | rfl
        · go_wp2
          go_round
          case rel => exact ⟨1, by omega, by first | rfl | go_num⟩
          case measure => simp [intOf]
        · go_wp2
          go_ret
          exact ⟨ret_int e.out.symm, rfl⟩
  · have e : Hid (r = a) := Lib.hid (by rw [hr.out]; unfold orI; rw [if_neg ha])
    have d1 : (a != 0) = true := by simpa using ha
    clear ha
    go_enter Try.func68, Try.ntmps68
    go_wp2
    go_loop [8] (fun i => ∃ k : Nat, k ≤ 0 ∧ i = .int .i64 k) (fun i => 2 - (intOf i).toNat)
    case atStart => exact ⟨0, by omega, rfl⟩
    case round =>
      obtain ⟨k, hk, rfl⟩ := hrel
      obtain rfl : k = 0 := by omega
      go_wp2
      go_ret
      exact ⟨ret_int e.out.symm, rfl⟩

/-- A dot that was boxed at block g. -/
def BoxD (w : World) (g : Nat) (d : DotA) : Prop := w.cell? ⟨g, 0, none⟩ = some (.int .i64 d.1) ∧ w.cell? ⟨g, 1, none⟩ = some (.int .i64 d.2.1) ∧ w.cell? ⟨g, 2, none⟩ = some (.int .i64 d.2.2)
theorem BoxD.below {w w' : World} {g : Nat} {d : DotA} (h : BoxD w g d) {B : Nat} (hb : Below B w w') (hg : g < B) : BoxD w' g d :=
  ⟨(hb.cell (p := ⟨g, 0, none⟩) hg).trans h.1, (hb.cell (p := ⟨g, 1, none⟩) hg).trans h.2.1, (hb.cell (p := ⟨g, 2, none⟩) hg).trans h.2.2⟩
theorem boxD (w : World) (T : TypeId) (d : DotA) : BoxD (w.alloc (.cells #[.int .i64 d.1, .int .i64 d.2.1, .int .i64 d.2.2] T)) w.heap.size d := ⟨box_cell _ _ _ 0, box_cell _ _ _ 1, box_cell _ _ _ 2⟩

theorem cmpD_or (a b : DotA) : orI (cmpA (actOf a) (actOf b)) (cmpI a.2.2 b.2.2) = cmpD a b := rfl

set_option maxRecDepth 100000 in
set_option maxHeartbeats 1600000 in
theorem cmpD_any (a b : DotA) (w : World) : Calls Try.prog 60 #[dotV a, dotV b] w fun e w' => e = .returned (.int .i64 (cmpD a b)) ∧ Below w.heap.size w w' := by
  obtain ⟨W, hW⟩ : ∃ W, Hid (W = (w.alloc (.cells #[.int .i64 a.1, .int .i64 a.2.1, .int .i64 a.2.2] 55)).alloc (.cells #[.int .i64 b.1, .int .i64 b.2.1, .int .i64 b.2.2] 55)) := ⟨_, Lib.hid rfl⟩
  have hz : W.heap.size = w.heap.size + 2 := by rw [hW.out]; simp
  have hb : Below w.heap.size w W := by rw [hW.out]; exact ((Below.refl _ _).alloc (Nat.le_refl _) _).alloc (by simp) _
  have hA : BoxD W w.heap.size a := by
    rw [hW.out]
    exact (boxD w 55 a).below ((Below.refl _ _).alloc (Nat.le_refl _) _) (by simp)
  have hB : BoxD W (w.heap.size + 1) b := by
    rw [hW.out]
    have := boxD (w.alloc (.cells #[.int .i64 a.1, .int .i64 a.2.1, .int .i64 a.2.2] 55)) 55 b
    simpa using this
  have HA := Lib.hid hA
  have HBB := Lib.hid hB
  have HZ := Lib.hid hz
  have HB := Lib.hid hb
  have h1 : w.heap.size < W.drew.heap.size := by show _ < W.heap.size; omega
  have h2 : w.heap.size + 1 < W.drew.heap.size := by show _ < W.heap.size; omega
  have k0 : BoxD W.drew w.heap.size a ∧ BoxD W.drew (w.heap.size + 1) b := ⟨HA.out, HBB.out⟩
  have HC := fun w' => Lib.hid (ofDot_any a w')
  have HD := fun w' => Lib.hid (ofDot_any b w')
  have HE := fun w' => Lib.hid (cmpA_any (actOf a) (actOf b) w')
  have HF := fun w' => Lib.hid (cmp_any a.2.2 b.2.2 w')
  obtain ⟨x, hx⟩ : ∃ x, Hid (x = cmpA (actOf a) (actOf b)) := ⟨_, Lib.hid rfl⟩
  obtain ⟨y, hy⟩ : ∃ y, Hid (y = cmpI a.2.2 b.2.2) := ⟨_, Lib.hid rfl⟩
  rw [← hx.out] at HE
  rw [← hy.out] at HF
  clear hz hb hA hB
  have hWe := hW.out.symm
  go_enter Try.func60, Try.ntmps60
  go_upto_region 1 with fail
  clear hWe
  go_region_held3 (fun w' => (w'.cell? ⟨w.heap.size, 0, none⟩ = some (.int .i64 a.1) ∧ w'.cell? ⟨w.heap.size, 1, none⟩ = some (.int .i64 a.2.1) ∧ w'.cell? ⟨w.heap.size, 2, none⟩ = some (.int .i64 a.2.2)) ∧ (w'.cell? ⟨w.heap.size + 1, 0, none⟩ = some (.int .i64 b.1) ∧ w'.cell? ⟨w.heap.size + 1, 1, none⟩ = some (.int .i64 b.2.1) ∧ w'.cell? ⟨w.heap.size + 1, 2, none⟩ = some (.int .i64 b.2.2)))
    (first | exact k0 | exact k1 | exact k2 | exact k3 | go_keep)
    (first
      | (go_at_call 58
         (with_reducible refine (HE _).out.mono ?_); rintro e w3 ⟨rfl, hb3⟩
         have k3 : BoxD w3 w.heap.size a ∧ BoxD w3 (w.heap.size + 1) b := ⟨k2.1.below hb3 (Nat.lt_of_lt_of_le h1 (Nat.le_trans hb1.size hb2.size)), k2.2.below hb3 (Nat.lt_of_lt_of_le h2 (Nat.le_trans hb1.size hb2.size))⟩)
      | (go_at_call 67
         (with_reducible refine (HF _).out.mono ?_); rintro e w4 ⟨rfl, rfl⟩)
      | (go_at_call 62
         (with_reducible refine (HD _).out.mono ?_); rintro e w2 ⟨rfl, hb2⟩
         have k2 : BoxD w2 w.heap.size a ∧ BoxD w2 (w.heap.size + 1) b := ⟨k1.1.below hb2 (Nat.lt_of_lt_of_le h1 hb1.size), k1.2.below hb2 (Nat.lt_of_lt_of_le h2 hb1.size)⟩)
      | (go_at_call 62
         (with_reducible refine (HC _).out.mono ?_); rintro e w1 ⟨rfl, hb1⟩
         have k1 : BoxD w1 w.heap.size a ∧ BoxD w1 (w.heap.size + 1) b := ⟨k0.1.below hb1 h1, k0.2.below hb1 h2⟩)
      | (go_at_call 68
         (with_reducible refine (or_any w3.heap.size x y _ (box_cell _ _ _ 0) (box_cell _ _ _ 1)).mono ?_); rintro e w5 ⟨rfl, rfl⟩))
  go_wp2
  go_ret
  refine ⟨ret_int (by rw [hx.out, hy.out]; exact cmpD_or a b), ?_⟩
  have z1 : w.heap.size ≤ W.heap.size := HB.out.size
  have b1 := HB.out.drew.trans (hb1.mono z1)
  have b2 := b1.trans (hb2.mono b1.size)
  have b3 := b2.trans (hb3.mono b2.size)
  exact b3.alloc b3.size _
end Go.Proofs.Ytnlohijpcnoamaa
