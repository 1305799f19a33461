/- Spans: their order, and which may be. -/
import Derived.Test.YtfplblhmeohhmaaCUniq
import Derived.Deep.RegionHeld3
namespace Go.Proofs.Ytfplblhmeohhmaa
open Go.RowKit Go.Sort Go.BigFrame
open Go.Lib (byteCells byteCells_length)

/-- A span: from a count to a last dot. -/
abbrev SpanA := Int × DotA
abbrev spanV (s : SpanA) : Value := .agg #[.int .i64 s.1, .int .i64 s.2.1, .int .i64 s.2.2.1, .int .i64 s.2.2.2]
abbrev spanO (s : SpanA) : Obj := .cells #[.int .i64 s.1, .int .i64 s.2.1, .int .i64 s.2.2.1, .int .i64 s.2.2.2] 156
def cmpS (a b : SpanA) : Int := orI (cmpA (actOf a.2) (actOf b.2)) (cmpI a.1 b.1)
def BoxS (w : World) (g : Nat) (s : SpanA) : Prop := w.cell? ⟨g, 0, none⟩ = some (.int .i64 s.1) ∧ w.cell? ⟨g, 1, none⟩ = some (.int .i64 s.2.1) ∧ w.cell? ⟨g, 2, none⟩ = some (.int .i64 s.2.2.1) ∧ w.cell? ⟨g, 3, none⟩ = some (.int .i64 s.2.2.2)
theorem BoxS.below {w w' : World} {g : Nat} {s : SpanA} (h : BoxS w g s) {B : Nat} (hb : Below B w w') (hg : g < B) : BoxS w' g s :=
  ⟨(hb.cell (p := ⟨g, 0, none⟩) hg).trans h.1, (hb.cell (p := ⟨g, 1, none⟩) hg).trans h.2.1, (hb.cell (p := ⟨g, 2, none⟩) hg).trans h.2.2.1, (hb.cell (p := ⟨g, 3, none⟩) hg).trans h.2.2.2⟩
theorem boxS (w : World) (s : SpanA) : BoxS (w.alloc (spanO s)) w.heap.size s := ⟨box_cell _ _ _ 0, box_cell _ _ _ 1, box_cell _ _ _ 2, box_cell _ _ _ 3⟩

set_option maxRecDepth 100000 in
set_option maxHeartbeats 1600000 in
theorem cmpS_any (a b : SpanA) (w : World) : Calls Try.prog 146 #[spanV a, spanV b] w fun e w' => e = .returned (.int .i64 (cmpS a b)) ∧ Below w.heap.size w w' := by
  obtain ⟨W, hW⟩ : ∃ W, Hid (W = (w.alloc (spanO a)).alloc (spanO b)) := ⟨_, Lib.hid rfl⟩
  have hz : W.heap.size = w.heap.size + 2 := by rw [hW.out]; simp
  have hb : Below w.heap.size w W := by rw [hW.out]; exact ((Below.refl _ _).alloc (Nat.le_refl _) _).alloc (by simp) _
  have hA : BoxS W w.heap.size a := by
    rw [hW.out]
    exact (boxS w a).below ((Below.refl _ _).alloc (Nat.le_refl _) _) (by simp)
  have hB : BoxS W (w.heap.size + 1) b := by
    rw [hW.out]
    have := boxS (w.alloc (spanO a)) b
    simpa using this
  have HA := Lib.hid hA
  have HBB := Lib.hid hB
  have HB := Lib.hid hb
  have h1 : w.heap.size < W.drew.heap.size := by show _ < W.heap.size; omega
  have h2 : w.heap.size + 1 < W.drew.heap.size := by show _ < W.heap.size; omega
  have k0 : BoxS W.drew w.heap.size a ∧ BoxS W.drew (w.heap.size + 1) b := ⟨HA.out, HBB.out⟩
  have HC := fun w' => Lib.hid (ofDot_any a.2 w')
  have HD := fun w' => Lib.hid (ofDot_any b.2 w')
  have HE := fun w' => Lib.hid (cmpA_any (actOf a.2) (actOf b.2) w')
  have HF := fun w' => Lib.hid (cmp_any a.1 b.1 w')
  obtain ⟨x, hx⟩ : ∃ x, Hid (x = cmpA (actOf a.2) (actOf b.2)) := ⟨_, Lib.hid rfl⟩
  obtain ⟨y, hy⟩ : ∃ y, Hid (y = cmpI a.1 b.1) := ⟨_, Lib.hid rfl⟩
  rw [← hx.out] at HE
  rw [← hy.out] at HF
  clear hz hb hA hB
  have hWe := hW.out.symm
  go_enter Try.func146, Try.ntmps146
  go_upto_region 1 with fail
  clear hWe
  go_region_held3 (fun w' => (w'.cell? ⟨w.heap.size, 0, none⟩ = some (.int .i64 a.1) ∧ w'.cell? ⟨w.heap.size, 1, none⟩ = some (.int .i64 a.2.1) ∧ w'.cell? ⟨w.heap.size, 2, none⟩ = some (.int .i64 a.2.2.1) ∧ w'.cell? ⟨w.heap.size, 3, none⟩ = some (.int .i64 a.2.2.2)) ∧ (w'.cell? ⟨w.heap.size + 1, 0, none⟩ = some (.int .i64 b.1) ∧ w'.cell? ⟨w.heap.size + 1, 1, none⟩ = some (.int .i64 b.2.1) ∧ w'.cell? ⟨w.heap.size + 1, 2, none⟩ = some (.int .i64 b.2.2.1) ∧ w'.cell? ⟨w.heap.size + 1, 3, none⟩ = some (.int .i64 b.2.2.2)))
    (first | exact k0 | exact k1 | exact k2 | exact k3 | go_keep)
    (first
      | (go_at_call 115
         (with_reducible refine (HE _).out.mono ?_); rintro e w3 ⟨rfl, hb3⟩
         have k3 : BoxS w3 w.heap.size a ∧ BoxS w3 (w.heap.size + 1) b := ⟨k2.1.below hb3 (Nat.lt_of_lt_of_le h1 (Nat.le_trans hb1.size hb2.size)), k2.2.below hb3 (Nat.lt_of_lt_of_le h2 (Nat.le_trans hb1.size hb2.size))⟩)
      | (go_at_call 143
         (with_reducible refine (HF _).out.mono ?_); rintro e w4 ⟨rfl, rfl⟩)
      | (go_at_call 68
         (with_reducible refine (HD _).out.mono ?_); rintro e w2 ⟨rfl, hb2⟩
         have k2 : BoxS w2 w.heap.size a ∧ BoxS w2 (w.heap.size + 1) b := ⟨k1.1.below hb2 (Nat.lt_of_lt_of_le h1 hb1.size), k1.2.below hb2 (Nat.lt_of_lt_of_le h2 hb1.size)⟩)
      | (go_at_call 68
         (with_reducible refine (HC _).out.mono ?_); rintro e w1 ⟨rfl, hb1⟩
         have k1 : BoxS w1 w.heap.size a ∧ BoxS w1 (w.heap.size + 1) b := ⟨k0.1.below hb1 h1, k0.2.below hb1 h2⟩)
      | (go_at_call 152
         (with_reducible refine (or_any w3.heap.size x y _ (box_cell _ _ _ 0) (box_cell _ _ _ 1)).mono ?_); rintro e w5 ⟨rfl, rfl⟩))
  go_wp2
  go_ret
  refine ⟨ret_int (by rw [hx.out, hy.out]; rfl), ?_⟩
  have z1 : w.heap.size ≤ W.heap.size := HB.out.size
  have b1 := HB.out.drew.trans (hb1.mono z1)
  have b2 := b1.trans (hb2.mono b1.size)
  have b3 := b2.trans (hb3.mono b2.size)
  exact b3.alloc b3.size _

set_option maxRecDepth 100000 in
set_option maxHeartbeats 800000 in
theorem wrong_any (s : SpanA) (w : World) : Calls Try.prog 117 #[spanV s] w fun e w' => e = .returned (.bool (!mayB s.2)) ∧ Below w.heap.size w w' := by
  obtain ⟨W, hW⟩ : ∃ W, Hid (W = w.alloc (spanO s)) := ⟨_, Lib.hid rfl⟩
  have hb0 : Below w.heap.size w W := by rw [hW.out]; exact (Below.refl _ _).alloc (Nat.le_refl _) _
  obtain ⟨c0, c1, c2, c3⟩ : BoxS W w.heap.size s := by rw [hW.out]; exact boxS w s
  have HC := Lib.hid (may_any s.2 W)
  have HB := Lib.hid hb0
  have hWe := hW.out.symm
  clear hb0 hW
  go_enter Try.func117, Try.ntmps117
  go_upto_region 1 with fail
  clear hWe
  go_wp2_with fail
  (with_reducible refine HC.out.mono ?_); rintro e w1 ⟨rfl, hb1⟩
  have HB1 := Lib.hid (HB.out.trans (hb1.mono HB.out.size))
  clear hb1
  go_wp2
  go_ret
  exact ⟨rfl, HB1.out⟩
end Go.Proofs.Ytfplblhmeohhmaa
