/- The order of spans: what the call leaves is the old world with blocks behind it. -/
import Derived.Test.YtfplblhmeohhmaaCSpan
import Derived.Shelf.SlSortCmp.WholeK
namespace Go.Proofs.Ytfplblhmeohhmaa
open Go.RowKit Go.Sort Go.BigFrame
open Go.Lib (byteCells byteCells_length)

/-- The old world with blocks behind it, and draws. -/
def Grows (w w' : World) : Prop := ∃ (q : Nat) (os : Array Obj), w' = grow (w.drewN q) os
theorem Grows.below {w w' : World} (h : Grows w w') : Below w.heap.size w w' := by
  obtain ⟨q, os, rfl⟩ := h
  exact below_regrown w (w.drawn + q) os
theorem Grows.refl (w : World) : Grows w w := ⟨0, #[], by rw [grow_empty]; rfl⟩
theorem Grows.trans {a b c : World} (h : Grows a b) (k : Grows b c) : Grows a c := by
  obtain ⟨q, os, rfl⟩ := h
  obtain ⟨q2, os2, rfl⟩ := k
  refine ⟨q + q2, os ++ os2, ?_⟩
  rw [show (grow (a.drewN q) os).drewN q2 = grow ((a.drewN q).drewN q2) os from rfl, grow_grow, World.drewN_drewN]
theorem Grows.alloc {w w' : World} (h : Grows w w') (o : Obj) : Grows w (w'.alloc o) := h.trans ⟨0, #[o], by rw [alloc_eq_grow]; rfl⟩
theorem Grows.drew {w w' : World} (h : Grows w w') : Grows w w'.drew := h.trans ⟨1, #[], by rw [grow_empty]; rfl⟩

set_option maxRecDepth 100000 in
set_option maxHeartbeats 800000 in
theorem ofDot_grow (d : DotA) (w : World) : Calls Try.prog 68 #[dotV d] w fun e w' => e = .returned (actV (actOf d)) ∧ Grows w w' := by
  obtain ⟨n, l, c⟩ := d
  go_enter Try.func68, Try.ntmps68
  go_wp2
  refine bodyPost_ret (v := actV (n, l)) ?_ rfl ⟨rfl, ?_⟩
  · simp [results, Try.results68, go_sem]
  · exact ((Grows.refl _).alloc _).alloc _

set_option maxRecDepth 100000 in
set_option maxHeartbeats 800000 in
theorem cmpA_grow (a b : ActA) (w : World) : Calls Try.prog 115 #[actV a, actV b] w fun e w' => e = .returned (.int .i64 (cmpA a b)) ∧ Grows w w' := by
  obtain ⟨a1, a2⟩ := a
  obtain ⟨b1, b2⟩ := b
  have HC := fun w' => Lib.hid (cmp_any a1 b1 w')
  have HD := fun w' => Lib.hid (cmp_any a2 b2 w')
  by_cases h : a1 = b1
  · have e : Hid (cmpA (a1, a2) (b1, b2) = cmpI a2 b2) := Lib.hid (by unfold cmpA; rw [if_pos h])
    have d1 : (a1 != b1) = false := by simpa using h
    obtain ⟨k, hk⟩ : ∃ k, k = cmpI a2 b2 := ⟨_, rfl⟩
    rw [e.out]
    rw [← hk] at HD ⊢
    clear h hk HC
    go_enter Try.func115, Try.ntmps115
    go_wp2_with fail
    (with_reducible refine (HD _).out.mono ?_); rintro e w1 ⟨rfl, rfl⟩
    go_wp2
    go_ret
    exact ⟨rfl, ((Grows.refl _).alloc _).alloc _⟩
  · have e : Hid (cmpA (a1, a2) (b1, b2) = cmpI a1 b1) := Lib.hid (by unfold cmpA; rw [if_neg h])
    have d1 : (a1 != b1) = true := by simpa using h
    obtain ⟨k, hk⟩ : ∃ k, k = cmpI a1 b1 := ⟨_, rfl⟩
    rw [e.out]
    rw [← hk] at HC ⊢
    clear h hk HD
    go_enter Try.func115, Try.ntmps115
    go_wp2_with fail
    (with_reducible refine (HC _).out.mono ?_); rintro e w1 ⟨rfl, rfl⟩
    go_wp2
    go_ret
    exact ⟨rfl, ((Grows.refl _).alloc _).alloc _⟩

set_option maxRecDepth 100000 in
set_option maxHeartbeats 1600000 in
theorem cmpS_grow (a b : SpanA) (w : World) : Calls Try.prog 146 #[spanV a, spanV b] w fun e w' => e = .returned (.int .i64 (cmpS a b)) ∧ Grows w w' := by
  obtain ⟨W, hW⟩ : ∃ W, Hid (W = (w.alloc (spanO a)).alloc (spanO b)) := ⟨_, Lib.hid rfl⟩
  have hz : W.heap.size = w.heap.size + 2 := by rw [hW.out]; simp
  have hb : Below w.heap.size w W := by rw [hW.out]; exact ((Below.refl _ _).alloc (Nat.le_refl _) _).alloc (by simp) _
  have hA : BoxS W w.heap.size a := by
    rw [hW.out]
    exact (boxS w a).below ((Below.refl _ _).alloc (Nat.le_refl _) _) (by simp)
  have hB : BoxS W (w.heap.size + 1) b := by
    rw [hW.out]
    have := boxS (w.alloc (spanO a)) b
    simpa using this
  have HA := Lib.hid hA
  have HBB := Lib.hid hB
  have HB : Hid (Grows w W) := Lib.hid (by rw [hW.out]; exact ((Grows.refl _).alloc _).alloc _)
  have h1 : w.heap.size < W.drew.heap.size := by show _ < W.heap.size; omega
  have h2 : w.heap.size + 1 < W.drew.heap.size := by show _ < W.heap.size; omega
  have k0 : BoxS W.drew w.heap.size a ∧ BoxS W.drew (w.heap.size + 1) b := ⟨HA.out, HBB.out⟩
  have HC := fun w' => Lib.hid (ofDot_grow a.2 w')
  have HD := fun w' => Lib.hid (ofDot_grow b.2 w')
  have HE := fun w' => Lib.hid (cmpA_grow (actOf a.2) (actOf b.2) w')
  have HF := fun w' => Lib.hid (cmp_any a.1 b.1 w')
  obtain ⟨x, hx⟩ : ∃ x, Hid (x = cmpA (actOf a.2) (actOf b.2)) := ⟨_, Lib.hid rfl⟩
  obtain ⟨y, hy⟩ : ∃ y, Hid (y = cmpI a.1 b.1) := ⟨_, Lib.hid rfl⟩
  rw [← hx.out] at HE
  rw [← hy.out] at HF
  clear hz hb hA hB
  have hWe := hW.out.symm
  go_enter Try.func146, Try.ntmps146
  go_upto_region 1 with fail
  clear hWe
  go_region_held3 (fun w' => (w'.cell? ⟨w.heap.size, 0, none⟩ = some (.int .i64 a.1) ∧ w'.cell? ⟨w.heap.size, 1, none⟩ = some (.int .i64 a.2.1) ∧ w'.cell? ⟨w.heap.size, 2, none⟩ = some (.int .i64 a.2.2.1) ∧ w'.cell? ⟨w.heap.size, 3, none⟩ = some (.int .i64 a.2.2.2)) ∧ (w'.cell? ⟨w.heap.size + 1, 0, none⟩ = some (.int .i64 b.1) ∧ w'.cell? ⟨w.heap.size + 1, 1, none⟩ = some (.int .i64 b.2.1) ∧ w'.cell? ⟨w.heap.size + 1, 2, none⟩ = some (.int .i64 b.2.2.1) ∧ w'.cell? ⟨w.heap.size + 1, 3, none⟩ = some (.int .i64 b.2.2.2)))
    (first | exact k0 | exact k1 | exact k2 | exact k3 | go_keep)
    (first
      | (go_at_call 115
         (with_reducible refine (HE _).out.mono ?_); rintro e w3 ⟨rfl, hg3⟩
         have hb3 := hg3.below
         have k3 : BoxS w3 w.heap.size a ∧ BoxS w3 (w.heap.size + 1) b := ⟨k2.1.below hb3 (Nat.lt_of_lt_of_le h1 (Nat.le_trans hb1.size hb2.size)), k2.2.below hb3 (Nat.lt_of_lt_of_le h2 (Nat.le_trans hb1.size hb2.size))⟩)
      | (go_at_call 143
         (with_reducible refine (HF _).out.mono ?_); rintro e w4 ⟨rfl, rfl⟩)
      | (go_at_call 68
         (with_reducible refine (HD _).out.mono ?_); rintro e w2 ⟨rfl, hg2⟩
         have hb2 := hg2.below
         have k2 : BoxS w2 w.heap.size a ∧ BoxS w2 (w.heap.size + 1) b := ⟨k1.1.below hb2 (Nat.lt_of_lt_of_le h1 hb1.size), k1.2.below hb2 (Nat.lt_of_lt_of_le h2 hb1.size)⟩)
      | (go_at_call 68
         (with_reducible refine (HC _).out.mono ?_); rintro e w1 ⟨rfl, hg1⟩
         have hb1 := hg1.below
         have k1 : BoxS w1 w.heap.size a ∧ BoxS w1 (w.heap.size + 1) b := ⟨k0.1.below hb1 h1, k0.2.below hb1 h2⟩)
      | (go_at_call 152
         (with_reducible refine (or_any w3.heap.size x y _ (box_cell _ _ _ 0) (box_cell _ _ _ 1)).mono ?_); rintro e w5 ⟨rfl, rfl⟩))
  go_wp2
  go_ret
  refine ⟨ret_int (by rw [hx.out, hy.out]; rfl), ?_⟩
  exact (((HB.out.drew.trans hg1).trans hg2).trans hg3).alloc _

end Go.Proofs.Ytfplblhmeohhmaa
