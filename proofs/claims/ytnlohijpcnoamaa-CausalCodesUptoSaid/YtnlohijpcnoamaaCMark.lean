/- upTo by the order of actors. -/
import Derived.Test.YtnlohijpcnoamaaCUpTo
namespace Go.Proofs.Ytnlohijpcnoamaa
open Go.RowKit Go.Sort Go.BigFrame
open Go.Lib (byteCells byteCells_length)

theorem cmpI_lt {a b : Int} : cmpI a b < 0 ↔ a < b := by
  unfold cmpI
  by_cases h : a < b
  · simp [h]
  · by_cases h2 : b < a
    · simp [h, h2]
    · simp [h, h2]
theorem cmpI_eq {a b : Int} : cmpI a b = 0 ↔ a = b := by
  unfold cmpI
  by_cases h : a < b
  · simp [h]; omega
  · by_cases h2 : b < a
    · simp [h, h2]; omega
    · simp [h, h2]; omega
def ltA (a b : ActA) : Prop := a.1 < b.1 ∨ (a.1 = b.1 ∧ a.2 < b.2)
theorem cmpA_lt {a b : ActA} : cmpA a b < 0 ↔ ltA a b := by
  unfold cmpA ltA
  by_cases h : a.1 = b.1
  · rw [if_pos h, cmpI_lt]
    constructor
    · intro h2; exact .inr ⟨h, h2⟩
    · rintro (h2 | h2)
      · omega
      · exact h2.2
  · rw [if_neg h, cmpI_lt]
    constructor
    · exact fun h2 => .inl h2
    · rintro (h2 | h2)
      · exact h2
      · exact absurd h2.1 h
theorem cmpA_eq {a b : ActA} : cmpA a b = 0 ↔ a = b := by
  unfold cmpA
  by_cases h : a.1 = b.1
  · rw [if_pos h, cmpI_eq]
    exact ⟨fun h2 => Prod.ext h h2, fun h2 => by rw [h2]⟩
  · rw [if_neg h, cmpI_eq]
    exact ⟨fun h2 => absurd h2 h, fun h2 => by rw [h2]⟩
theorem ltA_trans {a b c : ActA} (h : ltA a b) (k : ltA b c) : ltA a c := by unfold ltA at *; omega
theorem ltA_irrefl (a : ActA) : ¬ ltA a a := by unfold ltA; omega
theorem ltA_ne {a b : ActA} (h : ltA a b) : a ≠ b := fun e => ltA_irrefl b (by rw [e] at h; exact h)

theorem OkM.lt {ms : List DotA} (h : OkM ms) : ∀ (k i : Nat) (x y : DotA), ms[i]? = some x → ms[i + k + 1]? = some y → ltA (actOf x) (actOf y)
  | 0, i, x, y, hx, hy => cmpA_lt.1 (h.2 i x y hx hy)
  | k + 1, i, x, y, hx, hy => by
    obtain ⟨z, hz⟩ : ∃ z, ms[i + k + 1]? = some z := ⟨ms[i + k + 1]'(by have := (List.getElem?_eq_some_iff.1 hy).1; omega), List.getElem?_eq_getElem _⟩
    exact ltA_trans (OkM.lt h k i x z hx hz) (cmpA_lt.1 (h.2 (i + k + 1) z y hz hy))
theorem OkM.lt' {ms : List DotA} (h : OkM ms) {i j : Nat} {x y : DotA} (hij : i < j) (hx : ms[i]? = some x) (hy : ms[j]? = some y) : ltA (actOf x) (actOf y) :=
  h.lt (j - i - 1) i x y hx (by rw [show i + (j - i - 1) + 1 = j by omega]; exact hy)
theorem OkM.mono {ms : List DotA} (h : OkM ms) (a : ActA) (i j : Nat) (x y : DotA) (hij : i ≤ j) (hx : ms[i]? = some x) (hy : ms[j]? = some y) (hlt : cmpA (actOf y) a < 0) : cmpA (actOf x) a < 0 := by
  by_cases e : i = j
  · subst e; rw [hx] at hy; injection hy with hy; rw [hy]; exact hlt
  · exact cmpA_lt.2 (ltA_trans (h.lt' (by omega) hx hy) (cmpA_lt.1 hlt))

/-- The count of an actor's mark; 0: it has none. -/
def markOf (ms : List DotA) (a : ActA) : Int := match ms.find? (fun m => decide (actOf m = a)) with | some m => m.2.2 | none => 0
theorem markOf_at {ms : List DotA} {a : ActA} {i : Nat} {d : DotA} (hd : ms[i]? = some d) (he : actOf d = a) (hn : ∀ (j : Nat) (x : DotA), j < i → ms[j]? = some x → actOf x ≠ a) : markOf ms a = d.2.2 := by
  unfold markOf
  have : ms.find? (fun m => decide (actOf m = a)) = some d := by
    rw [List.find?_eq_some_iff_getElem]
    obtain ⟨hi, he2⟩ := List.getElem?_eq_some_iff.1 hd
    exact ⟨by simpa using he, i, hi, he2, fun j hj => by
      have := hn j (ms[j]) hj (List.getElem?_eq_getElem (by omega))
      simpa using this⟩
  rw [this]
theorem markOf_none {ms : List DotA} {a : ActA} (hn : ∀ (j : Nat) (x : DotA), ms[j]? = some x → actOf x ≠ a) : markOf ms a = 0 := by
  unfold markOf
  have : ms.find? (fun m => decide (actOf m = a)) = none := by
    rw [List.find?_eq_none]
    intro x hx
    obtain ⟨j, hj⟩ := List.getElem?_of_mem hx
    simpa using hn j x hj
  rw [this]
theorem Found.yes {ms : List DotA} {a : ActA} {i : Nat} (h : Found ms a i true) : ∃ d, ms[i]? = some d ∧ markOf ms a = d.2.2 := by
  obtain ⟨_, h1, _, h3⟩ := h
  obtain ⟨d, hd, he⟩ := h3.1 rfl
  exact ⟨d, hd, markOf_at hd (cmpA_eq.1 he) fun j x hj hx e => by
    have := h1 j x hj hx
    rw [cmpA_eq.2 e] at this
    omega⟩
theorem Found.no {ms : List DotA} {a : ActA} {i : Nat} (hok : OkM ms) (h : Found ms a i false) : markOf ms a = 0 := by
  obtain ⟨_, h1, h2, h3⟩ := h
  refine markOf_none fun j x hx e => ?_
  have e0 := cmpA_eq.2 e
  by_cases hj : j < i
  · have := h1 j x hj hx; omega
  · by_cases hji : j = i
    · subst hji
      have := h3.2 ⟨x, hx, e0⟩
      cases this
    · obtain ⟨y, hy⟩ : ∃ y, ms[i]? = some y := ⟨ms[i]'(by have := (List.getElem?_eq_some_iff.1 hx).1; omega), List.getElem?_eq_getElem _⟩
      have := hok.lt' (i := i) (j := j) (by omega) hy hx
      rw [e] at this
      have := cmpA_lt.2 this
      have := h2 i y (Nat.le_refl _) hy
      omega

set_option maxRecDepth 100000 in
set_option maxHeartbeats 800000 in
theorem upTo_any (v : Value) (ms : List DotA) (a : ActA) (w : World) (h : RdD w v ms) (hl : ms.length ≤ 1099511627776) (hok : OkM ms) :
    Calls Try.prog 61 #[v, actV a] w fun e w' => e = .returned (.int .i64 (markOf ms a)) ∧ Below w.heap.size w w' := by
  obtain ⟨r, hr⟩ : ∃ r, Hid (r = markOf ms a) := ⟨_, Lib.hid rfl⟩
  rw [← hr.out]
  obtain ⟨W, hW⟩ : ∃ W, Hid (W = w.alloc (.cells #[.int .i64 a.1, .int .i64 a.2] 93)) := ⟨_, Lib.hid rfl⟩
  have hb0 : Below w.heap.size w W := by rw [hW.out]; exact (Below.refl _ _).alloc (Nat.le_refl _) _
  have hS := search_any v ms a W (h.below hb0) hl (hok.mono a)
  have c0 : W.cell? ⟨w.heap.size, 0, none⟩ = some (.int .i64 a.1) := by rw [hW.out]; exact box_cell _ _ _ 0
  have c1 : W.cell? ⟨w.heap.size, 1, none⟩ = some (.int .i64 a.2) := by rw [hW.out]; exact box_cell _ _ _ 1
  have HS := Lib.hid hS
  have HB0 := Lib.hid hb0
  have HOK := Lib.hid hok
  obtain ⟨A, c, rfl, hc, hx⟩ := h
  have HX := Lib.hid (hx.below hb0 (Nat.le_refl _))
  obtain ⟨n, hn⟩ : ∃ n, Hid (n = ms.length) := ⟨_, Lib.hid rfl⟩
  rw [← hn.out] at HS hl hc ⊢
  have hWe := hW.out.symm
  clear hS hb0 hok hx
  go_enter Try.func61, Try.ntmps61
  go_wp2_with fail
  clear hWe
  (with_reducible refine HS.out.mono ?_); rintro e w1 ⟨i, b, rfl, hf, hb1⟩
  have HF := Lib.hid hf
  have hz1 := HB0.out.size
  have HB1 := Lib.hid (HB0.out.trans (hb1.mono hz1))
  have HX1 := Lib.hid (HX.out.below hb1 hz1)
  clear hb1 hf
  cases b with
  | false =>
    have e : Hid (r = 0) := Lib.hid (by rw [hr.out]; exact HF.out.no HOK.out)
    go_wp2
    go_ret
    exact ⟨ret_int e.out.symm, HB1.out⟩
  | true =>
    obtain ⟨d, hd, hmk⟩ := HF.out.yes
    have e : Hid (r = d.2.2) := Lib.hid (by rw [hr.out]; exact hmk)
    have hin : i < n := by rw [hn.out]; exact (List.getElem?_eq_some_iff.1 hd).1
    obtain ⟨ad, rfl, _, hpa⟩ := HX1.out i d hd
    have p2 := hpa.2.2
    clear hd hmk hpa
    go_wp2
    go_ret
    exact ⟨ret_int e.out.symm, HB1.out⟩
end Go.Proofs.Ytnlohijpcnoamaa
