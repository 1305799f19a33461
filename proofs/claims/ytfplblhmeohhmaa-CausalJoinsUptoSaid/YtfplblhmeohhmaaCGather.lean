/- gather: the mathematics. -/
import Derived.Test.YtfplblhmeohhmaaCSort
namespace Go.Proofs.Ytfplblhmeohhmaa
open Go.RowKit

/-- The span has the dot. -/
def Spans (s : SpanA) (x : DotA) : Prop := actOf s.2 = actOf x ∧ s.1 ≤ x.2.2 ∧ x.2.2 ≤ s.2.2.2
/-- A span that may be. -/
def OkS (s : SpanA) : Prop := mayB s.2 = true ∧ (s.1 = 1 ∨ s.1 = s.2.2.2)
structure Gath (L : List SpanA) (ms ds : List DotA) : Prop where
  ok : OkM ms
  sort : ds.Pairwise fun a b => a = b ∨ belB a b = true
  may : ∀ d ∈ ds, mayB d = true ∧ markOf ms (actOf d) + 1 < d.2.2
  same : ∀ x : DotA, 1 ≤ x.2.2 → (InC ms ds x ↔ ∃ s ∈ L, Spans s x)
  amk : ∀ m ∈ ms, ∃ s ∈ L, actOf s.2 = actOf m
  acl : ∀ d ∈ ds, ∃ s ∈ L, s.2 = d ∧ s.1 = d.2.2
theorem Gath.start : Gath [] [] [] := ⟨OkM.nil, List.Pairwise.nil, by simp, fun x hx => by simp [InC, markOf]; omega, by simp, by simp⟩
theorem Gath.skip {L : List SpanA} {ms ds : List DotA} {t : SpanA} (h : Gath L ms ds) (hle : t.2.2.2 ≤ markOf ms (actOf t.2)) : Gath (L ++ [t]) ms ds := by
  refine ⟨h.ok, h.sort, h.may, fun x hx => ?_, fun m hm => ?_, fun d hd => ?_⟩
  · rw [h.same x hx]
    constructor
    · rintro ⟨s, hs, h1⟩
      exact ⟨s, List.mem_append_left _ hs, h1⟩
    · rintro ⟨s, hs, h1⟩
      rcases List.mem_append.1 hs with hs | hs
      · exact ⟨s, hs, h1⟩
      · simp at hs
        rw [hs] at h1
        exact (h.same x hx).1 (.inl ⟨hx, by rw [← h1.1]; have := h1.2.2; omega⟩)
  · obtain ⟨s, hs, h1⟩ := h.amk m hm
    exact ⟨s, List.mem_append_left _ hs, h1⟩
  · obtain ⟨s, hs, h1⟩ := h.acl d hd
    exact ⟨s, List.mem_append_left _ hs, h1⟩
theorem Gath.cloud {L : List SpanA} {ms ds : List DotA} {t : SpanA} (h : Gath L ms ds) (hrise : ∀ s ∈ L, ¬ ltS t s) (hok : OkS t) (hgt : markOf ms (actOf t.2) + 1 < t.1) : Gath (L ++ [t]) ms (ds ++ [t.2]) := by
  have hmk := markOf_le h.ok (actOf t.2)
  have hm0 := mayB_le hok.1
  have he : t.1 = t.2.2.2 := hok.2.resolve_left (by omega)
  refine ⟨h.ok, ?_, fun d hd => ?_, fun x hx => ?_, fun m hm => ?_, fun d hd => ?_⟩
  · refine List.pairwise_append.2 ⟨h.sort, List.pairwise_singleton _ _, fun a ha b hb => ?_⟩
    simp at hb
    subst hb
    obtain ⟨s, hs, e1, e2⟩ := h.acl a ha
    have := hrise s hs
    rw [ltS_flat, e1, e2, he] at this
    rcases belB_tri a t.2 with e | e | e
    · exact .inl e
    · exact .inr e
    · rw [belB_iff] at e
      exact absurd e this
  · rcases List.mem_append.1 hd with hd | hd
    · exact h.may d hd
    · simp at hd
      rw [hd]
      exact ⟨hok.1, by omega⟩
  · have h2 : InC ms (ds ++ [t.2]) x ↔ InC ms ds x ∨ x = t.2 := by
      unfold InC
      rw [List.mem_append, List.mem_singleton]
      exact or_assoc.symm
    rw [h2, h.same x hx]
    constructor
    · rintro (⟨s, hs, h1⟩ | e)
      · exact ⟨s, List.mem_append_left _ hs, h1⟩
      · exact ⟨t, by simp, by rw [e]; exact ⟨rfl, by omega, Int.le_refl _⟩⟩
    · rintro ⟨s, hs, h1⟩
      rcases List.mem_append.1 hs with hs | hs
      · exact .inl ⟨s, hs, h1⟩
      · simp at hs
        rw [hs] at h1
        obtain ⟨e1, e2, e3⟩ := h1
        refine .inr ?_
        obtain ⟨x1, x2, x3⟩ := x
        obtain ⟨t0, t1, t2, t3⟩ := t
        simp only [actOf, Prod.mk.injEq] at *
        omega
  · obtain ⟨s, hs, h1⟩ := h.amk m hm
    exact ⟨s, List.mem_append_left _ hs, h1⟩
  · rcases List.mem_append.1 hd with hd | hd
    · obtain ⟨s, hs, h1⟩ := h.acl d hd
      exact ⟨s, List.mem_append_left _ hs, h1⟩
    · simp at hd
      exact ⟨t, by simp, hd.symm, by rw [hd]; exact he⟩
theorem Gath.mark {L : List SpanA} {ms ds : List DotA} {t : SpanA} (h : Gath L ms ds) (hrise : ∀ s ∈ L, ¬ ltS t s) (hok : OkS t) (hle : t.1 ≤ markOf ms (actOf t.2) + 1) : Gath (L ++ [t]) (setL t.2 ms false) ds := by
  have hm0 := mayB_le hok.1
  have hr := (okM_iff.1 h.ok).2
  have hno : ∀ d ∈ ds, actOf t.2 ≠ actOf d := fun d hd e => by
    obtain ⟨s, hs, e1, e2⟩ := h.acl d hd
    have h1 := hrise s hs
    have h2 := (h.may d hd).2
    rw [← e] at h2
    rw [ltS_flat, e1, e2] at h1
    obtain ⟨d1, d2, d3⟩ := d
    obtain ⟨t0, t1, t2, t3⟩ := t
    simp only [actOf, Prod.mk.injEq] at *
    omega
  refine ⟨setL_ok h.ok hok.1, h.sort, fun d hd => ⟨(h.may d hd).1, ?_⟩, fun x hx => ?_, fun m hm => ?_, fun d hd => ?_⟩
  · rw [markOf_setL (by omega) _ hr, if_neg (hno d hd)]
    exact (h.may d hd).2
  · have h2 : (∃ s ∈ L ++ [t], Spans s x) ↔ (∃ s ∈ L, Spans s x) ∨ Spans t x := by
      constructor
      · rintro ⟨s, hs, h1⟩
        rcases List.mem_append.1 hs with hs | hs
        · exact .inl ⟨s, hs, h1⟩
        · simp at hs; rw [hs] at h1; exact .inr h1
      · rintro (⟨s, hs, h1⟩ | h1)
        · exact ⟨s, List.mem_append_left _ hs, h1⟩
        · exact ⟨t, by simp, h1⟩
    rw [h2, ← h.same x hx]
    unfold InC Spans
    rw [markOf_setL (by omega) _ hr]
    by_cases e : actOf t.2 = actOf x
    · rw [if_pos e]
      rw [e] at hle
      constructor
      · rintro (h1 | h1)
        · by_cases hc : x.2.2 ≤ markOf ms (actOf x)
          · exact .inl (.inl ⟨hx, hc⟩)
          · exact .inr ⟨e, by omega, by omega⟩
        · exact .inl (.inr h1)
      · rintro ((h1 | h1) | h1)
        · exact .inl ⟨hx, by omega⟩
        · exact .inr h1
        · exact .inl ⟨hx, by have := h1.2.2; omega⟩
    · rw [if_neg e]
      constructor
      · exact .inl
      · rintro (h1 | h1)
        · exact h1
        · exact absurd h1.1 e
  · rcases setL_mem hr m hm with e | ⟨y, hy, e⟩
    · exact ⟨t, by simp, e.symm⟩
    · obtain ⟨s, hs, h1⟩ := h.amk y hy
      exact ⟨s, List.mem_append_left _ hs, h1.trans e.symm⟩
  · obtain ⟨s, hs, h1⟩ := h.acl d hd
    exact ⟨s, List.mem_append_left _ hs, h1⟩
end Go.Proofs.Ytfplblhmeohhmaa
