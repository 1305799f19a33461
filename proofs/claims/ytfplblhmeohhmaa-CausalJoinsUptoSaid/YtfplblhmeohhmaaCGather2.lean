/- gather: a mark more is a mark at the end; dots once each. -/
import Derived.Test.YtfplblhmeohhmaaCGather
import Derived.Test.YtfplblhmeohhmaaCComp
namespace Go.Proofs.Ytfplblhmeohhmaa
open Go.RowKit

theorem setL_new {t : DotA} : ∀ {ms : List DotA}, (∀ m ∈ ms, ltA (actOf m) (actOf t)) → setL t ms false = ms ++ [t]
  | [], _ => by simp [setL]
  | x :: r, h => by
    rw [setL_gt (h x List.mem_cons_self), setL_new fun m hm => h m (List.mem_cons_of_mem _ hm)]
    rfl
theorem setL_old {t z : DotA} (hz : actOf z = actOf t) : ∀ {ms : List DotA}, (∀ m ∈ ms, ltA (actOf m) (actOf t)) → setL t (ms ++ [z]) false = ms ++ [(z.1, z.2.1, max z.2.2 t.2.2)]
  | [], _ => by
    show setL t [z] false = _
    unfold setL
    rw [if_pos hz]
    simp [setL]
  | x :: r, h => by
    rw [List.cons_append, setL_gt (h x List.mem_cons_self), setL_old hz fun m hm => h m (List.mem_cons_of_mem _ hm)]
    rfl
theorem Gath.below {L : List SpanA} {ms ds : List DotA} {t : SpanA} (h : Gath L ms ds) (hrise : ∀ s ∈ L, ¬ ltS t s) : ∀ m ∈ ms, ¬ ltA (actOf t.2) (actOf m) := fun m hm e => by
  obtain ⟨s, hs, h1⟩ := h.amk m hm
  exact hrise s hs (.inl (by rw [h1]; exact e))
/-- No mark yet: it comes to the end. -/
theorem Gath.new {L : List SpanA} {ms ds : List DotA} {t : SpanA} (h : Gath L ms ds) (hrise : ∀ s ∈ L, ¬ ltS t s) (h0 : markOf ms (actOf t.2) = 0) : setL t.2 ms false = ms ++ [t.2] := by
  refine setL_new fun m hm => ?_
  rcases ltA_tri (actOf m) (actOf t.2) with e | e | e
  · have h1 := markOf_of_mem h.ok hm
    have h2 := mayB_le ((okM_iff.1 h.ok).1 m hm)
    rw [e, h0] at h1
    omega
  · exact e
  · exact absurd e (h.below hrise m hm)
/-- A mark that grows is the last one. -/
theorem Gath.old {L : List SpanA} {ms ds : List DotA} {t : SpanA} (h : Gath L ms ds) (hrise : ∀ s ∈ L, ¬ ltS t s) (h0 : markOf ms (actOf t.2) ≠ 0) (hgt : markOf ms (actOf t.2) < t.2.2.2) :
    ∃ (r : List DotA) (z : DotA), ms = r ++ [z] ∧ setL t.2 ms false = r ++ [(z.1, z.2.1, t.2.2.2)] := by
  have hb := h.below hrise
  have hr := (okM_iff.1 h.ok).2
  obtain ⟨m, hm, e1, e2⟩ := (markOf_mem (ms := ms) (a := actOf t.2)).resolve_left h0
  rcases List.eq_nil_or_concat ms with e | ⟨r, z, e⟩
  · rw [e] at hm; cases hm
  rw [List.concat_eq_append] at e
  subst e
  have hp := List.pairwise_append.1 hr
  have hz : m = z := by
    rcases List.mem_append.1 hm with hm | hm
    · have h1 := hp.2.2 m hm z (by simp)
      rw [e1] at h1
      exact absurd h1 (hb z (by simp))
    · simpa using hm
  subst hz
  refine ⟨r, m, rfl, ?_⟩
  rw [setL_old e1 fun x hx => by
    have := hp.2.2 x hx m (by simp)
    rw [e1] at this
    exact this, show max m.2.2 t.2.2.2 = t.2.2.2 by omega]
/-- What gather makes of all spans. -/
theorem Gath.canon {L : List SpanA} {ms ds : List DotA} (h : Gath L ms ds) : Canon ms (compL ds) ∧ ∀ x : DotA, 1 ≤ x.2.2 → (InC ms (compL ds) x ↔ ∃ s ∈ L, Spans s x) := by
  refine ⟨⟨h.ok, compL_rise h.sort, fun d hd => h.may d (compL_mem.1 hd)⟩, fun x hx => ?_⟩
  rw [← h.same x hx]
  unfold InC
  rw [compL_mem]
end Go.Proofs.Ytfplblhmeohhmaa
