/- A context's one form is told by its dots. -/
import Derived.Test.YtnlohijpcnoamaaCPrunedWalk
namespace Go.Proofs.Ytnlohijpcnoamaa
open Go.RowKit

theorem eq_of_rise {α : Type} {r : α → α → Prop} (irr : ∀ a, ¬ r a a) (tr : ∀ a b c, r a b → r b c → r a c) : ∀ (l l' : List α), l.Pairwise r → l'.Pairwise r → (∀ x, x ∈ l ↔ x ∈ l') → l = l'
  | [], [], _, _, _ => rfl
  | [], y :: s, _, _, h => by have := (h y).2 List.mem_cons_self; cases this
  | x :: s, [], _, _, h => by have := (h x).1 List.mem_cons_self; cases this
  | x :: s, y :: t, hs, ht, h => by
    obtain ⟨hs1, hs2⟩ := List.pairwise_cons.1 hs
    obtain ⟨ht1, ht2⟩ := List.pairwise_cons.1 ht
    have hxy : x = y := by
      rcases List.mem_cons.1 ((h x).1 List.mem_cons_self) with e | hx
      · exact e
      · rcases List.mem_cons.1 ((h y).2 List.mem_cons_self) with e | hy
        · exact e.symm
        · exact absurd (tr x y x (hs1 y hy) (ht1 x hx)) (irr x)
    subst hxy
    rw [eq_of_rise irr tr s t hs2 ht2 fun z => ?_]
    constructor
    · intro hz
      rcases List.mem_cons.1 ((h z).1 (List.mem_cons_of_mem _ hz)) with e | hz2
      · rw [e] at hz; exact absurd (hs1 x hz) (irr x)
      · exact hz2
    · intro hz
      rcases List.mem_cons.1 ((h z).2 (List.mem_cons_of_mem _ hz)) with e | hz2
      · rw [e] at hz; exact absurd (ht1 x hz) (irr x)
      · exact hz2
theorem not_next {ms ds : List DotA} (h : Canon ms ds) (a : ActA) : ¬ InC ms ds (a.1, a.2, markOf ms a + 1) := by
  obtain ⟨a1, a2⟩ := a
  rintro (h1 | h1)
  · have := h1.2
    simp only [actOf] at this
    omega
  · have := (h.2.2 _ h1).2
    simp only [actOf] at this
    omega
theorem mark_le_of {ms ds ms' ds' : List DotA} (h : Canon ms ds) (hs : ∀ x : DotA, 1 ≤ x.2.2 → (InC ms ds x ↔ InC ms' ds' x)) (a : ActA) : markOf ms' a ≤ markOf ms a := by
  obtain ⟨a1, a2⟩ := a
  have hm := markOf_le h.1 (a1, a2)
  by_cases hle : markOf ms' (a1, a2) ≤ markOf ms (a1, a2)
  · exact hle
  · exact absurd ((hs (a1, a2, markOf ms (a1, a2) + 1) (by simp only; omega)).2 (.inl ⟨by simp only; omega, by simp only [actOf]; omega⟩)) (not_next h (a1, a2))
theorem mem_marks {ms : List DotA} (h : OkM ms) (m : DotA) : m ∈ ms ↔ 1 ≤ m.2.2 ∧ markOf ms (actOf m) = m.2.2 := by
  constructor
  · intro hm
    have := mayB_le ((okM_iff.1 h).1 m hm)
    exact ⟨by omega, markOf_of_mem h hm⟩
  · rintro ⟨h1, h2⟩
    rcases markOf_mem (ms := ms) (a := actOf m) with e | ⟨x, hx, e1, e2⟩
    · omega
    · have : x = m := by
        obtain ⟨x1, x2, x3⟩ := x
        obtain ⟨m1, m2, m3⟩ := m
        simp only [actOf, Prod.mk.injEq] at e1 e2 h2 ⊢
        omega
      rw [← this]; exact hx
/-- Two contexts in the one form that have the same dots are the same. -/
theorem canon_eq {ms ds ms' ds' : List DotA} (h : Canon ms ds) (h' : Canon ms' ds') (hs : ∀ x : DotA, 1 ≤ x.2.2 → (InC ms ds x ↔ InC ms' ds' x)) : ms = ms' ∧ ds = ds' := by
  have hm : ∀ a, markOf ms a = markOf ms' a := fun a => Int.le_antisymm (mark_le_of h' (fun x hx => (hs x hx).symm) a) (mark_le_of h hs a)
  constructor
  · refine eq_of_rise (r := fun a b : DotA => ltA (actOf a) (actOf b)) (fun a => ltA_irrefl _) (fun a b c => ltA_trans) ms ms' (okM_iff.1 h.1).2 (okM_iff.1 h'.1).2 fun x => ?_
    rw [mem_marks h.1, mem_marks h'.1, hm]
  · refine eq_of_rise (r := fun a b : DotA => belB a b = true) (fun a e => by rw [belB_irrefl] at e; cases e) (fun a b c => belB_trans) ds ds' h.2.1 h'.2.1 fun x => ?_
    have key : ∀ {ms ds ms' ds' : List DotA}, Canon ms ds → Canon ms' ds' → (∀ a, markOf ms a = markOf ms' a) → (∀ x : DotA, 1 ≤ x.2.2 → (InC ms ds x ↔ InC ms' ds' x)) → x ∈ ds → x ∈ ds' := by
      intro ms ds ms' ds' h h' hm hs hx
      have h1 := h.2.2 x hx
      have h2 := mayB_le h1.1
      rcases (hs x (by omega)).1 (.inr hx) with h3 | h3
      · have := h3.2
        rw [← hm] at this
        omega
      · exact h3
    exact ⟨key h h' hm hs, key h' h (fun a => (hm a).symm) fun x hx => (hs x hx).symm⟩
/-- What is within one context. -/
theorem leq_iff {ms ds ms1 ds1 : List DotA} (h : OkC ms ds) (h1 : OkC ms1 ds1) : LeqC ms ds ms1 ds1 ↔ ∀ x : DotA, 1 ≤ x.2.2 → InC ms ds x → InC ms1 ds1 x := by
  constructor
  · rintro ⟨hm, hd⟩ x hx (h2 | h2)
    · have hmk : markOf ms (actOf x) ≤ markOf ms1 (actOf x) := by
        rcases markOf_mem (ms := ms) (a := actOf x) with e | ⟨y, hy, e1, e2⟩
        · have := markOf_le h1.2.2.1 (actOf x); omega
        · have := hm y hy
          rw [e1] at this
          omega
      exact .inl ⟨hx, by omega⟩
    · exact hd x h2
  · intro hs
    refine ⟨fun m hm => ?_, fun d hd => ?_⟩
    · have hmay := mayB_le ((okM_iff.1 h.2.2.1).1 m hm)
      have hmk := markOf_le h1.2.2.1 (actOf m)
      by_cases hle : m.2.2 ≤ markOf ms1 (actOf m)
      · exact hle
      · have e : actOf (m.1, m.2.1, markOf ms1 (actOf m) + 1) = actOf m := rfl
        have := hs (m.1, m.2.1, markOf ms1 (actOf m) + 1) (by simp only; omega) (.inl ⟨by simp only; omega, by rw [e, markOf_of_mem h.2.2.1 hm]; simp only; omega⟩)
        exact absurd this (not_next h1.canon (actOf m))
    · have := mayB_le (h.canon.2.2 d hd).1
      exact hs d (by omega) (.inr hd)
end Go.Proofs.Ytnlohijpcnoamaa
