/- CausalPruned, walked. -/
import Derived.Test.YtnlohijpcnoamaaCPrune
import Derived.Test.YtnlohijpcnoamaaCLeq
namespace Go.Proofs.Ytnlohijpcnoamaa
open Go.RowKit Go.Sort Go.BigFrame
open Go.Lib (byteCells byteCells_length)

theorem OkC.canon {ms ds : List DotA} (h : OkC ms ds) : Canon ms ds := by
  obtain ⟨l1, l2, h1, h2, h3⟩ := h
  refine ⟨h1, ?_, fun d hd => ?_⟩
  · clear h1 h2 l1 l2
    induction ds with
    | nil => exact List.Pairwise.nil
    | cons x r ih =>
      have ih' := ih fun j a b ha hb => h3 (j + 1) a b (by simpa using ha) (by simpa using hb)
      refine List.pairwise_cons.2 ⟨fun y hy => ?_, ih'⟩
      cases r with
      | nil => cases hy
      | cons z s =>
        have hz := cmpD_bel.1 (h3 0 x z rfl rfl)
        rcases List.mem_cons.1 hy with rfl | hy
        · exact hz
        · exact belB_trans hz ((List.pairwise_cons.1 ih').1 y hy)
  · obtain ⟨j, hj⟩ := List.getElem?_of_mem hd
    exact h2 j d hj
theorem markOf_of_mem {ms : List DotA} (h : OkM ms) {m : DotA} (hm : m ∈ ms) : markOf ms (actOf m) = m.2.2 := by
  obtain ⟨j, hj⟩ := List.getElem?_of_mem hm
  exact markOf_at hj rfl fun i x hi hx => ltA_ne (h.lt' hi hx hj)
theorem markOf_prn (a b : ActA) : ∀ ms : List DotA, markOf (prn a ms) b = if b = a then 0 else markOf ms b
  | [] => by simp [prn, markOf]
  | x :: r => by
    have ih := markOf_prn a b r
    unfold prn at ih ⊢
    rw [List.filter_cons]
    by_cases h : actOf x = a
    · rw [if_neg (by simpa using h), ih, markOf_cons]
      by_cases hb : b = a
      · rw [if_pos hb, if_pos hb]
      · rw [if_neg hb, if_neg hb, if_neg (fun e => hb (e.symm.trans h))]
    · rw [if_pos (by simpa using h), markOf_cons, markOf_cons, ih]
      by_cases hb : b = a
      · rw [if_pos hb, if_neg (fun e => h (e.trans hb)), if_pos hb]
      · rw [if_neg hb, if_neg hb]
theorem prn_mem {a : ActA} {l : List DotA} {x : DotA} : x ∈ prn a l ↔ x ∈ l ∧ actOf x ≠ a := by
  unfold prn
  rw [List.mem_filter]
  simp
theorem OkC.prn {ms ds : List DotA} (h : OkC ms ds) (a : ActA) : OkC (prn a ms) (prn a ds) := by
  obtain ⟨h1, h2, h3⟩ := h.canon
  obtain ⟨h4, h5⟩ := okM_iff.1 h1
  refine Canon.ok ⟨okM_iff.2 ⟨fun m hm => h4 m (prn_mem.1 hm).1, h5.sublist List.filter_sublist⟩, h2.sublist List.filter_sublist, fun d hd => ?_⟩ (Nat.le_trans (prn_len a ms) h.1) (Nat.le_trans (prn_len a ds) h.2.1)
  obtain ⟨e1, e2⟩ := prn_mem.1 hd
  rw [markOf_prn, if_neg e2]
  exact h3 d e1
theorem topOf_prn (a : ActA) (ms ds : List DotA) : topOf (prn a ms) (prn a ds) a = 0 := by
  unfold topOf
  rw [markOf_prn, if_pos rfl]
  have : ∀ (l : List DotA), (∀ d ∈ l, actOf d ≠ a) → l.foldl (topF a) 0 = 0 := by
    intro l
    induction l with
    | nil => intro _; rfl
    | cons x r ih =>
      intro h
      rw [List.foldl_cons, show topF a 0 x = 0 by unfold topF; rw [if_neg (h x List.mem_cons_self)]]
      exact ih fun d hd => h d (List.mem_cons_of_mem _ hd)
  exact this _ fun d hd => (prn_mem.1 hd).2
theorem leq_prn {ms ds : List DotA} (h : OkC ms ds) (a : ActA) : LeqC (prn a ms) (prn a ds) ms ds :=
  ⟨fun m hm => by rw [markOf_of_mem h.2.2.1 (prn_mem.1 hm).1]; exact Int.le_refl _, fun d hd => .inr (prn_mem.1 hd).1⟩
theorem inC_prn (ms ds : List DotA) (a : ActA) (d : DotA) : InC (prn a ms) (prn a ds) d ↔ InC ms ds d ∧ actOf d ≠ a := by
  unfold InC
  rw [markOf_prn, prn_mem]
  by_cases h : actOf d = a
  · rw [if_pos h]
    constructor
    · rintro (h1 | h1)
      · omega
      · exact absurd h h1.2
    · exact fun h1 => absurd h h1.2
  · rw [if_neg h]
    constructor
    · rintro (h1 | h1)
      · exact ⟨.inl h1, h⟩
      · exact ⟨.inr h1.1, h⟩
    · rintro ⟨h1 | h1, h2⟩
      · exact .inl h1
      · exact .inr ⟨h1, h2⟩
/-- A bool that is told, in the worlds of a region. -/
theorem tells_re {f : FuncId} {args : Array Value} {P : Prop} {b : Bool} (hb : b = true ↔ P) {W : World} {d : Nat} {os : Array Obj} (h : Calls Try.prog f args (grow (redrawn W d) os) (Tells P (grow (redrawn W d) os))) :
    Calls Try.prog f args (grow (redrawn W d) os) fun e w'' => e = .returned (.bool b) ∧ ∃ p : Regrown, w'' = grow (redrawn W p.d) p.os :=
  Calls.regrown_of (h.mono fun e w' ⟨b', he, hi, hbl⟩ => ⟨by
    rw [he]
    have : b' = b := by rw [Bool.eq_iff_iff, hi, hb]
    rw [this], hbl⟩)

end Go.Proofs.Ytnlohijpcnoamaa
