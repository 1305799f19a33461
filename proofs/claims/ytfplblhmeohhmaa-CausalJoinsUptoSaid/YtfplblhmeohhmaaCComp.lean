/- slices.Compact, the mathematics: a list rewritten in place. -/
import Derived.Test.YtfplblhmeohhmaaCRow
namespace Go.Proofs.Ytfplblhmeohhmaa
open Go.RowKit

/-- Each dot once. -/
def compL : List DotA → List DotA
  | [] => []
  | [x] => [x]
  | x :: y :: r => if x = y then compL (y :: r) else x :: compL (y :: r)
theorem compL_mem {a : DotA} : ∀ {l : List DotA}, a ∈ compL l ↔ a ∈ l
  | [] => by simp [compL]
  | [x] => by simp [compL]
  | x :: y :: r => by
    unfold compL
    split
    · rename_i e
      rw [compL_mem (l := y :: r), e]
      simp
    · rw [List.mem_cons, compL_mem (l := y :: r), ← List.mem_cons]
theorem compL_rise : ∀ {l : List DotA}, (l.Pairwise fun a b => a = b ∨ belB a b = true) → RiseD (compL l)
  | [], _ => by simp [compL, RiseD]
  | [x], _ => by simp [compL, RiseD]
  | x :: y :: r, h => by
    obtain ⟨h1, h2⟩ := List.pairwise_cons.1 h
    unfold compL
    split
    · exact compL_rise h2
    · rename_i hne
      refine List.pairwise_cons.2 ⟨fun b hb => ?_, compL_rise h2⟩
      rw [compL_mem] at hb
      have hxy := (h1 y List.mem_cons_self).resolve_left hne
      rcases List.mem_cons.1 hb with rfl | hb
      · exact hxy
      · rcases (List.pairwise_cons.1 h2).1 b hb with e | e
        · rw [← e]; exact hxy
        · exact belB_trans hxy e
theorem compL_snoc {x : DotA} : ∀ {l : List DotA} {y : DotA}, compL ((l ++ [y]) ++ [x]) = if y = x then compL (l ++ [y]) else compL (l ++ [y]) ++ [x]
  | [], y => by
    show compL [y, x] = if y = x then [y] else [y] ++ [x]
    unfold compL
    split
    · rename_i e; rw [e]; rfl
    · rfl
  | [z], y => by
    show compL [z, y, x] = if y = x then compL [z, y] else compL [z, y] ++ [x]
    have h := compL_snoc (x := x) (l := []) (y := y)
    have h' : compL [y, x] = if y = x then compL [y] else compL [y] ++ [x] := h
    unfold compL
    split
    · exact h'
    · rw [h']; split <;> rfl
  | z :: u :: r, y => by
    have h := compL_snoc (x := x) (l := u :: r) (y := y)
    simp only [List.cons_append] at h ⊢
    unfold compL
    split
    · exact h
    · rw [h]; split <;> rfl
theorem take_two {l : List DotA} {i : Nat} {y x : DotA} (hi : 1 ≤ i) (hy : l[i - 1]? = some y) (hx : l[i]? = some x) : l.take (i + 1) = (l.take (i - 1) ++ [y]) ++ [x] ∧ l.take i = l.take (i - 1) ++ [y] := by
  have e1 := take_at hx
  have e2 := take_at hy
  rw [show i - 1 + 1 = i by omega] at e2
  exact ⟨by rw [e1, e2], e2⟩
theorem compL_next {l : List DotA} {i : Nat} {y x : DotA} (hi : 1 ≤ i) (hy : l[i - 1]? = some y) (hx : l[i]? = some x) : compL (l.take (i + 1)) = if y = x then compL (l.take i) else compL (l.take i) ++ [x] := by
  obtain ⟨e1, e2⟩ := take_two hi hy hx
  rw [e1, e2]
  exact compL_snoc
theorem compL_one {l : List DotA} (h : l.length ≤ 1) : compL l = l := by
  match l, h with
  | [], _ => rfl
  | [x], _ => rfl
theorem compL_len : ∀ l : List DotA, (compL l).length ≤ l.length
  | [] => Nat.le_refl _
  | [_] => Nat.le_refl _
  | x :: y :: r => by
    unfold compL
    have h := compL_len (y :: r)
    split
    · simp only [List.length_cons] at h ⊢; omega
    · simp only [List.length_cons] at h ⊢; omega
/-- The first pass: nothing stands twice so far. -/
def Fresh (ds : List DotA) (k : Nat) : Prop := compL (ds.take k) = ds.take k
theorem Fresh.start (ds : List DotA) : Fresh ds 1 := compL_one (by rw [List.length_take]; omega)
theorem Fresh.next {ds : List DotA} {k : Nat} {y x : DotA} (h : Fresh ds k) (hk : 1 ≤ k) (hy : ds[k - 1]? = some y) (hx : ds[k]? = some x) (hne : x ≠ y) : Fresh ds (k + 1) := by
  unfold Fresh at *
  rw [compL_next hk hy hx, if_neg (Ne.symm hne), h, take_at hx]
/-- The second pass: the first m have come to k places; what stands behind is as it was. -/
structure Comp (ds : List DotA) (m k : Nat) (L : List DotA) : Prop where
  len : L.length = ds.length
  low : L.take k = compL (ds.take m)
  high : ∀ j, k ≤ j → L[j]? = ds[j]?
  lt : k < m
  le : m ≤ ds.length
theorem Comp.start {ds : List DotA} {k : Nat} {y x : DotA} (h : Fresh ds k) (hk : 1 ≤ k) (hy : ds[k - 1]? = some y) (hx : ds[k]? = some x) (he : x = y) : Comp ds (k + 1) k ds := by
  have hlt := (List.getElem?_eq_some_iff.1 hx).1
  refine ⟨rfl, ?_, fun _ _ => rfl, by omega, hlt⟩
  rw [compL_next hk hy hx, if_pos he.symm]
  exact h.symm
theorem Comp.skip {ds : List DotA} {m k : Nat} {L : List DotA} {y x : DotA} (h : Comp ds m k L) (hy : ds[m - 1]? = some y) (hx : ds[m]? = some x) (he : x = y) : Comp ds (m + 1) k L := by
  have hlt := (List.getElem?_eq_some_iff.1 hx).1
  have := h.lt
  refine ⟨h.len, ?_, h.high, by omega, hlt⟩
  rw [compL_next (by omega) hy hx, if_pos he.symm]
  exact h.low
theorem Comp.keep {ds : List DotA} {m k : Nat} {L : List DotA} {y x : DotA} (h : Comp ds m k L) (hy : ds[m - 1]? = some y) (hx : ds[m]? = some x) (hne : x ≠ y) : Comp ds (m + 1) (k + 1) (L.set k x) := by
  have hlt := (List.getElem?_eq_some_iff.1 hx).1
  have h1 := h.lt
  have h2 := h.le
  have h3 := h.len
  refine ⟨by rw [List.length_set]; exact h3, ?_, fun j hj => ?_, by omega, hlt⟩
  · rw [compL_next (by omega) hy hx, if_neg (Ne.symm hne), ← h.low]
    have e : (L.set k x)[k]? = some x := by rw [List.getElem?_set_self (by omega)]
    rw [take_at e, List.take_set_of_le (Nat.le_refl _)]
  · rw [List.getElem?_set_ne (by omega)]
    exact h.high j (by omega)
theorem Comp.done {ds : List DotA} {k : Nat} {L : List DotA} (h : Comp ds ds.length k L) : L.take k = compL ds := by rw [h.low, List.take_length]
end Go.Proofs.Ytfplblhmeohhmaa
