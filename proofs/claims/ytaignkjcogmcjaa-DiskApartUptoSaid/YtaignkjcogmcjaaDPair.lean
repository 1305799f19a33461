/- Two disks side by side; two pieces appended are both together: the mathematics. -/
import Derived.Test.YtaignkjcogmcjaaDBegunC
namespace Go.Proofs.Ytaignkjcogmcjaa
open Go.RowKit
open Go.Lib (byteCells byteCells_length)

/-- Two disks of the call's own, that share nothing. -/
structure Pair (w : World) (r1 : Int) (d1 : Nat) (t1 : Nat → Option Tag) (f1 : List FileA) (r2 : Int) (d2 : Nat) (t2 : Nat → Option Tag) (f2 : List FileA) (w' : World) : Prop where
  one : Has w r1 d1 t1 f1 w'
  two : Has w r2 d2 t2 f2 w'
  apart : ∀ k, t1 k = none ∨ t2 k = none

section
variable {w w' w2 : World} {r1 r2 : Int} {d1 d2 : Nat} {t1 t2 : Nat → Option Tag} {f1 f2 : List FileA}
theorem Pair.symm (h : Pair w r1 d1 t1 f1 r2 d2 t2 f2 w') : Pair w r2 d2 t2 f2 r1 d1 t1 f1 w' := ⟨h.two, h.one, fun k => (h.apart k).symm⟩
theorem Pair.alloc (h : Pair w r1 d1 t1 f1 r2 d2 t2 f2 w') (hb : Below w'.heap.size w' w2) : Pair w r1 d1 t1 f1 r2 d2 t2 f2 w2 := ⟨h.one.alloc hb, h.two.alloc hb, h.apart⟩
theorem Pair.left {gs : List FileA} (h : Pair w r1 d1 t1 f1 r2 d2 t2 f2 w') (hl : Left w' t1 d1 r1 gs w2) : ∃ t1', Pair w r1 d1 t1' gs r2 d2 t2 f2 w2 := by
  have hl0 := hl
  obtain ⟨t, a1, a2, a3⟩ := hl
  have hap : ∀ k, t k = none ∨ t2 k = none := fun k => by
    cases e2 : t2 k with
    | none => exact .inr rfl
    | some y =>
      refine .inl ?_
      cases e : t k with
      | none => rfl
      | some z =>
        have hk := h.two.1.tags k (by rw [e2]; simp)
        rcases a3 k (by rw [e]; simp) with h3 | h3
        · rcases h.apart k with h4 | h4
          · exact absurd h4 h3
          · rw [e2] at h4; cases h4
        · omega
  have hs : ∀ k, t2 k ≠ none → w2.heap[k]? = w'.heap[k]? := fun k hk => a2.block k (h.two.1.tags k hk) (by
    rcases h.apart k with h4 | h4
    · exact h4
    · exact absurd h4 hk)
  have hb : Below w.heap.size w w2 := ⟨a2.os.trans h.one.2.1.os, a2.tape.trans h.one.2.1.tape, a2.output.trans h.one.2.1.output, Nat.le_trans h.one.2.1.size a2.size, fun k hk => by
    refine (a2.block k (Nat.lt_of_lt_of_le hk h.one.2.1.size) ?_).trans (h.one.2.1.block k hk)
    cases e : t1 k with
    | none => rfl
    | some t => have := h.one.2.2 k (by rw [e]; simp); omega⟩
  refine ⟨t, ⟨a1, hb, fun k hk => ?_⟩, ⟨h.two.1.same a2.size hs, hb, h.two.2.2⟩, hap⟩
  rcases a3 k hk with h4 | h4
  · exact h.one.2.2 k h4
  · exact Nat.le_trans h.one.2.1.size h4
theorem Pair.below (h : Pair w r1 d1 t1 f1 r2 d2 t2 f2 w') : Below w.heap.size w w' := h.one.2.1
/-- A copy beside its disk. -/
theorem Has.pair {w3 : World} {c : Nat} {tc : Nat → Option Tag} {gs : List FileA} (h : Has w r1 d1 t1 f1 w') (hc : Has w' r2 c tc gs w3) : Pair w r1 d1 t1 f1 r2 c tc gs w3 := by
  have hb : Below w.heap.size w w3 := h.2.1.trans (hc.2.1.mono h.2.1.size)
  refine ⟨h.alloc hc.2.1, ⟨hc.1, hb, fun k hk => Nat.le_trans h.2.1.size (hc.2.2 k hk)⟩, fun k => ?_⟩
  cases e : t1 k with
  | none => exact .inl rfl
  | some y =>
    refine .inr ?_
    cases e2 : tc k with
    | none => rfl
    | some z =>
      have h1 := h.1.tags k (by rw [e]; simp)
      have h2 := hc.2.2 k (by rw [e2]; simp)
      omega
end

/-! ### pieces -/
theorem look_insF_eq {n : List UInt8} {x : List UInt8 × Nat} : ∀ {l : List FileA}, look l n = none → look (insF (n, x) l) n = some x
  | [], _ => by unfold insF look; simp
  | y :: r, h => by
    rw [look_cons] at h
    split at h
    · cases h
    · rename_i hy
      unfold insF
      split
      · rw [look_cons, if_pos rfl]
      · rw [look_cons, if_neg hy, look_insF_eq h]
theorem setF_insF {n : List UInt8} {x y : List UInt8 × Nat} : ∀ {l : List FileA}, (∀ f ∈ l, f.1 ≠ n) → setF (insF (n, x) l) n y = insF (n, y) l
  | [], _ => by simp [insF, setF]
  | f :: r, h => by
    have h1 : f.1 ≠ n := h f List.mem_cons_self
    have h2 : ∀ g ∈ r, g.1 ≠ n := fun g hg => h g (List.mem_cons_of_mem _ hg)
    unfold insF
    simp only
    split
    · show (if n = n then (n, y) else (n, x)) :: (if f.1 = n then (n, y) else f) :: setF r n y = _
      rw [if_pos rfl, if_neg h1, setF_gone h2]
    · show (if f.1 = n then (n, y) else f) :: setF (insF (n, x) r) n y = _
      rw [if_neg h1, setF_insF h2]
theorem setF_setF (n : List UInt8) (y z : List UInt8 × Nat) (l : List FileA) : setF (setF l n y) n z = setF l n z := by
  unfold setF
  rw [List.map_map]
  refine List.map_congr_left fun f _ => ?_
  show (if (if f.1 = n then (n, y) else f).1 = n then _ else _) = _
  by_cases h : f.1 = n
  · rw [if_pos h]; simp [h]
  · rw [if_neg h, if_neg h]
theorem fits_le {room : Int} {fs : List FileA} {b : List UInt8} : fits room fs b = true ↔ (used fs : Int) + b.length ≤ room := by unfold fits; simp

theorem pieces {room : Int} {fs : List FileA} {n a b : List UInt8} (hs : Sorted fs) (h1 : appC room fs n a = 0) (h2 : appC room (appF room fs n a) n b = 0) :
    appC room fs n (a ++ b) = 0 ∧ appF room fs n (a ++ b) = appF room (appF room fs n a) n b := by
  by_cases hc : canS n = true
  · cases hl : look fs n with
    | none =>
      have e1 : appC room fs n a = if fs.length < 64 ∧ fits room fs a = true then 0 else 7 := ans_gone hc hl
      rw [e1] at h1
      split at h1
      · rename_i hf
        have e2 : appF room fs n a = insF (n, a, 0) fs := (ans_gone hc hl).trans (if_pos hf)
        rw [e2] at h2 ⊢
        have hl2 : look (insF (n, a, 0) fs) n = some (a, 0) := look_insF_eq hl
        have e3 : appC room (insF (n, a, 0) fs) n b = if fits room (insF (n, a, 0) fs) b = true then 0 else 7 := ans_here hc hl2
        rw [e3] at h2
        split at h2
        · rename_i hg
          have hg' := fits_le.1 hg
          rw [used_insF] at hg'
          simp only at hg'
          have hab : fits room fs (a ++ b) = true := fits_le.2 (by rw [List.length_append]; omega)
          refine ⟨(ans_gone hc hl).trans (if_pos ⟨hf.1, hab⟩), ?_⟩
          have e4 : appF room fs n (a ++ b) = insF (n, a ++ b, 0) fs := (ans_gone hc hl).trans (if_pos ⟨hf.1, hab⟩)
          have e5 : appF room (insF (n, a, 0) fs) n b = setF (insF (n, a, 0) fs) n (a ++ b, 0) := (ans_here hc hl2).trans (if_pos hg)
          rw [e4, e5, setF_insF (look_none hl)]
        · cases h2
      · cases h1
    | some x =>
      have e1 : appC room fs n a = if fits room fs a = true then 0 else 7 := ans_here hc hl
      rw [e1] at h1
      split at h1
      · rename_i hf
        have e2 : appF room fs n a = setF fs n (x.1 ++ a, x.2) := (ans_here hc hl).trans (if_pos hf)
        rw [e2] at h2 ⊢
        have hl2 : look (setF fs n (x.1 ++ a, x.2)) n = some (x.1 ++ a, x.2) := by rw [look_setF, if_pos rfl, hl]; rfl
        have e3 : appC room (setF fs n (x.1 ++ a, x.2)) n b = if fits room (setF fs n (x.1 ++ a, x.2)) b = true then 0 else 7 := ans_here hc hl2
        rw [e3] at h2
        split at h2
        · rename_i hg
          have hg' := fits_le.1 hg
          have hu := used_setF hs (x.1 ++ a, x.2) hl
          simp only [List.length_append] at hu
          have hab : fits room fs (a ++ b) = true := fits_le.2 (by rw [List.length_append]; omega)
          refine ⟨(ans_here hc hl).trans (if_pos hab), ?_⟩
          have e4 : appF room fs n (a ++ b) = setF fs n (x.1 ++ (a ++ b), x.2) := (ans_here hc hl).trans (if_pos hab)
          have e5 : appF room (setF fs n (x.1 ++ a, x.2)) n b = setF (setF fs n (x.1 ++ a, x.2)) n ((x.1 ++ a) ++ b, x.2) := (ans_here hc hl2).trans (if_pos hg)
          rw [e4, e5, setF_setF, List.append_assoc]
        · cases h2
      · cases h1
  · have e1 : appC room fs n a = 6 := ans_bad (by simpa using hc)
    rw [e1] at h1
    cases h1
end Go.Proofs.Ytaignkjcogmcjaa
