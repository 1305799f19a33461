/- What is synced stays at a file's beginning: the mathematics. -/
import Derived.Test.YtaignkjcogmcjaaDBegun
namespace Go.Proofs.Ytaignkjcogmcjaa
open Go.RowKit
open Go.Lib (byteCells byteCells_length)

theorem look_cons (f : FileA) (r : List FileA) (n : List UInt8) : look (f :: r) n = if f.1 = n then some f.2 else look r n := by
  unfold look
  by_cases h : f.1 = n
  · simp [h]
  · simp [h]
theorem look_insF_ne {x : FileA} {n : List UInt8} (h : x.1 ≠ n) : ∀ l : List FileA, look (insF x l) n = look l n
  | [] => by unfold insF; rw [look_cons, if_neg h]
  | y :: r => by
    unfold insF
    split
    · rw [look_cons, if_neg h]
    · rw [look_cons, look_cons, look_insF_ne h r]
theorem look_strike_ne {m n : List UInt8} (h : m ≠ n) : ∀ l : List FileA, look (strike l m) n = look l n
  | [] => rfl
  | y :: r => by
    by_cases hy : y.1 = m
    · rw [strike_cons_eq hy, look_strike_ne h r, look_cons, if_neg (by rw [hy]; exact h)]
    · rw [strike_cons_ne hy, look_cons, look_cons, look_strike_ne h r]
theorem look_setF {m : List UInt8} (y : List UInt8 × Nat) (n : List UInt8) : ∀ l : List FileA, look (setF l m y) n = if n = m then (look l n).map (fun _ => y) else look l n
  | [] => by unfold setF look; simp
  | f :: r => by
    have e : setF (f :: r) m y = (if f.1 = m then (m, y) else f) :: setF r m y := rfl
    rw [e, look_cons, look_cons, look_setF y n r]
    by_cases h1 : f.1 = m <;> by_cases h2 : n = m <;> by_cases h3 : f.1 = n <;> simp_all
theorem look_crash (ts : List TearA) (n : List UInt8) : ∀ l : List FileA, look (crashF l ts) n = (look l n).map fun x => (tornB ts (n, x), (tornB ts (n, x)).length)
  | [] => rfl
  | f :: r => by
    have e : crashF (f :: r) ts = tornF ts f :: crashF r ts := rfl
    rw [e, look_cons, look_cons, look_crash ts n r]
    by_cases h : f.1 = n
    · subst h
      rw [if_pos (show (tornF ts f).1 = f.1 from rfl), if_pos rfl]
      rfl
    · rw [if_neg (by exact h), if_neg h]

/-- The file is there, and begins with these bytes, which are synced. -/
def Keeps (fs : List FileA) (n p : List UInt8) : Prop := ∃ x, look fs n = some x ∧ p.length ≤ x.2 ∧ p <+: x.1
/-- May the step take the file away? -/
def gone (o : DoA) (n : List UInt8) : Prop := opN o.op = 7 ∨ (opN o.op = 5 ∧ o.nm.data.toList = n) ∨ (opN o.op = 4 ∧ (o.nm.data.toList = n ∨ o.ot.data.toList = n))

theorem keeps_set {fs : List FileA} {n p m : List UInt8} {x y : List UInt8 × Nat} (h : Keeps fs n p) (hl : look fs m = some x) (h2 : x.2 ≤ y.2) (h1 : x.1 <+: y.1) : Keeps (setF fs m y) n p := by
  obtain ⟨z, hz, a, b⟩ := h
  unfold Keeps
  rw [look_setF]
  by_cases e : n = m
  · subst e
    rw [hl] at hz
    injection hz with hz
    subst hz
    rw [if_pos rfl, hl]
    exact ⟨y, rfl, Nat.le_trans a h2, b.trans h1⟩
  · rw [if_neg e]
    exact ⟨z, hz, a, b⟩

theorem call_keeps {room : Int} {fs : List FileA} {n p : List UInt8} {o : DoA} (hx : ∀ f ∈ fs, f.2.2 ≤ f.2.1.length) (h : Keeps fs n p) (hg : ¬ gone o n) : Keeps (callF room fs o) n p := by
  have h8 := op_lt o.op
  have app : ∀ m b, Keeps (appF room fs m b) n p := fun m b => by
    unfold appF ans
    split
    · exact h
    · cases hl : look fs m with
      | none =>
        simp only
        split
        · obtain ⟨x, h1, h2, h3⟩ := h
          exact ⟨x, by rw [look_insF_ne (fun e => by simp only at e; rw [e, h1] at hl; cases hl)]; exact h1, h2, h3⟩
        · exact h
      | some x =>
        simp only
        split
        · exact keeps_set h hl (Nat.le_refl _) (List.prefix_append _ _)
        · exact h
  unfold callF
  match hk : opN o.op, h8 with
  | 0, _ => exact app _ _
  | 1, _ => exact app _ _
  | 2, _ => exact app _ _
  | 3, _ =>
    simp only
    unfold syncF ans
    split
    · exact h
    · cases hl : look fs o.nm.data.toList with
      | none => exact h
      | some x => exact keeps_set h hl (hx _ (look_some hl)) (List.prefix_refl _)
  | 4, _ =>
    simp only
    unfold renF
    split
    · cases hl : look fs o.nm.data.toList with
      | none => exact h
      | some x =>
        obtain ⟨z, h1, h2, h3⟩ := h
        have n1 : o.nm.data.toList ≠ n := fun e => hg (.inr (.inr ⟨hk, .inl e⟩))
        have n2 : o.ot.data.toList ≠ n := fun e => hg (.inr (.inr ⟨hk, .inr e⟩))
        refine ⟨z, ?_, h2, h3⟩
        simp only
        unfold place
        rw [look_insF_ne n2, look_strike_ne n2, look_strike_ne n1]
        exact h1
    · exact h
  | 5, _ =>
    simp only
    unfold remF ans
    split
    · exact h
    · cases hl : look fs o.nm.data.toList with
      | none => exact h
      | some x =>
        obtain ⟨z, h1, h2, h3⟩ := h
        exact ⟨z, by simp only; rw [look_strike_ne (fun e => hg (.inr (.inl ⟨hk, e⟩)))]; exact h1, h2, h3⟩
  | 6, _ =>
    simp only
    unfold crashFs
    split
    · obtain ⟨z, h1, h2, h3⟩ := h
      unfold Keeps
      rw [look_crash, h1]
      have hz := hx _ (look_some h1)
      simp only at hz
      have hp : p <+: tornB o.ts (n, z) := by
        unfold tornB
        have : p <+: z.1.take (z.2 + keepOf o.ts n) := by
          rw [List.prefix_take_iff]
          exact ⟨h3, by omega⟩
        exact this.trans (List.prefix_append _ _)
      exact ⟨_, rfl, hp.length_le, hp⟩
    · exact h
  | 7, _ => exact absurd (.inl hk) hg
end Go.Proofs.Ytaignkjcogmcjaa
