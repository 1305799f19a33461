/- A crash without junk leaves beginnings: the mathematics. -/
import Derived.Test.YtaignkjcogmcjaaDPair
namespace Go.Proofs.Ytaignkjcogmcjaa
open Go.RowKit
open Go.Lib (byteCells byteCells_length)

/-- Tears without their junk. -/
def strip (ts : List TearA) : List TearA := ts.map fun t => (t.1, t.2.1, [])
theorem strip_length (ts : List TearA) : (strip ts).length = ts.length := by unfold strip; simp
theorem strip_mem {ts : List TearA} {t : TearA} (h : t ∈ strip ts) : t.2.2 = [] ∧ ∃ u ∈ ts, u.1 = t.1 ∧ u.2.1 = t.2.1 := by
  obtain ⟨u, hu, rfl⟩ := List.mem_map.1 h
  exact ⟨rfl, u, hu, rfl, rfl⟩
theorem strip_take (ts : List TearA) (k : Nat) : strip (ts.take k) = (strip ts).take k := by unfold strip; rw [List.map_take]
theorem junk_strip (ts : List TearA) (n : List UInt8) : junkOf (strip ts) n = [] := by
  unfold junkOf
  cases e : lookT (strip ts) n with
  | none => rfl
  | some t => exact (strip_mem (lookT_mem e).1).1
/-- What a crash without junk leaves of a file: a beginning, at least what was synced. -/
theorem begins {fs : List FileA} {ts : List TearA} (h : tearC fs [] (strip ts) = 0) {n : List UInt8} {x : List UInt8 × Nat} (hl : look fs n = some x) (hx : x.2 ≤ x.1.length) :
    ∃ y, look (crashF fs (strip ts)) n = some (y, y.length) ∧ x.2 ≤ y.length ∧ y <+: x.1 := by
  have h1 := torn_le h hl hx
  have e : tornB (strip ts) (n, x) = x.1.take (x.2 + keepOf (strip ts) n) := by
    unfold tornB
    rw [junk_strip, List.append_nil]
  refine ⟨x.1.take (x.2 + keepOf (strip ts) n), ?_, ?_, List.take_prefix _ _⟩
  · rw [look_crash, hl, ← e]
    rfl
  · rw [List.length_take]; omega
theorem crash_full {fs : List FileA} {ts : List TearA} : ∀ f ∈ crashF fs ts, f.2.2 = f.2.1.length := fun f hf => by
  obtain ⟨g, _, rfl⟩ := List.mem_map.1 hf
  rfl
theorem crash_again {gs : List FileA} (h : ∀ f ∈ gs, f.2.2 = f.2.1.length) : crashF gs [] = gs := by
  unfold crashF
  conv => rhs; rw [← List.map_id gs]
  refine List.map_congr_left fun f hf => ?_
  have h1 := h f hf
  have e : tornB [] f = f.2.1 := by
    unfold tornB keepOf junkOf
    show f.2.1.take (f.2.2 + 0) ++ [] = f.2.1
    rw [List.append_nil, Nat.add_zero, h1, List.take_of_length_le (Nat.le_refl _)]
  unfold tornF
  rw [e, ← h1]
  rfl

/-- A disk beside one that a call has turned. -/
theorem Holds.beside {w' w2 : World} {r1 r2 : Int} {d1 d2 : Nat} {t1 t2 : Nat → Option Tag} {f2 gs : List FileA} (h : Holds w' t2 d2 r2 f2) (ha : ∀ k, t1 k = none ∨ t2 k = none) (hl : Left w' t1 d1 r1 gs w2) : Holds w2 t2 d2 r2 f2 := by
  obtain ⟨t, a1, a2, a3⟩ := hl
  exact h.same a2.size fun k hk => a2.block k (h.tags k hk) (by
    rcases ha k with h4 | h4
    · exact h4
    · exact absurd h4 hk)
theorem tears_none (w : World) (lo : Nat) : RdTearsL w lo (.slice none 0 0) [] := ⟨none, 0, rfl, Nat.le_refl _, fun j t hj => by simp at hj⟩
end Go.Proofs.Ytaignkjcogmcjaa
