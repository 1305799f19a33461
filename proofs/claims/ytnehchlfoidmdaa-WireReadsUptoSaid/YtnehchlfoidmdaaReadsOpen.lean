/- A slice of looks that came in. -/
import Derived.Test.YtnehchlfoidmdaaEnd
import Derived.Deep.SlicePairs
namespace Go.Proofs.Ytnehchlfoidmdaa
open Go.ChangeShapes Go.WideShapes Go.ChangeAt Go.RowKit

section
variable {H : Type} {enc : TypeId × Value → H}

theorem looks_bulk {H : Type} : ∀ l : List (DataW H), l.length ≤ Rows.uptoBulkAll l := by
  intro l
  induction l with
  | nil => exact Nat.zero_le _
  | cons x r ih =>
    have : 1 ≤ Rows.uptoBulk x := by
      cases x with
      | lit l => cases l <;> simp [Rows.uptoBulk]
      | _ => simp [Rows.uptoBulk]
    simp only [Rows.uptoBulkAll, List.length_cons]; omega

theorem open_looks {W : World} {base : Nat} {v : Value} {d : DataW H} {p : List MemPlace} (hval : Value.okWide Try.prog W .any base 35 v) (h : DataW.Trod enc Try.prog W 0 (fun _ => true) true 35 v d p) :
    ∃ (ls : List (Int × Int)) (A : Option Addr) (c : Nat), v = .slice A ls.length c ∧ ls.length ≤ Rows.uptoBulk d ∧
      (∀ i (h : i < ls.length), ∃ ad, A = some ad ∧ ad.block < W.heap.size ∧ W.cell? (ad.add (i * 2)) = some (.int .i64 ls[i].1) ∧ W.cell? (ad.add (i * 2 + 1)) = some (.int .i64 ls[i].2)) := by
  obtain ⟨a1, len, cap, rfl⟩ := okWide_slice Try.underlying35 hval
  obtain ⟨fuel, hf⟩ := h
  rcases Go.Deep.open_slice_pairs Try.underlying35 Try.underlying42 (by kernel_rfl) rfl rfl (by kernel_rfl) (by kernel_rfl) hf with ⟨hcs, hx⟩ | ⟨a, len', cap', m, n, V0, V1, D0, D1, P0, P1, hcs, hb, hl, hm, hmm, hx, hi⟩
  · simp [Value.cells] at hcs
    obtain ⟨rfl, rfl, rfl⟩ := hcs
    exact ⟨[], none, 0, rfl, Nat.zero_le _, fun i h => absurd h (by simp)⟩
  · simp [Value.cells] at hcs
    obtain ⟨rfl, rfl, rfl⟩ := hcs
    simp only [Prod.mk.injEq] at hx
    obtain ⟨rfl, rfl⟩ := hx
    simp only [if_true] at hmm
    have hnum : ∀ i, i < len → (∃ z, V0 i = .int .i64 z) ∧ (∃ z, V1 i = .int .i64 z) := fun i hil => by
      obtain ⟨_, _, h0, h1⟩ := hi i (by omega)
      obtain ⟨z0, e0, _⟩ := DataW.trod_int Try.underlying3 h0
      obtain ⟨z1, e1, _⟩ := DataW.trod_int Try.underlying3 h1
      exact ⟨⟨z0, by simpa using e0⟩, ⟨z1, by simpa using e1⟩⟩
    refine ⟨(List.range len).map fun i => (intOf (V0 i), intOf (V1 i)), some a, cap, by simp, ?_, fun i hil => ?_⟩
    · have h2 := looks_bulk ((List.range len).map fun i => (DataW.agg [D0 i, D1 i] : DataW H))
      simp only [Rows.uptoBulk]
      simp only [List.length_map, List.length_range] at h2 ⊢
      omega
    · have hil' : i < len := by simpa using hil
      obtain ⟨⟨z0, e0⟩, ⟨z1, e1⟩⟩ := hnum i hil'
      obtain ⟨c0, c1, _, _⟩ := hi i (by omega)
      have hbl := World.block_lt_of_cell? W _ c0
      rw [add_block] at hbl
      refine ⟨a, rfl, hbl, ?_, ?_⟩
      · rw [c0, e0]; simp [e0, intOf]
      · rw [c1, e1]; simp [e1, intOf]
end
end Go.Proofs.Ytnehchlfoidmdaa
