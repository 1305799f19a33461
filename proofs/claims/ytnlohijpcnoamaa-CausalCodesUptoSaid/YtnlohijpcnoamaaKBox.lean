/- Boxes: a dot in a block, a context in a block. -/
import Derived.Test.YtnlohijpcnoamaaCJoin
namespace Go.Proofs.Ytnlohijpcnoamaa
open Go.RowKit Go.Sort Go.BigFrame
open Go.Lib (byteCells byteCells_length)

theorem rd_oneK (w : World) (g : Nat) (d : DotA) (h : BoxD w g d) (hg : g < w.heap.size) : RdD w (.slice (some ⟨g, 0, none⟩) 1 1) [d] :=
  ⟨some ⟨g, 0, none⟩, 1, rfl, Nat.le_refl _, fun j x hx => ⟨_, rfl, hg, by
    cases j with
    | zero =>
      have e : d = x := by simpa using hx
      subst e
      rw [show (⟨g, 0, none⟩ : Addr).add (0 * 3) = ⟨g, 0, none⟩ by simp [Addr.add]]
      exact ⟨h.1, h.2.1, h.2.2⟩
    | succ j => simp at hx⟩⟩
/-- A context lies in a block. -/
structure BK (w : World) (g : Nat) (a b : Value) (ms ds : List DotA) : Prop where
  lt : g < w.heap.size
  c0 : w.cell? ⟨g, 0, none⟩ = some a
  c1 : w.cell? ⟨g, 1, none⟩ = some b
  rd : RdC w (.agg #[a, b]) ms ds
theorem BK.below {w w' : World} {g : Nat} {a b : Value} {ms ds : List DotA} (h : BK w g a b ms ds) (hb : Below w.heap.size w w') : BK w' g a b ms ds :=
  ⟨Nat.lt_of_lt_of_le h.lt hb.size, (hb.cell (p := ⟨g, 0, none⟩) h.lt).trans h.c0, (hb.cell (p := ⟨g, 1, none⟩) h.lt).trans h.c1, h.rd.below hb⟩
theorem BK.made {w : World} {base base1 : Nat} {T T1 : TypeId} {a b : Value} {ms ds : List DotA} (C : TypeId) (hm : OwnD T w base a ms) (hd : OwnD T1 w base1 b ds) : BK (w.alloc (.cells #[a, b] C)) w.heap.size a b ms ds :=
  ⟨by simp, box_cell _ _ _ 0, box_cell _ _ _ 1, (hm.rdC hd).below (below_alloc (Below.refl _ _))⟩
end Go.Proofs.Ytnlohijpcnoamaa
