/- slices.Clone and slices.Equal at bytes: their contracts. -/
import Derived.Test.YtakmndfcelghfaaGreatDoorBase
namespace Go.Proofs.YtakmndfcelghfaaGreatDoor
open Go.RowKit
open Go.Lib (byteCells byteCells_length byteCells_append strCells strCells_eq)

/-- The call hands back a slice of its own that holds these bytes; nothing that was there has turned. -/
def Gives (bs : List UInt8) (w : World) (e : Ending) (w' : World) : Prop := ∃ v, e = .returned v ∧ Own w' w.heap.size v bs ∧ Below w.heap.size w w'

set_option maxHeartbeats 400000 in
theorem clone_any (v : Value) (bs : List UInt8) (w : World) (h : Rd w 0 w.heap.size v bs) (hl : bs.length ≤ 140737488355328) :
    Calls Tryz.prog 5 #[v] w (Gives bs w) := by
  obtain ⟨A, c, rfl, hc, hx⟩ := h
  have he := fun u => Lib.run_eql_slice_nil (P := Tryz.prog) u 22 5 A bs.length c 0 0 Tryz.underlying22
  cases A with
  | none =>
    have hb : bs = [] := by
      by_cases h0 : bs = []
      · exact h0
      · obtain ⟨ad, e, _⟩ := hx (List.length_pos_iff.2 h0); cases e
    subst hb
    have he : ∀ u : World, (binOp .eql 22 (.slice none 0 c) (.slice none 0 0)).run Tryz.prog u = .ok (.bool true) u := fun u => he u
    simp only [List.length_nil]
    go_enter Tryz.func5, Tryz.ntmps5
    go_wp2
    go_ret
    exact ⟨_, rfl, own_nil _ _, Below.refl _ _⟩
  | some ad =>
    go_enter Tryz.func5, Tryz.ntmps5
    have hown0 : Own (w.alloc (.cells #[] 5)) w.heap.size (.slice (some ⟨w.heap.size, 0, none⟩) 0 0) [] := World.ownsRow_made w #[] 0 (Nat.le_refl _) (by decide) (by simp)
    have hx' : RdA (w.alloc (.cells #[] 5)) 0 w.heap.size (some ad) bs := hx.keep fun p _ hp => World.cell?_alloc_lt w _ p hp
    go_wp2_with (at_builtin; refine wpList_append_rd _ rfl (.tmp 5) (.tmp 6) rfl rfl hown0 rfl rfl hx' ?_ ?_ ?_)
    case _ => simp; omega
    case _ => simp
    intro v1 w1 hown1 hg1 hat1
    go_wp2
    go_ret
    exact ⟨_, rfl, by simpa using hown1, ((Below.refl _ _).alloc (Nat.le_refl _) _).grown hg1 (by simp) (by simp [Value.ownBlock])⟩

end Go.Proofs.YtakmndfcelghfaaGreatDoor
