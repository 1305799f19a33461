/- Keys, and the document's own names. -/
import Derived.Test.YtmgobekdlgogmaaDoorNames
namespace Go.Proofs.YtmgobekdlgogmaaDoor
open Go.RowKit
open Go.Lib (byteCells byteCells_length)

/-- Which bytes a name may have. -/
def okB (c : Int) : Bool := (decide (97 ≤ c) && decide (c ≤ 122)) || (decide (65 ≤ c) && decide (c ≤ 90)) || (decide (48 ≤ c) && decide (c ≤ 57)) || c == 46 || c == 45 || c == 95
def okAll (l : List UInt8) : Bool := l.all fun b => okB b.toNat
def canS (l : List UInt8) : Bool := decide (1 ≤ l.length) && decide (l.length ≤ 32) && okAll l
theorem okAll_take {l : List UInt8} {k : Nat} (h : k < l.length) (h0 : okAll (l.take k) = true) (h1 : okB l[k].toNat = true) : okAll (l.take (k + 1)) = true := by
  unfold okAll at *
  rw [List.take_succ_eq_append_getElem h, List.all_append, h0]
  simpa using h1
theorem okAll_not {l : List UInt8} {k : Nat} (h : k < l.length) (h1 : okB l[k].toNat = false) : okAll l = false := by
  unfold okAll
  rw [List.all_eq_false]
  exact ⟨l[k], List.getElem_mem h, by simp [h1]⟩
theorem slen (s : ByteArray) : s.data.toList.length = s.size := by rw [Array.length_toList]; rfl

/-- '[]byte(s)'. -/
theorem conv_any (s : ByteArray) (w : World) : ∃ w1 cap, (convert 9 70 (.string s)).run Tryd.prog w = .ok (.slice (some ⟨w.heap.size, 0, none⟩) s.size cap) w1 ∧ Below w.heap.size w w1 ∧ s.size ≤ cap ∧
    RdA w1 w.heap.size w1.heap.size (some ⟨w.heap.size, 0, none⟩) s.data.toList := by
  refine ⟨Lib.bytesWorld w 5 s, _, Lib.run_convert_string_bytes w 9 70 5 s Tryd.underlying9 Tryd.underlying70 Tryd.underlying5, ?_, ?_, ?_⟩
  · exact ⟨rfl, rfl, rfl, by rw [Lib.bytesWorld_size]; omega, fun k hk => Lib.bytesWorld_at_old w _ s k hk⟩
  · exact grownCap_ge w s.size 0 _
  · intro _
    refine ⟨_, rfl, Nat.le_refl _, by rw [Lib.bytesWorld_size]; simp, fun j u hu => ?_⟩
    have hj : j < s.data.toList.length := by
      have := (List.getElem?_eq_some_iff.1 hu).1
      rwa [byteCells_length] at this
    rw [byteCells_at _ j hj] at hu
    have e : (⟨w.heap.size, 0, none⟩ : Addr).add j = ⟨w.heap.size, j, none⟩ := by unfold Addr.add; split <;> simp_all
    rw [e, Lib.bytesWorld_cell w 5 s j (by rw [← slen]; exact hj), ← hu, List.getD_eq_getElem?_getD, List.getElem?_eq_getElem hj]
    rfl

theorem okB_eq {l : List UInt8} {k : Nat} (h : k < l.length) (c : Int) (hc : c = l[k].toNat) : okB c = okB l[k].toNat := by rw [hc]

end Go.Proofs.YtmgobekdlgogmaaDoor
