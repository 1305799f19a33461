/- A file copied. -/
import Derived.Test.YtakmndfcelghfaaGreatDoorDFind
import Derived.Deep.RegionLaw
namespace Go.Proofs.YtakmndfcelghfaaGreatDoor
open Go.RowKit
open Go.Lib (byteCells byteCells_length)

theorem own_alloc {w : World} {base : Nat} {v : Value} {bs : List UInt8} (h : Own w base v bs) (o : Obj) : Own (w.alloc o) base v bs := World.ownsRow.alloc h o
theorem bcell {W w1 : World} (hb : Below W.heap.size W w1) : (∀ b o, b < W.heap.size → w1.cell? ⟨b, o, none⟩ = W.cell? ⟨b, o, none⟩) ∧ (∀ b o, b < W.heap.size → w1.frozen? ⟨b, o, none⟩ = W.frozen? ⟨b, o, none⟩) :=
  ⟨fun b o h => hb.cell (p := ⟨b, o, none⟩) h, fun b o h => hb.frozen (p := ⟨b, o, none⟩) h⟩

/-- append onto a new slice without room, in a region that draws its order. -/
theorem step_append_fresh {ops : Array Oper} {o : Oper} {a : Act} {K : Act → World → Prop} {Q : Exit → Act → World → Prop} {E : Prop} (w : World) (hgd : o.guard = none) (s x : Operand)
    (ho : o.op = .call { callee := .builtin .append, args := #[s, x], argTypes := #[22, 22] }) {g : Nat} (hs : a.eval s = .slice (some ⟨g, 0, none⟩) 0 0)
    {w0 : World} (hb : Below w0.heap.size w0 w) (hg : w.heap[g]? = some (.cells #[] 5 (0, 0))) (hBg : w0.heap.size ≤ g) {A : Option Addr} {m c : Nat} {ys : List UInt8} (hx : a.eval x = .slice A m c) (hm : m = ys.length) (hr : RdA w0 0 w0.heap.size A ys) (hl : ys.length ≤ 1099511627776)
    (h : ∀ g1 cap1 w', Own w' w0.heap.size (.slice (some ⟨g1, 0, none⟩) ys.length cap1) ys → Below w0.heap.size w0 w' → (∀ b, b < w.heap.size → b ≠ g → w'.heap[b]? = w.heap[b]?) → w.heap.size ≤ w'.heap.size → (g1 = g ∨ g1 = w.heap.size) → K (a.put o.dst (.slice (some ⟨g1, 0, none⟩) ys.length cap1)) w') :
    if Region.wanted o (yielded ops a.tmps) = true then Oper.wp Tryz.prog o a w K Q else E := by
  have hw : Region.wanted o (yielded ops a.tmps) = true := by simp [Region.wanted, hgd]
  rw [if_pos hw]
  subst hm
  have hown : Own w w0.heap.size (.slice (some ⟨g, 0, none⟩) 0 0) [] := ⟨by simp [byteCells], .inr ⟨g, 0, #[], rfl, hBg, hg, Nat.le_refl _, by decide, by simp, by simp [byteCells]⟩⟩
  have hr' : RdA w 0 w0.heap.size A ys := hr.keep fun p _ hp => hb.cell hp
  obtain ⟨v', w', hrun, h2, h3, h4⟩ := run_append_rd w o.type hown (c := c) hr' (by simp; omega) hb.size
  unfold Oper.wp execOp
  simp only [ho, resolve, invoke, builtin, Sem.run_bind, Sem.run_pure, Result.andThen_ok, List.map_toArray, List.map_cons, List.map_nil, hs, hx, hrun]
  have h2' : Own w' w0.heap.size v' ys := by simpa using h2
  rcases h2'.2 with ⟨rfl, _⟩ | ⟨g1, cap1, cur, rfl, _⟩
  · rcases h4 with h4 | h4 <;> cases h4
  · refine h g1 cap1 w' h2' (hb.grown h3 hb.size (by simp [Value.ownBlock]; omega)) (fun b hb1 hb2 => h3.block b hb1 (by simp [Value.ownBlock]; exact hb2)) h3.size ?_
    rcases h4 with h4 | h4
    · exact .inl (by injection h4)
    · exact .inr (by injection h4)

theorem own_ne {w1 : World} {B g1 n c : Nat} {bs : List UInt8} (h : Own w1 B (.slice (some ⟨g1, 0, none⟩) n c) bs) : (Value.slice (some ⟨g1, 0, none⟩) n c).ownBlock ≠ some w1.heap.size := fun e => by
  have h1 := (h.lt g1 rfl).2
  have e2 : g1 = w1.heap.size := by simpa [Value.ownBlock] using e
  omega

/-- What copied leaves: a new file with the same bytes, in memory of its own. -/
def CopyPost (w : World) (bs : List UInt8) (k : Int) (e : Ending) (w' : World) : Prop :=
  ∃ g v, e = .returned (.pointer (some ⟨g, 0, none⟩)) ∧ w'.heap[g]? = some (.cells #[v, .int .i64 k] 168 (0, 0)) ∧ Own w' w.heap.size v bs ∧ w.heap.size ≤ g ∧ v.ownBlock ≠ some g ∧ Below w.heap.size w w'

set_option maxRecDepth 100000 in
set_option maxHeartbeats 1600000 in
theorem copied_any (g : Nat) (v : Value) (bs : List UInt8) (k : Int) (w : World) (hg : w.heap[g]? = some (.cells #[v, .int .i64 k] 168 (0, 0))) (hr : Rd w 0 w.heap.size v bs) (hl : bs.length ≤ 1099511627776) :
    Calls Tryz.prog 125 #[.pointer (some ⟨g, 0, none⟩)] w (CopyPost w bs k) := by
  obtain ⟨A, c, rfl, hc, hx⟩ := hr
  have hlt : g < w.heap.size := (Array.getElem?_eq_some_iff.1 hg).1
  have c0 : w.cell? ⟨g, 0, none⟩ = some (.slice A bs.length c) := cell_of_row w g 0 _ _ (0, 0) hg
  have c1 : w.cell? ⟨g, 1, none⟩ = some (.int .i64 k) := cell_of_row w g 1 _ _ (0, 0) hg
  have HX := Lib.hid hx
  have HL := Lib.hid hl
  clear hg hx
  go_enter Tryz.func125, Tryz.ntmps125
  go_wp2
  go_region_law (first
    | (refine step_append_fresh (w0 := w) (ys := bs) _ (by rfl) _ _ (by rfl) (by rfl) ?_ ?_ ?_ (by rfl) rfl HX.out HL.out ?_
       · (go_grown)
       · (exact heap_alloc_new _ _)
       · (exact Nat.le_refl _)
       intro g1 cap1 w1 ho1 hbb1 hkk1 hss1 haa1
       obtain ⟨hcx, hfx⟩ := bcell hbb1))
  all_goals go_wp2
  all_goals go_ret
  all_goals exact ⟨_, _, rfl, heap_alloc_new _ _, own_alloc ho1 _, hbb1.size, own_ne ho1, hbb1.alloc hbb1.size _⟩
end Go.Proofs.YtakmndfcelghfaaGreatDoor
