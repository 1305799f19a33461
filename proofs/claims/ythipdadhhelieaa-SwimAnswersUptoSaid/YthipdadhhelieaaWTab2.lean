/- A table that learns. -/
import Derived.Test.YthipdadhhelieaaWTab
import Derived.StillTailTactics
namespace Go.Proofs.Ythipdadhhelieaa
open Go.RowKit Go.Sort Go.BigFrame

/-- Is a node known? -/
def TabA.knows (t : TabA) (k : Nat) : Bool := !decide (t.nd k = ((0, 0, 0), 0))

theorem heap_set4 (w : World) (g i : Nat) (cs : Array Value) (T : TypeId) (a b c d : Value) (h : w.heap[g]? = some (.cells cs T (0, 0))) :
    ((((w.setCell ⟨g, i, none⟩ a).setCell ⟨g, i + 1, none⟩ b).setCell ⟨g, i + 2, none⟩ c).setCell ⟨g, i + 3, none⟩ d).heap[g]? = some (.cells ((((cs.setIfInBounds i a).setIfInBounds (i + 1) b).setIfInBounds (i + 2) c).setIfInBounds (i + 3) d) T (0, 0)) := by
  exact Joins.block_setCell (Joins.block_setCell (Joins.block_setCell (Joins.block_setCell h (i := i) a) (i := i + 1) b) (i := i + 2) c) (i := i + 3) d
theorem cells_setNd (t : TabA) {k : Nat} (hk : k < 8) (s : StateA) :
    ((((t.cells.setIfInBounds (2 + k * 4) (.int .i64 s.1.1)).setIfInBounds (2 + k * 4 + 1) (.int .i64 s.1.2.1)).setIfInBounds (2 + k * 4 + 2) (.int .i64 s.1.2.2)).setIfInBounds (2 + k * 4 + 3) (.int .i64 s.2)) = (t.setNd k s).cells := by
  rcases (by omega : k = 0 ∨ k = 1 ∨ k = 2 ∨ k = 3 ∨ k = 4 ∨ k = 5 ∨ k = 6 ∨ k = 7) with rfl | rfl | rfl | rfl | rfl | rfl | rfl | rfl <;> rfl
theorem setNd_nd (t : TabA) {k : Nat} (hk : k < 8) (s : StateA) {j : Nat} (hj : j < 8) : (t.setNd k s).nd j = if j = k then s else t.nd j := by
  rcases (by omega : k = 0 ∨ k = 1 ∨ k = 2 ∨ k = 3 ∨ k = 4 ∨ k = 5 ∨ k = 6 ∨ k = 7) with rfl | rfl | rfl | rfl | rfl | rfl | rfl | rfl <;>
  rcases (by omega : j = 0 ∨ j = 1 ∨ j = 2 ∨ j = 3 ∨ j = 4 ∨ j = 5 ∨ j = 6 ∨ j = 7) with rfl | rfl | rfl | rfl | rfl | rfl | rfl | rfl <;> rfl

/-- Blocks below B stay, but for block g. -/
structure Turns (g B : Nat) (a w : World) : Prop where
  os : w.os = a.os
  tape : w.tape = a.tape
  output : w.output = a.output
  size : a.heap.size ≤ w.heap.size
  block : ∀ b, b < B → b ≠ g → w.heap[b]? = a.heap[b]?
theorem Turns.of {g B : Nat} {a w : World} (h : Below B a w) : Turns g B a w := ⟨h.os, h.tape, h.output, h.size, fun b hb _ => h.block b hb⟩
theorem Turns.trans {g B : Nat} {a w v : World} (h : Turns g B a w) (h2 : Turns g B w v) : Turns g B a v :=
  ⟨h2.os.trans h.os, h2.tape.trans h.tape, h2.output.trans h.output, Nat.le_trans h.size h2.size, fun b hb hg => (h2.block b hb hg).trans (h.block b hb hg)⟩
theorem Turns.mono {g B B' : Nat} {a w : World} (h : Turns g B a w) (hB : B' ≤ B) : Turns g B' a w := ⟨h.os, h.tape, h.output, h.size, fun b hb hg => h.block b (by omega) hg⟩
theorem Turns.set {g B : Nat} {a w : World} (h : Turns g B a w) (i : Nat) (v : Value) : Turns g B a (w.setCell ⟨g, i, none⟩ v) :=
  ⟨h.os, h.tape, h.output, by simpa using h.size, fun b hb hg => (Below.heap_setCell _ _ _ _ (by show b ≠ g; exact hg)).trans (h.block b hb hg)⟩
theorem Turns.drew {g B : Nat} {a w : World} (h : Turns g B a w) : Turns g B a w.drew := ⟨h.os, h.tape, h.output, h.size, h.block⟩
theorem Turns.below {g B : Nat} {a w : World} (h : Turns g B a w) (hg : B ≤ g) : Below B a w := ⟨h.os, h.tape, h.output, h.size, fun b hb => h.block b hb (by omega)⟩

set_option maxRecDepth 100000 in
set_option maxHeartbeats 1600000 in
/-- learn: what is known of a node, since the table's time. -/
theorem learn_any (g : Nat) (t : TabA) (k : Nat) (hk : k < 8) (p : PeerA) (hp : p.1 = (k : Int)) (w : World) (h : TabAt w g t) :
    Calls Try.prog 39 #[.pointer (some ⟨g, 0, none⟩), peerV p] w fun e w' => e = .returned (.tuple #[]) ∧ TabAt w' g (t.setNd k (p, t.now)) ∧ Turns g w.heap.size w w' := by
  obtain ⟨p1, p2, p3⟩ := p
  obtain rfl : p1 = (k : Int) := hp
  have HT := Lib.hid h
  have b0 : (0 : Int) ≤ (k : Int) := by omega
  have b1 : (k : Int) < 8 := by omega
  obtain ⟨W, hW⟩ : ∃ W, Hid (W = w.alloc (.cells #[.int .i64 (k : Int), .int .i64 p2, .int .i64 p3] 38)) := ⟨_, Lib.hid rfl⟩
  have hB : Below w.heap.size w W := by rw [hW.out]; exact (Below.refl _ _).alloc (Nat.le_refl _) _
  have hTW : TabAt W g t := h.below hB h.lt
  have k0 : W.cell? ⟨w.heap.size, 0, none⟩ = some (.int .i64 (k : Int)) := by rw [hW.out]; exact box_cell _ _ _ 0
  have k1 : W.cell? ⟨w.heap.size, 1, none⟩ = some (.int .i64 p2) := by rw [hW.out]; exact box_cell _ _ _ 1
  have k2 : W.cell? ⟨w.heap.size, 2, none⟩ = some (.int .i64 p3) := by rw [hW.out]; exact box_cell _ _ _ 2
  have t1 : W.cell? ⟨g, 1, none⟩ = some (.int .i64 t.now) := hTW.cell 1
  have f0 := hTW.frozen (2 + k * 4)
  have f1 := hTW.frozen (2 + k * 4 + 1)
  have f2 := hTW.frozen (2 + k * 4 + 2)
  have f3 := hTW.frozen (2 + k * 4 + 3)
  obtain ⟨c0, c1, c2, c3⟩ := hTW.node hk
  have HTW := Lib.hid hTW
  have HB := Lib.hid hB
  clear h hTW hB
  go_enter Try.func39, Try.ntmps39
  go_upto_region 1 with fail
  rw [← hW.out]
  go_still_tail 12, (by kernel_rfl)
  go_wp2
  go_end0
  have HR := heap_set4 W.drew g (2 + k * 4) t.cells _ (.int .i64 (k : Int)) (.int .i64 p2) (.int .i64 p3) (.int .i64 t.now) HTW.out
  rw [cells_setNd t hk (((k : Int), p2, p3), t.now)] at HR
  exact ⟨rfl, HR, ((((Turns.of HB.out).drew.set _ _).set _ _).set _ _).set _ _⟩
end Go.Proofs.Ythipdadhhelieaa
