/- A table in memory: what is known of each node. -/
import Derived.Test.YthipdadhhelieaaWBase
namespace Go.Proofs.Ythipdadhhelieaa
open Go.RowKit Go.Sort Go.BigFrame

/-- A ping: target, number, since, asked. -/
abbrev PingA := Int × Int × Int × Bool
/-- A table: its node, its time, what is known of each node, the open pings' slice, the last ping. -/
structure TabA where
  self : Int
  now : Int
  n0 : StateA
  n1 : StateA
  n2 : StateA
  n3 : StateA
  n4 : StateA
  n5 : StateA
  n6 : StateA
  n7 : StateA
  opened : Value
  last : PingA

def TabA.nd (t : TabA) (k : Nat) : StateA := match k with
  | 0 => t.n0 | 1 => t.n1 | 2 => t.n2 | 3 => t.n3 | 4 => t.n4 | 5 => t.n5 | 6 => t.n6 | _ => t.n7
def TabA.setNd (t : TabA) (k : Nat) (s : StateA) : TabA := match k with
  | 0 => { t with n0 := s } | 1 => { t with n1 := s } | 2 => { t with n2 := s } | 3 => { t with n3 := s } | 4 => { t with n4 := s } | 5 => { t with n5 := s } | 6 => { t with n6 := s } | _ => { t with n7 := s }
def TabA.cells (t : TabA) : Array Value := #[.int .i64 t.self, .int .i64 t.now,
  .int .i64 t.n0.1.1, .int .i64 t.n0.1.2.1, .int .i64 t.n0.1.2.2, .int .i64 t.n0.2,
  .int .i64 t.n1.1.1, .int .i64 t.n1.1.2.1, .int .i64 t.n1.1.2.2, .int .i64 t.n1.2,
  .int .i64 t.n2.1.1, .int .i64 t.n2.1.2.1, .int .i64 t.n2.1.2.2, .int .i64 t.n2.2,
  .int .i64 t.n3.1.1, .int .i64 t.n3.1.2.1, .int .i64 t.n3.1.2.2, .int .i64 t.n3.2,
  .int .i64 t.n4.1.1, .int .i64 t.n4.1.2.1, .int .i64 t.n4.1.2.2, .int .i64 t.n4.2,
  .int .i64 t.n5.1.1, .int .i64 t.n5.1.2.1, .int .i64 t.n5.1.2.2, .int .i64 t.n5.2,
  .int .i64 t.n6.1.1, .int .i64 t.n6.1.2.1, .int .i64 t.n6.1.2.2, .int .i64 t.n6.2,
  .int .i64 t.n7.1.1, .int .i64 t.n7.1.2.1, .int .i64 t.n7.1.2.2, .int .i64 t.n7.2,
  t.opened, .int .i64 t.last.1, .int .i64 t.last.2.1, .int .i64 t.last.2.2.1, .bool t.last.2.2.2]
/-- A table lies in block g. -/
def TabAt (w : World) (g : Nat) (t : TabA) : Prop := w.heap[g]? = some (.cells t.cells 69 (0, 0))

theorem TabAt.cell {w : World} {g : Nat} {t : TabA} (h : TabAt w g t) (i : Nat) : w.cell? ⟨g, i, none⟩ = t.cells[i]? := cell_of_row w g i _ _ (0, 0) h
theorem TabAt.frozen {w : World} {g : Nat} {t : TabA} (h : TabAt w g t) (i : Nat) : w.frozen? ⟨g, i, none⟩ = false := frozen_of_row w g i _ _ h
theorem TabAt.lt {w : World} {g : Nat} {t : TabA} (h : TabAt w g t) : g < w.heap.size := (Array.getElem?_eq_some_iff.1 h).1
theorem TabAt.keep {w w' : World} {g : Nat} {t : TabA} (h : TabAt w g t) (hk : w'.heap[g]? = w.heap[g]?) : TabAt w' g t := hk.trans h
theorem TabAt.below {w w' : World} {g : Nat} {t : TabA} (h : TabAt w g t) {B : Nat} (hb : Below B w w') (hg : g < B) : TabAt w' g t := h.keep (hb.block g hg)
/-- The four cells of what is known of a node. -/
theorem TabAt.node {w : World} {g : Nat} {t : TabA} (h : TabAt w g t) {k : Nat} (hk : k < 8) :
    w.cell? ⟨g, 2 + k * 4, none⟩ = some (.int .i64 (t.nd k).1.1) ∧ w.cell? ⟨g, 2 + k * 4 + 1, none⟩ = some (.int .i64 (t.nd k).1.2.1) ∧ w.cell? ⟨g, 2 + k * 4 + 2, none⟩ = some (.int .i64 (t.nd k).1.2.2) ∧ w.cell? ⟨g, 2 + k * 4 + 3, none⟩ = some (.int .i64 (t.nd k).2) := by
  rcases (by omega : k = 0 ∨ k = 1 ∨ k = 2 ∨ k = 3 ∨ k = 4 ∨ k = 5 ∨ k = 6 ∨ k = 7) with rfl | rfl | rfl | rfl | rfl | rfl | rfl | rfl <;> exact ⟨h.cell _, h.cell _, h.cell _, h.cell _⟩

set_option maxRecDepth 100000 in
set_option maxHeartbeats 800000 in
theorem knows_any (g : Nat) (t : TabA) (k : Nat) (hk : k < 8) (w : World) (h : TabAt w g t) :
    Calls Try.prog 62 #[.pointer (some ⟨g, 0, none⟩), .int .i64 k] w fun e w' => e = .returned (.bool (!decide (t.nd k = ((0, 0, 0), 0)))) ∧ w = w' := by
  obtain ⟨c0, c1, c2, c3⟩ := h.node hk
  have b0 : (0 : Int) ≤ (k : Int) := by omega
  have b1 : (k : Int) < 8 := by omega
  generalize hs : t.nd k = s at c0 c1 c2 c3 ⊢
  have hne := neState s ((0, 0, 0), 0)
  generalize (!decide (s = ((0, 0, 0), 0))) = b at hne ⊢
  go_enter Try.func62, Try.ntmps62
  go_wp2
  go_ret
  exact ⟨rfl, rfl⟩
end Go.Proofs.Ythipdadhhelieaa
