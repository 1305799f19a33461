/- slices.DeleteFunc where just the first one goes; what is known of others. -/
import Derived.Test.YthipdadhhelieaaWAlikeM
namespace Go.Proofs.Ythipdadhhelieaa
open Go.RowKit Go.Sort Go.BigFrame

theorem grown_of_below {w w' : World} (hb : Below w.heap.size w w') (row : Option Nat) : w.grownBy w' row := ⟨hb.os, hb.tape, hb.output, hb.size, fun k hk _ => hb.block k hk⟩
/-- The cells of one dot of a row of one's own. -/
theorem OwnD.cells3 {T : TypeId} {w : World} {base g n c k : Nat} {ds : List DotA} {x : DotA} (h : OwnD T w base (.slice (some ⟨g, 0, none⟩) n c) ds) (hx : ds[k]? = some x) :
    w.cell? ⟨g, k * 3, none⟩ = some (.int .i64 x.1) ∧ w.cell? ⟨g, k * 3 + 1, none⟩ = some (.int .i64 x.2.1) ∧ w.cell? ⟨g, k * 3 + 2, none⟩ = some (.int .i64 x.2.2) ∧ w.frozen? ⟨g, k * 3, none⟩ = false ∧ w.frozen? ⟨g, k * 3 + 1, none⟩ = false ∧ w.frozen? ⟨g, k * 3 + 2, none⟩ = false := by
  have hn : n = ds.length := by
    obtain ⟨A, c', e⟩ := ownD_slice h
    injection e
  subst hn
  have hlt := (List.getElem?_eq_some_iff.1 hx).1
  obtain ⟨a0, a1, a2⟩ := dcells_at ds k x hx
  exact ⟨(World.ownsRow.cellAt h _ (by omega)).trans a0, (World.ownsRow.cellAt h _ (by omega)).trans a1, (World.ownsRow.cellAt h _ (by omega)).trans a2, World.ownsRow.frozenAt h _, World.ownsRow.frozenAt h _, World.ownsRow.frozenAt h _⟩

theorem del_any (p : PeerA) (w : World) : Calls Try.prog 33 #[peerV p] w fun e w' => e = .returned (.bool (decide (p.1 < 2))) ∧ Below w.heap.size w w' := by
  have HB : Hid (Below w.heap.size w (w.alloc (.cells #[.int .i64 p.1, .int .i64 p.2.1, .int .i64 p.2.2] 38))) := Lib.hid ((Below.refl _ _).alloc (Nat.le_refl _) _)
  generalize hd : decide (p.1 < 2) = d
  go_enter Try.func33, Try.ntmps33
  go_wp2
  go_ret
  exact ⟨rfl, HB.out⟩

abbrev delV : Value := .func (.func 33) #[] #[]
set_option maxRecDepth 100000 in
set_option maxHeartbeats 1600000 in
theorem indexF_first (base g n c : Nat) (x : PeerA) (r : List PeerA) (w : World) (ho : OwnD 38 w base (.slice (some ⟨g, 0, none⟩) n c) (x :: r)) (hx : x.1 < 2) (hn : 0 < n) :
    Calls Try.prog 34 #[.slice (some ⟨g, 0, none⟩) n c, delV] w fun e w' => e = .returned (.int .i64 0) ∧ Below w.heap.size w w' := by
  obtain ⟨c0, c1, c2, _⟩ := ho.cells3 (k := 0) (x := x) rfl
  have H1 : Hid (Calls Try.prog 33 #[.agg #[.int .i64 x.1, .int .i64 x.2.1, .int .i64 x.2.2]] w fun e w' => e = .returned (.bool true) ∧ Below w.heap.size w w') := Lib.hid (by have h := del_any x w; rw [decide_eq_true hx] at h; exact h)
  have d1 : decide ((0 : Int) < (n : Int)) = true := by simp; omega
  have d2 : (0 : Int) < (n : Int) := by omega
  simp only [Nat.zero_mul, Nat.zero_add] at c0 c1 c2
  clear ho hx
  go_enter Try.func34, Try.ntmps34
  go_wp2
  go_loop [8] (fun i => i = .int .i64 0) (fun _ => 0)
  case atStart => rfl
  case round =>
    obtain rfl := hrel
    go_wp2_with ((go_at_call 33); (with_reducible refine H1.out.mono ?_); rintro e w1 ⟨rfl, hb1⟩)
    go_ret
    exact ⟨rfl, hb1⟩
end Go.Proofs.Ythipdadhhelieaa
