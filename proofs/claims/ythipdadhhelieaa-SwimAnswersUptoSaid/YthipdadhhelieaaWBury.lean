/- Nobody to bury, no ping that waits. -/
import Derived.Test.YthipdadhhelieaaWHear
import Derived.Deep.MidRow
namespace Go.Proofs.Ythipdadhhelieaa
open Go.RowKit Go.Sort Go.BigFrame

/-- The cells of what is known of all nodes. -/
def TabA.nodes (t : TabA) : List Value := [.int .i64 t.n0.1.1, .int .i64 t.n0.1.2.1, .int .i64 t.n0.1.2.2, .int .i64 t.n0.2, .int .i64 t.n1.1.1, .int .i64 t.n1.1.2.1, .int .i64 t.n1.1.2.2, .int .i64 t.n1.2, .int .i64 t.n2.1.1, .int .i64 t.n2.1.2.1, .int .i64 t.n2.1.2.2, .int .i64 t.n2.2, .int .i64 t.n3.1.1, .int .i64 t.n3.1.2.1, .int .i64 t.n3.1.2.2, .int .i64 t.n3.2, .int .i64 t.n4.1.1, .int .i64 t.n4.1.2.1, .int .i64 t.n4.1.2.2, .int .i64 t.n4.2, .int .i64 t.n5.1.1, .int .i64 t.n5.1.2.1, .int .i64 t.n5.1.2.2, .int .i64 t.n5.2, .int .i64 t.n6.1.1, .int .i64 t.n6.1.2.1, .int .i64 t.n6.1.2.2, .int .i64 t.n6.2, .int .i64 t.n7.1.1, .int .i64 t.n7.1.2.1, .int .i64 t.n7.1.2.2, .int .i64 t.n7.2]
theorem index_any (t : TabA) {k : Nat} (hk : k < 8) (w : World) : (Instr.index 64 (.agg t.nodes.toArray) (.int .i64 (k : Int))).run Try.prog w = .ok (stateV (t.nd k)) w := by
  rcases (by omega : k = 0 ∨ k = 1 ∨ k = 2 ∨ k = 3 ∨ k = 4 ∨ k = 5 ∨ k = 6 ∨ k = 7) with rfl | rfl | rfl | rfl | rfl | rfl | rfl | rfl <;> kernel_rfl
theorem nodes_at {w : World} {g : Nat} {t : TabA} (h : TabAt w g t) : w.rangeAt g 2 t.nodes := fun j v hv => by
  match j, hv with
  | 0, hv => exact (h.cell 2).trans hv
  | 1, hv => exact (h.cell 3).trans hv
  | 2, hv => exact (h.cell 4).trans hv
  | 3, hv => exact (h.cell 5).trans hv
  | 4, hv => exact (h.cell 6).trans hv
  | 5, hv => exact (h.cell 7).trans hv
  | 6, hv => exact (h.cell 8).trans hv
  | 7, hv => exact (h.cell 9).trans hv
  | 8, hv => exact (h.cell 10).trans hv
  | 9, hv => exact (h.cell 11).trans hv
  | 10, hv => exact (h.cell 12).trans hv
  | 11, hv => exact (h.cell 13).trans hv
  | 12, hv => exact (h.cell 14).trans hv
  | 13, hv => exact (h.cell 15).trans hv
  | 14, hv => exact (h.cell 16).trans hv
  | 15, hv => exact (h.cell 17).trans hv
  | 16, hv => exact (h.cell 18).trans hv
  | 17, hv => exact (h.cell 19).trans hv
  | 18, hv => exact (h.cell 20).trans hv
  | 19, hv => exact (h.cell 21).trans hv
  | 20, hv => exact (h.cell 22).trans hv
  | 21, hv => exact (h.cell 23).trans hv
  | 22, hv => exact (h.cell 24).trans hv
  | 23, hv => exact (h.cell 25).trans hv
  | 24, hv => exact (h.cell 26).trans hv
  | 25, hv => exact (h.cell 27).trans hv
  | 26, hv => exact (h.cell 28).trans hv
  | 27, hv => exact (h.cell 29).trans hv
  | 28, hv => exact (h.cell 30).trans hv
  | 29, hv => exact (h.cell 31).trans hv
  | 30, hv => exact (h.cell 32).trans hv
  | 31, hv => exact (h.cell 33).trans hv
  | j + 32, hv => simp [TabA.nodes] at hv
theorem nodes_len (t : TabA) : t.nodes.length = 32 := rfl

set_option maxRecDepth 100000 in
set_option maxHeartbeats 1600000 in
theorem bury_none (g : Nat) (t : TabA) (hs : ∀ k, k < 8 → (t.nd k).1.2.2 ≠ 2) (w : World) (h : TabAt w g t) :
    Calls Try.prog 46 #[.pointer (some ⟨g, 0, none⟩)] w fun e w' => e = .returned (.slice none 0 0) ∧ Below w.heap.size w w' := by
  have HS := Lib.hid hs
  have HN := Lib.hid (nodes_at h)
  have hi : (Try.prog.info? 64).map (·.size) = some t.nodes.length := by rw [nodes_len]; kernel_rfl
  have hix := fun (k : Nat) (hk : k < 8) w' => index_any t hk w'
  obtain ⟨L, hL⟩ : ∃ L, L = t.nodes := ⟨_, rfl⟩
  rw [← hL] at HN hi
  rw [← hL] at hix
  have HIX := Lib.hid hix
  clear hL hs h hix
  go_enter Try.func46, Try.ntmps46
  go_wp2_with (with_reducible refine wpList_load_mid rfl 64 (.tmp 8) rfl g 2 rfl L _ HN.out Try.underlying64 rfl hi ?_)
  go_loopw [10, 3] (fun i x wr => ∃ k : Nat, k ≤ 8 ∧ i = .int .i64 k ∧ x = .slice none 0 0 ∧ Below w.heap.size w wr) (fun i _ _ => 8 - (intOf i).toNat)
  case atStart => exact ⟨0, Nat.zero_le _, rfl, rfl, Below.refl _ _⟩
  case round =>
    obtain ⟨k, hk, rfl, rfl, hb⟩ := hrel
    by_cases hlt : k < 8
    · have ix := HIX.out k hlt
      obtain ⟨s, hs⟩ : ∃ s, s = t.nd k := ⟨_, rfl⟩
      have hst := HS.out k hlt
      rw [← hs] at ix hst
      have d1 : (s.1.2.2 == 2) = false := by simpa using hst
      obtain ⟨V, hV⟩ : ∃ V, Hid (V = wr.alloc (.cells #[.int .i64 s.1.1, .int .i64 s.1.2.1, .int .i64 s.1.2.2, .int .i64 s.2] 63)) := ⟨_, Lib.hid rfl⟩
      have HBV : Hid (Below w.heap.size w V) := Lib.hid (by rw [hV.out]; exact hb.alloc hb.size _)
      have v2 : V.cell? ⟨wr.heap.size, 2, none⟩ = some (.int .i64 s.1.2.2) := by rw [hV.out]; exact box_cell _ _ _ 2
      clear hb hs hst
      go_upto_region 5 with fail
      rw [← hV.out]
      go_quiet (fail)
      go_wp2
      go_roundw
      case rel => exact ⟨k + 1, by omega, by go_num, rfl, by first | exact HBV.out.drew | exact below_drewN HBV.out _⟩
      case measure => simp [intOf]; omega
    · obtain rfl : k = 8 := by omega
      go_wp2
      go_ret
      exact ⟨rfl, hb⟩

set_option maxRecDepth 100000 in
set_option maxHeartbeats 1600000 in
/-- wait, where no ping is open. -/
theorem wait_none (g : Nat) (t : TabA) (ho : t.opened = .slice none 0 0) (w : World) (h : TabAt w g t) :
    Calls Try.prog 47 #[.pointer (some ⟨g, 0, none⟩)] w fun e w' => e = .returned (.tuple #[.slice none 0 0, .slice none 0 0]) ∧ TabAt w' g t ∧ Turns g w.heap.size w w' := by
  have c34 : w.cell? ⟨g, 34, none⟩ = some (.slice none 0 0) := by rw [← ho]; exact h.cell 34
  have f34 := h.frozen 34
  have HS : Hid (TabAt (w.setCell ⟨g, 34, none⟩ (.slice none 0 0)) g t) := Lib.hid (by have h3 := Joins.block_setCell h (i := 34) (.slice none 0 0); rw [← ho] at h3 ⊢; exact h3)
  have HR : Hid (Turns g w.heap.size w w) := Lib.hid (Turns.of (Below.refl _ _))
  clear h ho
  go_enter Try.func47, Try.ntmps47
  go_wp2
  go_loop [14, 4, 5, 6] (fun i x y z => i = .int .i64 0 ∧ x = .slice none 0 0 ∧ y = .slice none 0 0 ∧ z = .slice none 0 0) (fun _ _ _ _ => 0)
  case atStart => exact ⟨rfl, rfl, rfl, rfl⟩
  case round =>
    obtain ⟨rfl, rfl, rfl, rfl⟩ := hrel
    go_wp2
    go_ret2
    exact ⟨rfl, HS.out, HR.out.set _ _⟩
end Go.Proofs.Ythipdadhhelieaa
