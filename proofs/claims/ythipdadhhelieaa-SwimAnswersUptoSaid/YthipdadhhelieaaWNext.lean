/- The next target, where one other node is known. -/
import Derived.Test.YthipdadhhelieaaWBury
namespace Go.Proofs.Ythipdadhhelieaa
open Go.RowKit Go.Sort Go.BigFrame

def noSt : StateA := ((0, 0, 0), 0)
/-- A table of node 0 that knows of itself and of node 1, and pinged nobody. -/
def T2 : TabA := ⟨0, 0, ((0, 0, 1), 0), ((1, 0, 1), 0), noSt, noSt, noSt, noSt, noSt, noSt, .slice none 0 0, (-1, 0, 0, false)⟩

set_option maxRecDepth 100000 in
set_option maxHeartbeats 1600000 in
theorem indexF_none (f : Value) (w : World) : Calls Try.prog 71 #[.slice none 0 0, f] w fun e w' => e = .returned (.int .i64 (-1)) ∧ w = w' := by
  go_enter Try.func71, Try.ntmps71
  go_wp2
  go_loop [8] (fun i => i = .int .i64 0) (fun _ => 0)
  case atStart => rfl
  case round =>
    obtain rfl := hrel
    go_wp2
    go_ret
    exact ⟨rfl, rfl⟩
theorem containsF_none (f : Value) (w : World) : Calls Try.prog 72 #[.slice none 0 0, f] w fun e w' => e = .returned (.bool false) ∧ w = w' := by
  have H1 := Lib.hid (indexF_none f w)
  go_enter Try.func72, Try.ntmps72
  go_wp2_with ((go_at_call 71); (with_reducible refine H1.out.mono ?_); rintro e w1 ⟨rfl, rfl⟩)
  go_ret
  exact ⟨rfl, rfl⟩
theorem pings_none (g : Nat) (t : TabA) (ho : t.opened = .slice none 0 0) (n : Int) (w : World) (h : TabAt w g t) :
    Calls Try.prog 70 #[.pointer (some ⟨g, 0, none⟩), .int .i64 n] w fun e w' => e = .returned (.bool false) ∧ Below w.heap.size w w' := by
  have hB : Below w.heap.size w (w.alloc (.cells #[.int .i64 n] 3)) := (Below.refl _ _).alloc (Nat.le_refl _) _
  have h2 := h.below hB h.lt
  have c34 : (w.alloc (.cells #[.int .i64 n] 3)).cell? ⟨g, 34, none⟩ = some (.slice none 0 0) := by rw [← ho]; exact h2.cell 34
  have H1 := fun f w' => Lib.hid (containsF_none f w')
  have HB := Lib.hid hB
  have c34b : w.cell? ⟨g, 34, none⟩ = some (.slice none 0 0) := by rw [← ho]; exact h.cell 34
  have hlt := h.lt
  clear hB h2 ho h
  go_enter Try.func70, Try.ntmps70
  go_wp2_with ((go_at_call 72); (with_reducible refine (H1 _ _).out.mono ?_); rintro e w1 ⟨rfl, rfl⟩)
  go_ret
  exact ⟨rfl, HB.out⟩

set_option maxRecDepth 100000 in
set_option maxHeartbeats 1600000 in
theorem next_two (g : Nat) (w : World) (h : TabAt w g T2) :
    Calls Try.prog 67 #[.pointer (some ⟨g, 0, none⟩)] w fun e w' => e = .returned (.int .i64 1) ∧ Below w.heap.size w w' := by
  have HT := Lib.hid h
  have hK : ∀ w', TabAt w' g T2 → Hid (Calls Try.prog 62 #[.pointer (some ⟨g, 0, none⟩), .int .i64 1] w' fun e w'' => e = .returned (.bool true) ∧ w' = w'') := fun w' hT => Lib.hid (knows_any g T2 1 (by decide) w' hT)
  have hP := fun w' (hT : TabAt w' g T2) => Lib.hid (pings_none g T2 rfl 1 w' hT)
  clear h
  go_enter Try.func67, Try.ntmps67
  go_wp2
  go_loopw [5] (fun i wr => ∃ k : Nat, k ≤ 1 ∧ i = .int .i64 k ∧ Below w.heap.size w wr) (fun i _ => 1 - (intOf i).toNat)
  case atStart => exact ⟨0, Nat.zero_le _, rfl, Below.refl _ _⟩
  case round =>
    obtain ⟨k, hk, rfl, hb⟩ := hrel
    have ht := HT.out.below hb HT.out.lt
    have c35 : wr.cell? ⟨g, 35, none⟩ = some (.int .i64 (-1)) := ht.cell 35
    have c0 : wr.cell? ⟨g, 0, none⟩ = some (.int .i64 0) := ht.cell 0
    have HTR := Lib.hid ht
    clear ht
    rcases (by omega : k = 0 ∨ k = 1) with rfl | rfl
    · go_wp2
      go_roundw
      case rel => exact ⟨1, by omega, by first | rfl | go_num, hb⟩
      case measure => simp [intOf]
    · have HB := Lib.hid hb
      clear hb
      go_wp2_with (first
        | (go_at_call 62
           (with_reducible refine (hK _ HTR.out).out.mono ?_); rintro e w1 ⟨rfl, rfl⟩)
        | (go_at_call 70
           (with_reducible refine (hP _ HTR.out).out.mono ?_); rintro e w2 ⟨rfl, hb2⟩))
      go_ret
      exact ⟨rfl, HB.out.trans (hb2.mono HB.out.size)⟩
end Go.Proofs.Ythipdadhhelieaa
