/- Boxes of rumours: their cells; the calls of one that no call made. -/
import Derived.Test.YtefciibkcafbiaaWBase
namespace Go.Proofs.Ytefciibkcafbiaa
open Go.RowKit Go.Sort Go.BigFrame

/-- The cells of a box without rumours: made, node, whom the last message went to, when. -/
def bcells (m : Bool) (s t a : Int) : Array Value := #[.bool m, .int .i64 s,
  .int .i64 0, .int .i64 0, .int .i64 0, .nilFunc, .nilFunc, .int .i64 0, .int .i64 0, .int .i64 0, .nilFunc, .nilFunc,
  .int .i64 0, .int .i64 0, .int .i64 0, .nilFunc, .nilFunc, .int .i64 0, .int .i64 0, .int .i64 0, .nilFunc, .nilFunc,
  .int .i64 0, .int .i64 0, .int .i64 0, .nilFunc, .nilFunc, .int .i64 0, .int .i64 0, .int .i64 0, .nilFunc, .nilFunc,
  .int .i64 0, .int .i64 0, .int .i64 0, .nilFunc, .nilFunc, .int .i64 0, .int .i64 0, .int .i64 0, .nilFunc, .nilFunc,
  .int .i64 t, .int .i64 a]
def BoxAt (w : World) (g : Nat) (m : Bool) (s t a : Int) : Prop := w.heap[g]? = some (.cells (bcells m s t a) 66 (0, 0))
theorem BoxAt.cell {w : World} {g : Nat} {m : Bool} {s t a : Int} (h : BoxAt w g m s t a) (i : Nat) : w.cell? ⟨g, i, none⟩ = (bcells m s t a)[i]? := cell_of_row w g i _ _ (0, 0) h
theorem BoxAt.frozen {w : World} {g : Nat} {m : Bool} {s t a : Int} (h : BoxAt w g m s t a) (i : Nat) : w.frozen? ⟨g, i, none⟩ = false := frozen_of_row w g i _ _ h
theorem BoxAt.lt {w : World} {g : Nat} {m : Bool} {s t a : Int} (h : BoxAt w g m s t a) : g < w.heap.size := (Array.getElem?_eq_some_iff.1 h).1
theorem BoxAt.keep {w w' : World} {g : Nat} {m : Bool} {s t a : Int} (h : BoxAt w g m s t a) (hk : w'.heap[g]? = w.heap[g]?) : BoxAt w' g m s t a := hk.trans h
theorem BoxAt.below {w w' : World} {g : Nat} {m : Bool} {s t a : Int} (h : BoxAt w g m s t a) {B : Nat} (hb : Below B w w') (hg : g < B) : BoxAt w' g m s t a := h.keep (hb.block g hg)

/-- The pointer is nil, or that of a box that no call made. -/
def Unm (w : World) (v : Value) : Prop := v = .pointer none ∨ ∃ g, v = .pointer (some ⟨g, 0, none⟩) ∧ BoxAt w g false 0 0 0
theorem Unm.below {w w' : World} {v : Value} (h : Unm w v) {B : Nat} (hb : Below B w w') (hB : w.heap.size ≤ B) : Unm w' v := by
  rcases h with h | ⟨g, h1, h2⟩
  · exact .inl h
  · exact .inr ⟨g, h1, h2.below hb (Nat.lt_of_lt_of_le h2.lt hB)⟩

theorem isMade_box (g : Nat) (m : Bool) (s t a : Int) (w : World) (h : BoxAt w g m s t a) : Calls Try.prog 15 #[.pointer (some ⟨g, 0, none⟩)] w fun e w' => e = .returned (.bool m) ∧ w = w' := by
  have h0 : w.cell? ⟨g, 0, none⟩ = some (.bool m) := h.cell 0
  clear h
  go_enter Try.func15, Try.ntmps15
  go_wp2
  go_ret
  exact ⟨rfl, rfl⟩
theorem isMade_nil (w : World) : Calls Try.prog 15 #[.pointer none] w fun e w' => e = .returned (.bool false) ∧ w = w' := by
  go_enter Try.func15, Try.ntmps15
  go_wp2
  go_ret
  exact ⟨rfl, rfl⟩
theorem isMade_un (v : Value) (w : World) (h : Unm w v) : Calls Try.prog 15 #[v] w fun e w' => e = .returned (.bool false) ∧ w = w' := by
  rcases h with rfl | ⟨g, rfl, h⟩
  · exact isMade_nil w
  · exact isMade_box g false 0 0 0 w h

theorem hear_un (v l : Value) (w : World) (h : Unm w v) : Calls Try.prog 7 #[v, l] w fun e w' => e = .returned (.int .i64 8) ∧ w = w' := by
  have H0 := Lib.hid (isMade_un v w h)
  clear h
  go_enter Try.func7, Try.ntmps7
  go_wp2_with ((go_at_call 15); (with_reducible refine H0.out.mono ?_); rintro e w1 ⟨rfl, rfl⟩)
  go_ret
  exact ⟨rfl, rfl⟩
theorem rumours_un (v : Value) (w : World) (h : Unm w v) : Calls Try.prog 13 #[v] w fun e w' => e = .returned (.slice none 0 0) ∧ w = w' := by
  have H0 := Lib.hid (isMade_un v w h)
  clear h
  go_enter Try.func13, Try.ntmps13
  go_wp2_with ((go_at_call 15); (with_reducible refine H0.out.mono ?_); rintro e w1 ⟨rfl, rfl⟩)
  go_ret
  exact ⟨rfl, rfl⟩
/-- The zero ring. -/
abbrev ringZ : Value := .agg #[.int .i64 0, .int .i64 0, .int .i64 0, .slice none 0 0]
def ringCells : Array Value := #[.int .i64 0, .int .i64 0, .int .i64 0, .slice none 0 0]
theorem tick_un (v l : Value) (n : Int) (w : World) (h : Unm w v) : Calls Try.prog 11 #[v, .int .i64 n, ringZ, l] w fun e w' => e = .returned (.slice none 0 0) ∧ Below w.heap.size w w' := by
  obtain ⟨W, hW⟩ : ∃ W, Hid (W = w.alloc (.cells #[.int .i64 0, .int .i64 0, .int .i64 0, .slice none 0 0] 33)) := ⟨_, Lib.hid rfl⟩
  have HB : Hid (Below w.heap.size w W) := Lib.hid (by rw [hW.out]; exact (Below.refl _ _).alloc (Nat.le_refl _) _)
  have H0 := Lib.hid (isMade_un v W (h.below HB.out (Nat.le_refl _)))
  clear h
  go_enter Try.func11, Try.ntmps11
  go_upto_region 1 with fail
  rw [← hW.out]
  go_wp2_with ((go_at_call 15); (with_reducible refine H0.out.mono ?_); rintro e w1 ⟨rfl, rfl⟩)
  go_ret
  exact ⟨rfl, HB.out⟩
end Go.Proofs.Ytefciibkcafbiaa
