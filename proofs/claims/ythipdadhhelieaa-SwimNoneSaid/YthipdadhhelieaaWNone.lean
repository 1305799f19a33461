/- A table that no call made. -/
import Derived.Test.YthipdadhhelieaaWTick
namespace Go.Proofs.Ythipdadhhelieaa
open Go.RowKit Go.Sort Go.BigFrame

def TZ : TabA := ⟨0, 0, noSt, noSt, noSt, noSt, noSt, noSt, noSt, noSt, .slice none 0 0, (0, 0, 0, false)⟩
/-- The pointer is nil, or that of a table that no call made. -/
def Unm (w : World) (v : Value) : Prop := v = .pointer none ∨ ∃ g, v = .pointer (some ⟨g, 0, none⟩) ∧ TabAt w g TZ
theorem Unm.below {w w' : World} {v : Value} (h : Unm w v) {B : Nat} (hb : Below B w w') (hB : w.heap.size ≤ B) : Unm w' v := by
  rcases h with h | ⟨g, h1, h2⟩
  · exact .inl h
  · exact .inr ⟨g, h1, h2.below hb (Nat.lt_of_lt_of_le h2.lt hB)⟩
theorem made_un (v : Value) (w : World) (h : Unm w v) : Calls Try.prog 40 #[v] w fun e w' => e = .returned (.bool false) ∧ w = w' := by
  rcases h with rfl | ⟨g, rfl, h⟩
  · exact made_nil w
  · exact made_any g TZ 0 (by decide) rfl w h

theorem tick_un (v : Value) (n : Int) (w : World) (h : Unm w v) : Calls Try.prog 18 #[v, .int .i64 n] w fun e w' => e = .returned (.tuple #[.slice none 0 0, .slice none 0 0]) ∧ w = w' := by
  have H0 := Lib.hid (made_un v w h)
  clear h
  go_enter Try.func18, Try.ntmps18
  go_wp2_with ((go_at_call 40); (with_reducible refine H0.out.mono ?_); rintro e w1 ⟨rfl, rfl⟩)
  go_ret2
  exact ⟨rfl, rfl⟩
theorem hear_un (v l : Value) (n : Int) (w : World) (h : Unm w v) : Calls Try.prog 15 #[v, l, .int .i64 n] w fun e w' => e = .returned (.slice none 0 0) ∧ w = w' := by
  have H0 := Lib.hid (made_un v w h)
  clear h
  go_enter Try.func15, Try.ntmps15
  go_wp2_with ((go_at_call 40); (with_reducible refine H0.out.mono ?_); rintro e w1 ⟨rfl, rfl⟩)
  go_ret
  exact ⟨rfl, rfl⟩
theorem peers_un (v : Value) (w : World) (h : Unm w v) : Calls Try.prog 27 #[v] w fun e w' => e = .returned (.slice none 0 0) ∧ w = w' := by
  have H0 := Lib.hid (made_un v w h)
  clear h
  go_enter Try.func27, Try.ntmps27
  go_wp2_with ((go_at_call 40); (with_reducible refine H0.out.mono ?_); rintro e w1 ⟨rfl, rfl⟩)
  go_ret
  exact ⟨rfl, rfl⟩
theorem status_un (v : Value) (n : Int) (w : World) (h : Unm w v) : Calls Try.prog 28 #[v, .int .i64 n] w fun e w' => e = .returned (.int .i64 0) ∧ w = w' := by
  have H0 := Lib.hid (made_un v w h)
  clear h
  go_enter Try.func28, Try.ntmps28
  go_wp2_with ((go_at_call 40); (with_reducible refine H0.out.mono ?_); rintro e w1 ⟨rfl, rfl⟩)
  go_ret
  exact ⟨rfl, rfl⟩
theorem up_un (v : Value) (n : Int) (w : World) (h : Unm w v) : Calls Try.prog 29 #[v, .int .i64 n] w fun e w' => e = .returned (.bool false) ∧ w = w' := by
  have H0 := Lib.hid (status_un v n w h)
  clear h
  go_enter Try.func29, Try.ntmps29
  go_wp2_with ((go_at_call 28); (with_reducible refine H0.out.mono ?_); rintro e w1 ⟨rfl, rfl⟩)
  go_ret
  exact ⟨rfl, rfl⟩
/-- A message as the law makes it. -/
abbrev msgV (k f t r o n : Int) : Value := .agg #[.int .i64 k, .int .i64 f, .int .i64 t, .int .i64 r, .string .empty, .slice none 0 0, .slice none 0 0, .slice none 0 0, .int .i64 o, .int .i64 0, .int .i64 n, .int .i64 0, .int .i64 0, .int .i64 0, .slice none 0 0, .slice none 0 0, .slice none 0 0]
set_option maxRecDepth 100000 in
theorem on_un (v : Value) (k f t r o n m : Int) (w : World) (h : Unm w v) : Calls Try.prog 20 #[v, msgV k f t r o n, .int .i64 m] w fun e w' => e = .returned (.tuple #[.slice none 0 0, .slice none 0 0]) ∧ Below w.heap.size w w' := by
  obtain ⟨W, hW⟩ : ∃ W, Hid (W = w.alloc (.cells #[.int .i64 k, .int .i64 f, .int .i64 t, .int .i64 r, .string .empty, .slice none 0 0, .slice none 0 0, .slice none 0 0, .int .i64 o, .int .i64 0, .int .i64 n, .int .i64 0, .int .i64 0, .int .i64 0, .slice none 0 0, .slice none 0 0, .slice none 0 0] 56)) := ⟨_, Lib.hid rfl⟩
  have HB : Hid (Below w.heap.size w W) := Lib.hid (by rw [hW.out]; exact (Below.refl _ _).alloc (Nat.le_refl _) _)
  have H0 := Lib.hid (made_un v W (h.below HB.out (Nat.le_refl _)))
  clear h
  go_enter Try.func20, Try.ntmps20
  go_upto_region 1 with fail
  rw [← hW.out]
  go_wp2_with ((go_at_call 40); (with_reducible refine H0.out.mono ?_); rintro e w1 ⟨rfl, rfl⟩)
  go_ret2
  exact ⟨rfl, HB.out⟩

set_option maxRecDepth 100000 in
set_option maxHeartbeats 1600000 in
theorem msg_any (op now : Int) (A : Option Addr) (l c : Nat) (k f r o n t : Int) (w : World) :
    Calls Try.prog 21 #[.agg #[.int .i64 op, .int .i64 now, .slice A l c, .int .i64 k, .int .i64 f, .int .i64 r, .int .i64 o, .int .i64 n], .int .i64 t] w fun e w' => e = .returned (msgV k f t r o n) ∧ Below w.heap.size w w' := by
  go_enter Try.func21, Try.ntmps21
  go_wp2
  refine bodyPost_ret (v := msgV k f t r o n) ?_ rfl ⟨rfl, ?_⟩
  · simp [results, Try.results21, go_sem]; rfl
  · exact ((Below.refl _ _).alloc (Nat.le_refl _) _).alloc (by simp) _
end Go.Proofs.Ythipdadhhelieaa
