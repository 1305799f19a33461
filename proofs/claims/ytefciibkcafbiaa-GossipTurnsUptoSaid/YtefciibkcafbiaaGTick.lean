/- Tick of a box without rumours. -/
import Derived.Test.YtefciibkcafbiaaGNext
import Derived.StillTailTactics
namespace Go.Proofs.Ytefciibkcafbiaa
open Go.RowKit Go.Sort Go.BigFrame

/-- Blocks below B stay, but for block g. -/
structure Turns (g B : Nat) (a w : World) : Prop where
  os : w.os = a.os
  tape : w.tape = a.tape
  output : w.output = a.output
  size : a.heap.size ≤ w.heap.size
  block : ∀ b, b < B → b ≠ g → w.heap[b]? = a.heap[b]?
theorem Turns.of {g B : Nat} {a w : World} (h : Below B a w) : Turns g B a w := ⟨h.os, h.tape, h.output, h.size, fun b hb _ => h.block b hb⟩
theorem Turns.trans {g B : Nat} {a w v : World} (h : Turns g B a w) (h2 : Turns g B w v) : Turns g B a v :=
  ⟨h2.os.trans h.os, h2.tape.trans h.tape, h2.output.trans h.output, Nat.le_trans h.size h2.size, fun b hb hg => (h2.block b hb hg).trans (h.block b hb hg)⟩
theorem Turns.mono {g B B' : Nat} {a w : World} (h : Turns g B a w) (hB : B' ≤ B) : Turns g B' a w := ⟨h.os, h.tape, h.output, h.size, fun b hb hg => h.block b (by omega) hg⟩
theorem Turns.set {g B : Nat} {a w : World} (h : Turns g B a w) (i : Nat) (v : Value) : Turns g B a (w.setCell ⟨g, i, none⟩ v) :=
  ⟨h.os, h.tape, h.output, by simpa using h.size, fun b hb hg => (Below.heap_setCell _ _ _ _ (by show b ≠ g; exact hg)).trans (h.block b hb hg)⟩
theorem Turns.drew {g B : Nat} {a w : World} (h : Turns g B a w) : Turns g B a w.drew := ⟨h.os, h.tape, h.output, h.size, h.block⟩
theorem Turns.below {g B : Nat} {a w : World} (h : Turns g B a w) (hg : B ≤ g) : Below B a w := ⟨h.os, h.tape, h.output, h.size, fun b hb => h.block b hb (by omega)⟩

theorem clone_members (w : World) : Calls Try.prog 20 #[.slice none 0 0] w fun e w' => e = .returned (.slice none 0 0) ∧ w = w' := by
  have he : ∀ u : World, (binOp .eql 31 (.slice none 0 0) (.slice none 0 0)).run Try.prog u = .ok (.bool true) u := fun u => Lib.run_eql_slice_nil (P := Try.prog) u 31 76 none 0 0 0 0 Try.underlying31
  go_enter Try.func20, Try.ntmps20
  go_wp2
  go_ret
  exact ⟨rfl, rfl⟩

set_option maxRecDepth 100000 in
/-- Too early. -/
theorem tick_early (g : Nat) (s t a now : Int) (l : Value) (ht : 0 ≤ t) (hn : 0 ≤ now) (hn2 : now ≤ 1000000) (ha : 0 ≤ a) (ha2 : a ≤ 1000000) (hd : now - a < 100) (w : World) (h : BoxAt w g true s t a) :
    Calls Try.prog 11 #[.pointer (some ⟨g, 0, none⟩), .int .i64 now, ringZ, l] w fun e w' => e = .returned (.slice none 0 0) ∧ Below w.heap.size w w' := by
  obtain ⟨W, hW⟩ : ∃ W, Hid (W = w.alloc (.cells #[.int .i64 0, .int .i64 0, .int .i64 0, .slice none 0 0] 33)) := ⟨_, Lib.hid rfl⟩
  have HB : Hid (Below w.heap.size w W) := Lib.hid (by rw [hW.out]; exact (Below.refl _ _).alloc (Nat.le_refl _) _)
  have hw := h.below HB.out h.lt
  have c42 : W.cell? ⟨g, 42, none⟩ = some (.int .i64 t) := hw.cell 42
  have c43 : W.cell? ⟨g, 43, none⟩ = some (.int .i64 a) := hw.cell 43
  have d1 : decide (now < 0) = false := by simp; omega
  have d2 : (t == -1) = false := by simp; omega
  have d3 : (t != -1) = true := by simp; omega
  have d4 : decide (now - a < 100) = true := by simp; omega
  have H0 := Lib.hid (isMade_box g true s t a W hw)
  clear h hw hd
  go_enter Try.func11, Try.ntmps11
  go_upto_region 1 with fail
  rw [← hW.out]
  go_wp2_with ((go_at_call 15); (with_reducible refine H0.out.mono ?_); rintro e w1 ⟨rfl, rfl⟩)
  go_ret
  exact ⟨rfl, HB.out⟩

/-- The cells of a message. -/
def gcells (s n : Int) : Array Value := #[.int .i64 5, .int .i64 s, .int .i64 n, .int .i64 0, .string .empty, .slice none 0 0, .slice none 0 0, .slice none 0 0, .int .i64 0, .int .i64 0, .int .i64 0, .int .i64 0, .int .i64 0, .int .i64 0, .slice none 0 0, .slice none 0 0, .slice none 0 0]
/-- What a Tick that sends leaves. -/
def Sent (g B : Nat) (s n now : Int) (w w' : World) (e : Ending) : Prop := ∃ b, e = .returned (.slice (some ⟨b, 0, none⟩) 1 1) ∧ B ≤ b ∧ w'.heap[b]? = some (.cells (gcells s n) 54 (0, 0)) ∧ BoxAt w' g true s n now ∧ Turns g B w w'

theorem sent_mk {g : Nat} {s n now : Int} {w w2 w6 : World} {e : Ending} (he : e = .returned (.slice (some ⟨w6.heap.size, 0, none⟩) 1 1)) (t2 : Turns g w.heap.size w w2) (b2 : BoxAt w2 g true s n now) (hg : g < w.heap.size) (hb : Below w2.drew.heap.size w2.drew w6) :
    Sent g w.heap.size s n now w (w6.alloc (.cells (gcells s n) 54)) e := by
  have hB : Below w2.heap.size w2 (w6.alloc (.cells (gcells s n) 54)) := by
    have h1 : Below w2.heap.size w2 w6 := (Below.refl _ w2).drew.trans hb
    exact h1.alloc h1.size _
  have hs : w2.heap.size ≤ w6.heap.size := hb.size
  unfold Sent
  exact ⟨w6.heap.size, he, Nat.le_trans t2.size hs, heap_alloc_new w6 _, b2.below hB (Nat.lt_of_lt_of_le hg t2.size), t2.trans (Turns.of (hB.mono t2.size))⟩
set_option maxRecDepth 100000 in
set_option maxHeartbeats 1600000 in
/-- Not too early. -/
theorem tick_late (g : Nat) (ks st : Nat) (t a now : Int) (ht : t = (st : Int) - 1) (hst : st ≤ 8) (hn : 0 ≤ now) (hn2 : now ≤ 1000000) (ha : 0 ≤ a) (ha2 : a ≤ 1000000) (hd : t = -1 ∨ 100 ≤ now - a)
    (A : Option Addr) (zs : List Int) (c : Nat) (hl : zs.length ≤ 1048576) (hx : nx (marks ks zs) st < 8) (w : World) (h : BoxAt w g true (ks : Int) t a) (hz : RdZ w A zs) :
    Calls Try.prog 11 #[.pointer (some ⟨g, 0, none⟩), .int .i64 now, ringZ, .slice A zs.length c] w fun e w' => Sent g w.heap.size ks (nx (marks ks zs) st) now w w' e := by
  obtain ⟨W, hW⟩ : ∃ W, Hid (W = w.alloc (.cells #[.int .i64 0, .int .i64 0, .int .i64 0, .slice none 0 0] 33)) := ⟨_, Lib.hid rfl⟩
  have hb0 : Below w.heap.size w W := by rw [hW.out]; exact (Below.refl _ _).alloc (Nat.le_refl _) _
  have hw := h.below hb0 h.lt
  have hr : W.heap[w.heap.size]? = some (.cells #[.int .i64 0, .int .i64 0, .int .i64 0, .slice none 0 0] 33 (0, 0)) := by rw [hW.out]; exact heap_alloc_new w _
  have c42 : W.cell? ⟨g, 42, none⟩ = some (.int .i64 t) := hw.cell 42
  have c43 : W.cell? ⟨g, 43, none⟩ = some (.int .i64 a) := hw.cell 43
  have f42 := hw.frozen 42
  have f43 := hw.frozen 43
  have hgl := h.lt
  have hgne : g ≠ w.heap.size := by omega
  obtain ⟨m, hm⟩ : ∃ m, Hid (m = nx (marks ks zs) st) := ⟨_, Lib.hid rfl⟩
  have hm8 : m < 8 := by rw [hm.out]; exact hx
  obtain ⟨W1, hW1⟩ : ∃ W1, Hid (W1 = (W.setCell ⟨g, 42, none⟩ (.int .i64 (m : Int))).setCell ⟨g, 43, none⟩ (.int .i64 now)) := ⟨_, Lib.hid rfl⟩
  have hb1 : BoxAt W1 g true ks m now := by
    rw [hW1.out]
    have := Joins.block_setCell (Joins.block_setCell hw (i := 42) (.int .i64 (m : Int))) (i := 43) (.int .i64 now)
    exact this
  have hr1 : W1.heap[w.heap.size]? = some (.cells #[.int .i64 0, .int .i64 0, .int .i64 0, .slice none 0 0] 33 (0, 0)) := by
    rw [hW1.out, Below.heap_setCell _ _ _ _ (by show w.heap.size ≠ g; omega), Below.heap_setCell _ _ _ _ (by show w.heap.size ≠ g; omega)]
    exact hr
  have t1 : Turns g w.heap.size w W1 := by rw [hW1.out]; exact ((Turns.of hb0).set _ _).set _ _
  have q3 : W1.cell? ⟨w.heap.size, 3, none⟩ = some (.slice none 0 0) := cell_of_row _ _ 3 _ _ (0, 0) hr1
  have qf : W1.frozen? ⟨w.heap.size, 3, none⟩ = false := frozen_of_row _ _ 3 _ _ hr1
  obtain ⟨W2, hW2⟩ : ∃ W2, Hid (W2 = W1.setCell ⟨w.heap.size, 3, none⟩ (.slice none 0 0)) := ⟨_, Lib.hid rfl⟩
  have hb2 : BoxAt W2 g true ks m now := by
    rw [hW2.out]
    exact (Below.heap_setCell _ _ _ _ (by show g ≠ w.heap.size; omega)).trans hb1
  have hr2 : W2.heap[w.heap.size]? = some (.cells #[.int .i64 0, .int .i64 0, .int .i64 0, .slice none 0 0] 33 (0, 0)) := by
    rw [hW2.out]
    exact Joins.block_setCell hr1 (i := 3) (.slice none 0 0)
  have t2 : Turns g w.heap.size w W2 := by
    rw [hW2.out]
    exact ⟨t1.os, t1.tape, t1.output, by simpa using t1.size, fun b hb hg => (Below.heap_setCell _ _ _ _ (by show b ≠ w.heap.size; omega)).trans (t1.block b hb hg)⟩
  have HR2 := Lib.hid hr2
  have HT2 := Lib.hid t2
  have HB2 := Lib.hid hb2
  have d1 : decide (now < 0) = false := by simp; omega
  have hxI : nxI (marks ks zs) st = (m : Int) := by unfold nxI; rw [if_pos hx, hm.out]
  have HN : Hid (Calls Try.prog 19 #[.pointer (some ⟨g, 0, none⟩), .slice A zs.length c] W fun e w' => e = .returned (.int .i64 (m : Int)) ∧ W = w') := Lib.hid (by
    have := next_any g true ks st t a ht hst A zs c W hw (hz.below hb0) hl
    rw [hxI] at this
    exact this)
  have H0 := Lib.hid (isMade_box g true ks t a W hw)
  have HS := Lib.hid (send_none g true ks m now W2.drew hb2)
  have HC := Lib.hid (clone_members W1)
  have d5 : ((m : Int) == -1) = false := by simp
  have k0 : W2.drew.cell? ⟨g, 1, none⟩ = some (.int .i64 (ks : Int)) ∧ W2.drew.cell? ⟨w.heap.size, 0, none⟩ = some (.int .i64 0) ∧ W2.drew.cell? ⟨w.heap.size, 1, none⟩ = some (.int .i64 0) ∧ W2.drew.cell? ⟨w.heap.size, 2, none⟩ = some (.int .i64 0) ∧ W2.drew.cell? ⟨w.heap.size, 3, none⟩ = some (.slice none 0 0) :=
    ⟨hb2.cell 1, cell_of_row _ _ 0 _ _ (0, 0) hr2, cell_of_row _ _ 1 _ _ (0, 0) hr2, cell_of_row _ _ 2 _ _ (0, 0) hr2, cell_of_row _ _ 3 _ _ (0, 0) hr2⟩
  have HZ : Hid (w.heap.size < W2.heap.size) := Lib.hid (Array.getElem?_eq_some_iff.1 hr2).1
  have hZg : Hid (g < W2.heap.size) := Lib.hid hb2.lt
  obtain ⟨n, hnn⟩ : ∃ n, Hid (n = zs.length) := ⟨_, Lib.hid rfl⟩
  rw [← hnn.out] at HN ⊢
  rw [← hm.out]
  have HD : Hid (t = -1 ∨ 100 ≤ now - a) := Lib.hid hd
  have t0 : -1 ≤ t := by omega
  have t9 : t ≤ 7 := by omega
  clear h hw hb0 hr hb1 hr1 t1 hb2 hr2 t2 hx hxI ht hd hz
  have dD : ((t == -1) = true ∧ (t != -1) = false) ∨ ((t == -1) = false ∧ (t != -1) = true ∧ decide (now - a < 100) = false) := by
    have := HD.out
    by_cases h1 : t = -1
    · exact .inl ⟨by simpa using h1, by simp [h1]⟩
    · exact .inr ⟨by simpa using h1, by simp [h1], by simp; omega⟩
  rcases dD with ⟨d2, d3⟩ | ⟨d2, d3, d4⟩
  all_goals
    go_enter Try.func11, Try.ntmps11
    go_upto_region 1 with fail
    rw [← hW.out]
    go_upto_region 7 with (first
      | (go_at_call 15
         (with_reducible refine H0.out.mono ?_); rintro e w1 ⟨rfl, rfl⟩)
      | (go_at_call 19
         (with_reducible refine HN.out.mono ?_); rintro e w1 ⟨rfl, rfl⟩))
    rw [← hW1.out]
    go_upto_region 8 with (go_at_call 20; (with_reducible refine HC.out.mono ?_); rintro e w1 ⟨rfl, rfl⟩)
    rw [← hW2.out]
    go_region_held3 (fun w' => w'.cell? ⟨g, 1, none⟩ = some (.int .i64 (ks : Int)) ∧ w'.cell? ⟨w.heap.size, 0, none⟩ = some (.int .i64 0) ∧ w'.cell? ⟨w.heap.size, 1, none⟩ = some (.int .i64 0) ∧ w'.cell? ⟨w.heap.size, 2, none⟩ = some (.int .i64 0) ∧ w'.cell? ⟨w.heap.size, 3, none⟩ = some (.slice none 0 0))
      (first | exact k0 | exact k6 | go_keep)
      (first
        | (go_at_call 21
           (with_reducible refine HS.out.mono ?_); rintro e w6 ⟨rfl, hb6⟩
           have k6 : w6.cell? ⟨g, 1, none⟩ = some (.int .i64 (ks : Int)) ∧ w6.cell? ⟨w.heap.size, 0, none⟩ = some (.int .i64 0) ∧ w6.cell? ⟨w.heap.size, 1, none⟩ = some (.int .i64 0) ∧ w6.cell? ⟨w.heap.size, 2, none⟩ = some (.int .i64 0) ∧ w6.cell? ⟨w.heap.size, 3, none⟩ = some (.slice none 0 0) :=
             ⟨(hb6.cell (p := ⟨g, 1, none⟩) hZg.out).trans k0.1, (hb6.cell (p := ⟨w.heap.size, 0, none⟩) HZ.out).trans k0.2.1, (hb6.cell (p := ⟨w.heap.size, 1, none⟩) HZ.out).trans k0.2.2.1, (hb6.cell (p := ⟨w.heap.size, 2, none⟩) HZ.out).trans k0.2.2.2.1, (hb6.cell (p := ⟨w.heap.size, 3, none⟩) HZ.out).trans k0.2.2.2.2⟩
           have HB6 := Lib.hid hb6))
    all_goals go_wp2
    all_goals go_ret
    all_goals exact sent_mk rfl HT2.out HB2.out hgl HB6.out

set_option maxRecDepth 100000 in
set_option maxHeartbeats 1600000 in
/-- Nobody to send to. -/
theorem tick_nobody (g : Nat) (ks st : Nat) (t a now : Int) (ht : t = (st : Int) - 1) (hst : st ≤ 8) (hn : 0 ≤ now) (hn2 : now ≤ 1000000) (ha : 0 ≤ a) (ha2 : a ≤ 1000000) (hd : t = -1 ∨ 100 ≤ now - a)
    (A : Option Addr) (zs : List Int) (c : Nat) (hl : zs.length ≤ 1048576) (hx : ¬ nx (marks ks zs) st < 8) (w : World) (h : BoxAt w g true (ks : Int) t a) (hz : RdZ w A zs) :
    Calls Try.prog 11 #[.pointer (some ⟨g, 0, none⟩), .int .i64 now, ringZ, .slice A zs.length c] w fun e w' => e = .returned (.slice none 0 0) ∧ Below w.heap.size w w' := by
  obtain ⟨W, hW⟩ : ∃ W, Hid (W = w.alloc (.cells #[.int .i64 0, .int .i64 0, .int .i64 0, .slice none 0 0] 33)) := ⟨_, Lib.hid rfl⟩
  have hb0 : Below w.heap.size w W := by rw [hW.out]; exact (Below.refl _ _).alloc (Nat.le_refl _) _
  have hw := h.below hb0 h.lt
  have c42 : W.cell? ⟨g, 42, none⟩ = some (.int .i64 t) := hw.cell 42
  have c43 : W.cell? ⟨g, 43, none⟩ = some (.int .i64 a) := hw.cell 43
  have d1 : decide (now < 0) = false := by simp; omega
  have hxI : nxI (marks ks zs) st = -1 := by unfold nxI; rw [if_neg hx]
  have HN : Hid (Calls Try.prog 19 #[.pointer (some ⟨g, 0, none⟩), .slice A zs.length c] W fun e w' => e = .returned (.int .i64 (-1)) ∧ W = w') := Lib.hid (by
    have := next_any g true ks st t a ht hst A zs c W hw (hz.below hb0) hl
    rw [hxI] at this
    exact this)
  have H0 := Lib.hid (isMade_box g true ks t a W hw)
  have HB0 := Lib.hid hb0
  obtain ⟨n, hnn⟩ : ∃ n, Hid (n = zs.length) := ⟨_, Lib.hid rfl⟩
  rw [← hnn.out] at HN ⊢
  have HD : Hid (t = -1 ∨ 100 ≤ now - a) := Lib.hid hd
  have t0 : -1 ≤ t := by omega
  have t9 : t ≤ 7 := by omega
  clear h hw hb0 hx hxI ht hd hz
  have dD : ((t == -1) = true ∧ (t != -1) = false) ∨ ((t == -1) = false ∧ (t != -1) = true ∧ decide (now - a < 100) = false) := by
    have := HD.out
    by_cases h1 : t = -1
    · exact .inl ⟨by simpa using h1, by simp [h1]⟩
    · exact .inr ⟨by simpa using h1, by simp [h1], by simp; omega⟩
  rcases dD with ⟨d2, d3⟩ | ⟨d2, d3, d4⟩
  all_goals
    go_enter Try.func11, Try.ntmps11
    go_upto_region 1 with fail
    rw [← hW.out]
    go_wp2_with (first
      | (go_at_call 15
         (with_reducible refine H0.out.mono ?_); rintro e w1 ⟨rfl, rfl⟩)
      | (go_at_call 19
         (with_reducible refine HN.out.mono ?_); rintro e w1 ⟨rfl, rfl⟩))
    go_ret
    exact ⟨rfl, HB0.out⟩
end Go.Proofs.Ytefciibkcafbiaa
