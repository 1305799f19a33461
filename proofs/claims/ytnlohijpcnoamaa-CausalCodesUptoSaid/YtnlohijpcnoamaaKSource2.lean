/- codes.Source: a length, a dot, one made, its first error. -/
import Derived.Test.YtnlohijpcnoamaaKSource
import Derived.Test.YtnlohijpcnoamaaCJoin
namespace Go.Proofs.Ytnlohijpcnoamaa
open Go.RowKit
open Go.Lib (byteCells byteCells_length byteCells_append strCells strCells_eq)

/-- What a length and a dot come to. -/
def lenS (bs : List UInt8) (most : Int) (p : Nat) (y : Int) : Int × Nat × Int := if (numS bs p y).1 > most then (0, (numS bs p y).2.1, 4) else numS bs p y
def dotS (bs : List UInt8) (p : Nat) (y : Int) : DotA × Nat × Int :=
  let a := numS bs p y
  let b := numS bs a.2.1 a.2.2
  let c := numS bs b.2.1 b.2.2
  ((a.1, b.1, c.1), c.2.1, c.2.2)

theorem Kept.put {g s d i : Nat} {w w' : World} {v : Value} (h : Kept g s w w') (hd : w.heap.size ≤ d ∨ d = s) : Kept g s w (w'.setCell ⟨d, i, none⟩ v) :=
  ⟨h.os, h.tape, h.output, by simpa [World.setCell] using h.size, fun b hb h1 h2 => (Below.heap_setCell _ _ _ _ (by show b ≠ d; omega)).trans (h.block b hb h1 h2)⟩
theorem Kept.made {g s : Nat} {w w' : World} (h : Kept g s w w') (o : Obj) : Kept g s w (w'.alloc o) :=
  ⟨h.os, h.tape, h.output, by have := h.size; simp; omega, fun b hb h1 h2 => (Below.heap_alloc w' o b (by have := h.size; omega)).trans (h.block b hb h1 h2)⟩
theorem Kept.of {g s : Nat} {w w' : World} (h : Below w.heap.size w w') : Kept g s w w' := ⟨h.os, h.tape, h.output, h.size, fun b hb _ _ => h.block b hb⟩
theorem Src.put {w : World} {s g : Nat} {A : Option Addr} {c : Nat} {bs : List UInt8} {hi p : Nat} {y : Int} {d i : Nat} {v : Value} (h : Src w s g A c bs hi p y) (hd : s < d) : Src (w.setCell ⟨d, i, none⟩ v) s g A c bs hi p y := by
  have := h.hg
  have := h.hs
  exact ⟨(Below.heap_setCell _ _ _ _ (by show s ≠ d; omega)).trans h.row, h.rdr.keep (Below.heap_setCell _ _ _ _ (by show g ≠ d; omega)), h.rd.keep (fun q _ hq => World.cell?_setCell_other _ _ _ _ (fun e => by have := congrArg Addr.block e; simp only at this; omega)), h.hg, h.hs⟩
theorem Src.made {w : World} {s g : Nat} {A : Option Addr} {c : Nat} {bs : List UInt8} {hi p : Nat} {y : Int} (h : Src w s g A c bs hi p y) (o : Obj) : Src (w.alloc o) s g A c bs hi p y := h.kept ((Below.refl _ _).alloc (Nat.le_refl _) o)

set_option maxRecDepth 100000 in
set_option maxHeartbeats 1600000 in
theorem length_src (w : World) (s g : Nat) (A : Option Addr) (c : Nat) (bs : List UInt8) (hi p : Nat) (y most : Int) (h : Src w s g A c bs hi p y) :
    Calls Try.prog 50 #[.pointer (some ⟨s, 0, none⟩), .int .i64 most] w (SrcStep s g A c bs hi (.int .i64 (lenS bs most p y).1) (lenS bs most p y).2.1 (lenS bs most p y).2.2 w) := by
  have HT := Lib.hid (number_src w s g A c bs hi p y h)
  unfold lenS
  obtain ⟨r, hr⟩ : ∃ r, Hid (r = numS bs p y) := ⟨_, Lib.hid rfl⟩
  rw [← hr.out] at HT ⊢
  have hlt := h.lt
  clear h
  by_cases hm : r.1 > most
  · rw [if_pos hm]
    go_enter Try.func50, Try.ntmps50
    go_wp2_with fail
    (with_reducible refine HT.out.mono ?_); rintro e w1 ⟨rfl, h1, h2⟩
    have H1 := Lib.hid h1
    have H2 := Lib.hid h2
    have row1 := h1.row
    have f1 : w1.frozen? ⟨s, 1, none⟩ = false := frozen_of_row w1 s 1 _ _ row1
    have d1 : w1.cell? ⟨s, 1, none⟩ = some (.int .i64 r.2.2) := cell_of_row w1 s 1 _ _ _ row1
    clear h1 h2
    go_wp2
    go_ret
    refine ⟨rfl, ⟨?_, H1.out.rdr.keep (Below.heap_setCell _ _ _ _ (by have := H1.out.hs; show g ≠ s; omega)), ?_, H1.out.hg, H1.out.hs⟩, H2.out.put (.inr rfl)⟩
    · rw [heap_setCell_same w1 s 1 _ _ _ row1]; simp
    · refine H1.out.rd.keep fun q _ hq => ?_
      have := H1.out.hg
      have := H1.out.hs
      exact World.cell?_setCell_other _ _ _ _ (fun e => by have := congrArg Addr.block e; simp only at this; omega)
  · rw [if_neg hm]
    go_enter Try.func50, Try.ntmps50
    go_wp2_with fail
    (with_reducible refine HT.out.mono ?_); rintro e w1 ⟨rfl, h1, h2⟩
    have H1 := Lib.hid h1
    have H2 := Lib.hid h2
    clear h1 h2
    go_wp2
    go_ret
    exact ⟨rfl, H1.out, H2.out⟩

set_option maxRecDepth 100000 in
set_option maxHeartbeats 1600000 in
theorem dot_src (w : World) (s g : Nat) (A : Option Addr) (c : Nat) (bs : List UInt8) (hi p : Nat) (y : Int) (h : Src w s g A c bs hi p y) :
    Calls Try.prog 51 #[.pointer (some ⟨s, 0, none⟩)] w (SrcStep s g A c bs hi (dotV (dotS bs p y).1) (dotS bs p y).2.1 (dotS bs p y).2.2 w) := by
  obtain ⟨W, hW⟩ : ∃ W, Hid (W = w.alloc (.cells #[.int .i64 0, .int .i64 0, .int .i64 0] 55)) := ⟨_, Lib.hid rfl⟩
  have hlt := h.lt
  have h0 : Src W s g A c bs hi p y := by rw [hW.out]; exact h.made _
  have hk0 : Kept g s w W := by rw [hW.out]; exact (Kept.refl g s w).made _
  have hrow : W.heap[w.heap.size]? = some (.cells #[.int .i64 0, .int .i64 0, .int .i64 0] 55 (0, 0)) := by rw [hW.out]; exact heap_alloc_new w _
  have hz : w.heap.size < W.heap.size := by rw [hW.out]; simp
  have HK0 := Lib.hid hk0
  have HROW := Lib.hid hrow
  have HT := Lib.hid (number_src W s g A c bs hi p y h0)
  have hgs := h.hs
  unfold dotS
  obtain ⟨r, hr⟩ : ∃ r, Hid (r = numS bs p y) := ⟨_, Lib.hid rfl⟩
  rw [← hr.out] at HT
  obtain ⟨r2, hr2⟩ : ∃ r2, Hid (r2 = numS bs r.2.1 r.2.2) := ⟨_, Lib.hid rfl⟩
  obtain ⟨r3, hr3⟩ : ∃ r3, Hid (r3 = numS bs r2.2.1 r2.2.2) := ⟨_, Lib.hid rfl⟩
  rw [← hr.out]
  dsimp only
  rw [← hr2.out, ← hr3.out]
  have hWe := hW.out.symm
  clear h h0 hk0 hrow
  go_enter Try.func51, Try.ntmps51
  go_wp2_with fail
  clear hWe
  (with_reducible refine HT.out.mono ?_); rintro e w1 ⟨rfl, h1, k1⟩
  have HT2 := Lib.hid (number_src w1 s g A c bs hi r.2.1 r.2.2 h1)
  rw [← hr2.out] at HT2
  have K1 := Lib.hid k1
  clear h1 k1
  go_wp2_with fail
  (with_reducible refine HT2.out.mono ?_); rintro e w2 ⟨rfl, h2, k2⟩
  have HT3 := Lib.hid (number_src w2 s g A c bs hi r2.2.1 r2.2.2 h2)
  rw [← hr3.out] at HT3
  have K2 := Lib.hid (K1.out.trans k2)
  clear h2 k2
  go_wp2_with fail
  (with_reducible refine HT3.out.mono ?_); rintro e w3 ⟨rfl, h3, k3⟩
  have K3 := Lib.hid (K2.out.trans k3)
  have H3 := Lib.hid h3
  have r1 : w3.heap[w.heap.size]? = some (.cells #[.int .i64 0, .int .i64 0, .int .i64 0] 55 (0, 0)) := (K3.out.block _ hz (by omega) (by omega)).trans HROW.out
  have q0 : w3.cell? ⟨w.heap.size, 0, none⟩ = some (.int .i64 0) := cell_of_row w3 _ 0 _ _ (0, 0) r1
  have q1 : w3.cell? ⟨w.heap.size, 1, none⟩ = some (.int .i64 0) := cell_of_row w3 _ 1 _ _ (0, 0) r1
  have q2 : w3.cell? ⟨w.heap.size, 2, none⟩ = some (.int .i64 0) := cell_of_row w3 _ 2 _ _ (0, 0) r1
  have f0 : w3.frozen? ⟨w.heap.size, 0, none⟩ = false := frozen_of_row w3 _ 0 _ _ r1
  have f1 : w3.frozen? ⟨w.heap.size, 1, none⟩ = false := frozen_of_row w3 _ 1 _ _ r1
  have f2 : w3.frozen? ⟨w.heap.size, 2, none⟩ = false := frozen_of_row w3 _ 2 _ _ r1
  have HR := Lib.hid (Joins.block_setCell (Joins.block_setCell (Joins.block_setCell r1 (i := 0) (.int .i64 r.1)) (i := 1) (.int .i64 r2.1)) (i := 2) (.int .i64 r3.1))
  clear r1 h3 k3
  go_wp2
  have p0 := cell_of_row _ _ 0 _ _ (0, 0) HR.out
  have p1 := cell_of_row _ _ 1 _ _ (0, 0) HR.out
  have p2 := cell_of_row _ _ 2 _ _ (0, 0) HR.out
  refine bodyPost_ret (v := dotV (r.1, r2.1, r3.1)) (by simp [results, Try.results51, go_sem, p0, p1, p2]) rfl ⟨rfl, ((H3.out.put hlt).put hlt).put hlt, ?_⟩
  exact (((HK0.out.trans K3.out).put (.inl (Nat.le_refl _))).put (.inl (Nat.le_refl _))).put (.inl (Nat.le_refl _))

set_option maxRecDepth 100000 in
theorem why_src (w : World) (s g : Nat) (A : Option Addr) (c : Nat) (bs : List UInt8) (hi p : Nat) (y : Int) (h : Src w s g A c bs hi p y) :
    Calls Try.prog 52 #[.pointer (some ⟨s, 0, none⟩)] w (fun e w' => e = .returned (.int .i64 y) ∧ w' = w) := by
  have c1 : w.cell? ⟨s, 1, none⟩ = some (.int .i64 y) := cell_of_row w s 1 _ _ _ h.row
  clear h
  go_enter Try.func52, Try.ntmps52
  go_wp2
  go_ret
  exact ⟨rfl, rfl⟩

set_option maxRecDepth 100000 in
theorem from_any (w : World) (g : Nat) (A : Option Addr) (c : Nat) (bs : List UInt8) (hi p : Nat) (hr : Rdr w g A c bs p) (hrd : RdA w 0 hi A bs) (hg : hi ≤ g) :
    Calls Try.prog 33 #[.pointer (some ⟨g, 0, none⟩)] w (fun e w' => e = .returned (.pointer (some ⟨w.heap.size, 0, none⟩)) ∧ Src w' w.heap.size g A c bs hi p 0 ∧ Below w.heap.size w w' ∧ w'.heap.size = w.heap.size + 1) := by
  have hlt := hr.lt
  go_enter Try.func33, Try.ntmps33
  go_wp2
  go_ret
  exact ⟨rfl, ⟨heap_alloc_new w _, hr.keep (Below.heap_alloc w _ g hlt), hrd.keep (fun q _ hq => World.cell?_alloc_lt w _ q (by omega)), hg, hlt⟩, (Below.refl _ _).alloc (Nat.le_refl _) _, by simp⟩
end Go.Proofs.Ytnlohijpcnoamaa
