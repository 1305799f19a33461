/- The cursor's steps: left, take, number: their contracts. -/
import Derived.Test.YtnlohijpcnoamaaKSum
namespace Go.Proofs.Ytnlohijpcnoamaa
open Go.RowKit
open Go.Lib (byteCells byteCells_length byteCells_append strCells strCells_eq)

/-- A cursor lies at this address: over these bytes, so far read. -/
structure Cur (w : World) (g o : Nat) (A : Option Addr) (c : Nat) (bs : List UInt8) (p : Nat) : Prop where
  b : w.cell? ⟨g, o, none⟩ = some (.slice A bs.length c)
  at_ : w.cell? ⟨g, o + 1, none⟩ = some (.int .i64 (p : Int))
  fb : w.frozen? ⟨g, o, none⟩ = false
  fa : w.frozen? ⟨g, o + 1, none⟩ = false
  le : p ≤ bs.length
  cap : bs.length ≤ c
  small : bs.length ≤ 1099511627776

set_option maxHeartbeats 400000 in
theorem left_any (g o : Nat) (A : Option Addr) (c : Nat) (bs : List UInt8) (p : Nat) (w : World) (h : Cur w g o A c bs p) :
    Calls Try.prog 38 #[.pointer (some ⟨g, o, none⟩)] w fun e w' => e = .returned (.int .i64 ((bs.length : Int) - (p : Int))) ∧ ∃ n, w' = w.drewN n := by
  have h1 := h.b
  have h2 := h.at_
  have h3 := h.le
  have h4 := h.small
  go_enter Try.func38, Try.ntmps38
  go_wp2
  go_quiet (fail)
  go_wp2
  go_ret
  exact ⟨rfl, _, rfl⟩

/-- One number was written into one cell; draws beside it. -/
def AtIs (w w' : World) (g o : Nat) (x : Int) : Prop := ∃ k, w' = (w.setCell ⟨g, o, none⟩ (.int .i64 x)).drewN k

theorem setCell_twice (w : World) (g o : Nat) (u v : Value) : (w.setCell ⟨g, o, none⟩ u).setCell ⟨g, o, none⟩ v = w.setCell ⟨g, o, none⟩ v := by
  unfold World.setCell
  congr 1
  apply Array.ext_getElem?
  intro i
  simp only [Array.getElem?_modify]
  by_cases hg : g = i
  · simp only [hg, if_true]
    cases w.heap[i]? with
    | none => rfl
    | some x => cases x <;> simp
  · simp only [hg, if_false]

theorem AtIs.trans {w w1 w2 : World} {g o : Nat} {x y : Int} (h : AtIs w w1 g o x) (h2 : AtIs w1 w2 g o y) : AtIs w w2 g o y := by
  obtain ⟨k, rfl⟩ := h
  obtain ⟨j, rfl⟩ := h2
  refine ⟨k + j, ?_⟩
  rw [show ((w.setCell ⟨g, o, none⟩ (.int .i64 x)).drewN k).setCell ⟨g, o, none⟩ (.int .i64 y) = (((w.setCell ⟨g, o, none⟩ (.int .i64 x)).setCell ⟨g, o, none⟩ (.int .i64 y)).drewN k) from rfl, setCell_twice, World.drewN_drewN]
theorem AtIs.after {w w' : World} {g o : Nat} {x : Int} {n : Nat} (h : AtIs (w.drewN n) w' g o x) : AtIs w w' g o x := by
  obtain ⟨k, rfl⟩ := h
  refine ⟨n + k, ?_⟩
  rw [show ((w.drewN n).setCell ⟨g, o, none⟩ (.int .i64 x)) = (w.setCell ⟨g, o, none⟩ (.int .i64 x)).drewN n from rfl, World.drewN_drewN]
theorem AtIs.behind {w w' : World} {g o : Nat} {x : Int} (h : AtIs w w' g o x) (n : Nat) : AtIs w (w'.drewN n) g o x := by
  obtain ⟨k, rfl⟩ := h
  exact ⟨k + n, by rw [World.drewN_drewN]⟩
theorem AtIs.block {w w' : World} {g o : Nat} {x : Int} (h : AtIs w w' g o x) {b : Nat} (hb : b ≠ g) : w'.heap[b]? = w.heap[b]? := by
  obtain ⟨k, rfl⟩ := h
  exact Below.heap_setCell w ⟨g, o, none⟩ _ b hb
theorem AtIs.size {w w' : World} {g o : Nat} {x : Int} (h : AtIs w w' g o x) : w'.heap.size = w.heap.size := by
  obtain ⟨k, rfl⟩ := h
  simp [World.setCell, World.drewN]
theorem AtIs.grown {w w' : World} {g o : Nat} {x : Int} (h : AtIs w w' g o x) : w.grownBy w' (some g) := by
  have h1 := h.size
  have h2 := fun b hb => h.block (b := b) hb
  obtain ⟨k, rfl⟩ := h
  exact ⟨rfl, rfl, rfl, by omega, fun i _ hne => h2 i (fun e => hne (by rw [e]))⟩
theorem AtIs.cell_other {w w' : World} {g o : Nat} {x : Int} (h : AtIs w w' g o x) {a : Addr} (ha : a ≠ ⟨g, o, none⟩) : w'.cell? a = w.cell? a := by
  obtain ⟨k, rfl⟩ := h
  exact World.cell?_setCell_other w _ a _ (Ne.symm ha)
theorem AtIs.cell_same {w w' : World} {g o : Nat} {x : Int} {u : Value} (h : AtIs w w' g o x) (hc : w.cell? ⟨g, o, none⟩ = some u) : w'.cell? ⟨g, o, none⟩ = some (.int .i64 x) := by
  obtain ⟨k, rfl⟩ := h
  exact World.cell?_setCell_same w _ _ hc
theorem AtIs.frozen {w w' : World} {g o : Nat} {x : Int} (h : AtIs w w' g o x) (a : Addr) : w'.frozen? a = w.frozen? a := by
  obtain ⟨k, rfl⟩ := h
  exact World.frozen?_setCell _ _ _ _
theorem Cur.moved {w w' : World} {g o : Nat} {A : Option Addr} {c : Nat} {bs : List UInt8} {p q : Nat} (h : Cur w g o A c bs p) (h' : AtIs w w' g (o + 1) (q : Int)) (hq : q ≤ bs.length) : Cur w' g o A c bs q :=
  ⟨(h'.cell_other (by simp)).trans h.b, h'.cell_same h.at_, (h'.frozen _).trans h.fb, (h'.frozen _).trans h.fa, hq, h.cap, h.small⟩
theorem Cur.drewN {w : World} {g o : Nat} {A : Option Addr} {c : Nat} {bs : List UInt8} {p : Nat} (h : Cur w g o A c bs p) (n : Nat) : Cur (w.drewN n) g o A c bs p := ⟨h.b, h.at_, h.fb, h.fa, h.le, h.cap, h.small⟩

/-- The number of an error, as a panic bears it. -/
def Gave (x : Int) (e : Ending) : Prop := e = .panicked [{ v := .iface 28 (.int .i64 x), recovered := false }]

set_option maxHeartbeats 800000 in
theorem take_short (g o : Nat) (A : Option Addr) (c : Nat) (bs : List UInt8) (p : Nat) (n : Int) (w : World) (h : Cur w g o A c bs p) (hn : (bs.length : Int) - (p : Int) < n) :
    Calls Try.prog 31 #[.pointer (some ⟨g, o, none⟩), .int .i64 n] w fun e w' => Gave 2 e ∧ ∃ n, w' = w.drewN n := by
  go_enter Try.func31, Try.ntmps31
  go_wp2_with fail
  refine (left_any g o A c bs p w h).mono ?_
  rintro e w1 ⟨rfl, k, rfl⟩
  go_wp2
  exact ⟨rfl, rfl, _, rfl⟩

/-- The piece of n bytes that begins behind p bytes: where it lies. -/
def Piece (A : Option Addr) (c p : Nat) (A' : Option Addr) : Prop := A' = if c = p then A else A.map (·.add p)

theorem add_add (a : Addr) (i j : Nat) : (a.add i).add j = a.add (i + j) := by
  unfold Addr.add
  by_cases hi : i = 0 <;> by_cases hj : j = 0 <;> simp [hi, hj, Nat.add_assoc]

theorem byteCells_piece (bs : List UInt8) (p n j : Nat) (u : Value) (h : (byteCells ((bs.drop p).take n))[j]? = some u) : (byteCells bs)[p + j]? = some u := by
  simp only [byteCells, List.getElem?_map, List.getElem?_take, List.getElem?_drop] at h ⊢
  split at h
  · exact h
  · cases h

theorem Piece.rd {A A' : Option Addr} {c p n : Nat} {bs : List UInt8} {w : World} {lo hi : Nat} (h : Piece A c p A') (hr : RdA w lo hi A bs) (hc : bs.length ≤ c) : RdA w lo hi A' ((bs.drop p).take n) := fun h0 => by
  have hl : p < bs.length := by simp at h0; omega
  obtain ⟨ad, rfl, h1, h2, h3⟩ := hr (by omega)
  unfold Piece at h
  rw [if_neg (by omega)] at h
  refine ⟨ad.add p, h, by rw [add_block]; exact h1, by rw [add_block]; exact h2, fun j u hu => ?_⟩
  rw [add_add]
  exact h3 _ u (byteCells_piece bs p n j u hu)

/-- take: the piece, and how far the cursor has gone. -/
def Took (g o : Nat) (A : Option Addr) (c p n : Nat) (w : World) (e : Ending) (w' : World) : Prop := ∃ A', e = .returned (.slice A' n (c - p)) ∧ Piece A c p A' ∧ AtIs w w' g (o + 1) ((p + n : Nat) : Int)

set_option maxHeartbeats 800000 in
theorem take_ok (g o : Nat) (A : Option Addr) (c : Nat) (bs : List UInt8) (p n : Nat) (w : World) (h : Cur w g o A c bs p) (hn : p + n ≤ bs.length) :
    Calls Try.prog 31 #[.pointer (some ⟨g, o, none⟩), .int .i64 (n : Int)] w (Took g o A c p n w) := by
  have h1 := h.b
  have h2 := h.at_
  have h3 := h.le
  have h4 := h.small
  have h5 := h.fa
  have h6 := h.cap
  go_enter Try.func31, Try.ntmps31
  go_wp2_with fail
  refine (left_any g o A c bs p w h).mono ?_
  rintro e w1 ⟨rfl, k, rfl⟩
  by_cases hcp : c = p
  · subst hcp
    go_wp2
    go_quiet (fail)
    go_wp2
    all_goals go_ret
    all_goals exact ⟨A, by simp, by simp [Piece], AtIs.after (n := k) (AtIs.behind ⟨0, rfl⟩ _)⟩
  · go_wp2
    go_quiet (fail)
    go_wp2
    all_goals go_ret
    all_goals exact ⟨A.map (·.add p), by first | rfl | simp, by simp [Piece, hcp], AtIs.after (n := k) (AtIs.behind ⟨0, rfl⟩ _)⟩
end Go.Proofs.Ytnlohijpcnoamaa
