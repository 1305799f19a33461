/- codes.Source: a number read by it. -/
import Derived.Test.YtnlohijpcnoamaaKReader2
import Derived.Test.YtnlohijpcnoamaaCCmp
namespace Go.Proofs.Ytnlohijpcnoamaa
open Go.RowKit
open Go.Lib (byteCells byteCells_length byteCells_append strCells strCells_eq)

/-- Nothing of what was there has turned but two blocks. -/
structure Kept (g s : Nat) (w w' : World) : Prop where
  os : w'.os = w.os
  tape : w'.tape = w.tape
  output : w'.output = w.output
  size : w.heap.size ≤ w'.heap.size
  block : ∀ b, b < w.heap.size → b ≠ g → b ≠ s → w'.heap[b]? = w.heap[b]?
theorem Kept.refl (g s : Nat) (w : World) : Kept g s w w := ⟨rfl, rfl, rfl, Nat.le_refl _, fun _ _ _ _ => rfl⟩
theorem Kept.trans {g s : Nat} {a b c : World} (h : Kept g s a b) (h2 : Kept g s b c) : Kept g s a c :=
  ⟨h2.os.trans h.os, h2.tape.trans h.tape, h2.output.trans h.output, Nat.le_trans h.size h2.size, fun k hk h3 h4 => (h2.block k (Nat.lt_of_lt_of_le hk h.size) h3 h4).trans (h.block k hk h3 h4)⟩
theorem Kept.below {g s B : Nat} {w w' : World} (h : Kept g s w w') (hg : B ≤ g) (hs : B ≤ s) (hB : B ≤ w.heap.size) : Below B w w' :=
  ⟨h.os, h.tape, h.output, h.size, fun k hk => h.block k (by omega) (by omega) (by omega)⟩

/-- What a reader's number comes to: the number, how far it is then, the first error. -/
def numS (bs : List UInt8) (p : Nat) (y : Int) : Int × Nat × Int := if y = 0 then (((uint (bs.drop p)).1 : Int), p + (uint (bs.drop p)).2.1, (uint (bs.drop p)).2.2) else (0, p, y)

/-- A source lies in block s, over the reader of block g. -/
structure Src (w : World) (s g : Nat) (A : Option Addr) (c : Nat) (bs : List UInt8) (hi p : Nat) (y : Int) : Prop where
  row : w.heap[s]? = some (.cells #[.pointer (some ⟨g, 0, none⟩), .int .i64 y] 86 (0, 0))
  rdr : Rdr w g A c bs p
  rd : RdA w 0 hi A bs
  hg : hi ≤ g
  hs : g < s
theorem Src.lt {w : World} {s g : Nat} {A : Option Addr} {c : Nat} {bs : List UInt8} {hi p : Nat} {y : Int} (h : Src w s g A c bs hi p y) : s < w.heap.size := by
  have := h.row
  by_cases hl : s < w.heap.size
  · exact hl
  · rw [Array.getElem?_eq_none (by omega)] at this; cases this

set_option maxRecDepth 100000 in
set_option maxHeartbeats 1600000 in
theorem take_any (w : World) (s g : Nat) (A : Option Addr) (c : Nat) (bs : List UInt8) (hi p : Nat) (y : Int) (h : Src w s g A c bs hi p y) :
    Calls Try.prog 71 #[.pointer (some ⟨s, 0, none⟩), .func (.func 72) #[.pointer (some ⟨g, 0, none⟩)] #[]] w
      (fun e w' => e = .returned (.int .i64 (numS bs p y).1) ∧ Src w' s g A c bs hi (numS bs p y).2.1 (numS bs p y).2.2 ∧ Kept g s w w') := by
  have hlt := h.lt
  have c1 : w.cell? ⟨s, 1, none⟩ = some (.int .i64 y) := cell_of_row w s 1 _ _ _ h.row
  have HS := Lib.hid h
  have hgs := h.hs
  by_cases hy : y = 0
  · subst hy
    have HU := Lib.hid (uint_made g A c bs p 0 hi w h.rdr h.rd (by have := h.hg; have := h.hs; omega) (.inl h.hg))
    obtain ⟨r, hr⟩ : ∃ r, Hid (r = uint (bs.drop p)) := ⟨_, Lib.hid rfl⟩
    have HN : Hid (numS bs p 0 = ((r.1 : Int), p + r.2.1, r.2.2)) := Lib.hid (by rw [hr.out]; rfl)
    rw [← hr.out] at HU
    rw [HN.out]
    go_enter Try.func71, Try.ntmps71
    go_wp2_with fail
    (with_reducible refine HU.out.mono ?_); rintro e w1 hp
    obtain rfl := hp.ending
    have HR1 := Lib.hid hp.rdr
    have HG1 := Lib.hid hp.grown
    have row1 : w1.heap[s]? = some (.cells #[.pointer (some ⟨g, 0, none⟩), .int .i64 0] 86 (0, 0)) := (HG1.out.block s hlt (by simp; omega)).trans HS.out.row
    have d1 : w1.cell? ⟨s, 1, none⟩ = some (.int .i64 0) := cell_of_row w1 s 1 _ _ _ row1
    have f1 : w1.frozen? ⟨s, 1, none⟩ = false := frozen_of_row w1 s 1 _ _ row1
    clear hp
    go_wp2
    go_ret
    refine ⟨rfl, ⟨?_, HR1.out.keep (Below.heap_setCell _ _ _ _ (by show g ≠ s; omega)), ?_, HS.out.hg, HS.out.hs⟩, ?_⟩
    · rw [heap_setCell_same w1 s 1 _ _ _ row1]; simp
    · refine HS.out.rd.keep fun q _ hq => ?_
      have := HS.out.hg
      exact (World.cell?_setCell_other _ _ _ _ (fun e => by have := congrArg Addr.block e; simp only at this; omega)).trans (World.cell?_of_block (HG1.out.block _ (by omega) (by simp; omega)))
    · refine ⟨HG1.out.os, HG1.out.tape, HG1.out.output, by simpa [World.setCell] using HG1.out.size, fun b hb h1 h2 => (Below.heap_setCell _ _ _ _ (by exact h2)).trans (HG1.out.block b hb (by simp; omega))⟩
  · have HN : Hid (numS bs p y = (0, p, y)) := Lib.hid (by unfold numS; rw [if_neg hy])
    rw [HN.out]
    go_enter Try.func71, Try.ntmps71
    go_wp2
    go_ret
    exact ⟨rfl, HS.out, Kept.refl _ _ _⟩

/-- What a step of a source comes to. -/
def SrcStep (s g : Nat) (A : Option Addr) (c : Nat) (bs : List UInt8) (hi : Nat) (v : Value) (p : Nat) (y : Int) (w : World) (e : Ending) (w' : World) : Prop :=
  e = .returned v ∧ Src w' s g A c bs hi p y ∧ Kept g s w w'

theorem Src.kept {w w' : World} {s g : Nat} {A : Option Addr} {c : Nat} {bs : List UInt8} {hi p : Nat} {y : Int} (h : Src w s g A c bs hi p y) (hb : Below w.heap.size w w') : Src w' s g A c bs hi p y :=
  ⟨(hb.block s h.lt).trans h.row, h.rdr.keep (hb.block g (by have := h.lt; have := h.hs; omega)), h.rd.keep (fun q _ hq => hb.cell (by have := h.lt; have := h.hs; have := h.hg; omega)), h.hg, h.hs⟩

set_option maxRecDepth 100000 in
set_option maxHeartbeats 1600000 in
theorem number_src (w : World) (s g : Nat) (A : Option Addr) (c : Nat) (bs : List UInt8) (hi p : Nat) (y : Int) (h : Src w s g A c bs hi p y) :
    Calls Try.prog 65 #[.pointer (some ⟨s, 0, none⟩)] w (SrcStep s g A c bs hi (.int .i64 (numS bs p y).1) (numS bs p y).2.1 (numS bs p y).2.2 w) := by
  have hmf : ∀ (fn : Fn) (first cap : Array Value) (w : World), (Instr.makeFunc fn first cap).run Try.prog w = .ok (.func fn first cap) w := fun _ _ _ _ => rfl
  have hlt := h.lt
  have c0 : w.cell? ⟨s, 0, none⟩ = some (.pointer (some ⟨g, 0, none⟩)) := cell_of_row w s 0 _ _ _ h.row
  have HT := Lib.hid (take_any w s g A c bs hi p y h)
  obtain ⟨r, hr⟩ : ∃ r, Hid (r = numS bs p y) := ⟨_, Lib.hid rfl⟩
  rw [← hr.out] at HT ⊢
  clear h
  go_enter Try.func65, Try.ntmps65
  go_wp2_with fail
  (with_reducible refine HT.out.mono ?_); rintro e w1 ⟨rfl, h1, h2⟩
  have H1 := Lib.hid h1
  have H2 := Lib.hid h2
  clear h1 h2
  go_wp2
  go_ret
  exact ⟨rfl, H1.out, H2.out⟩
end Go.Proofs.Ytnlohijpcnoamaa
