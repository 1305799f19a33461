/- (*Reader).read: of a reader that no call made, and of one that Over made, for whichever step. -/
import Derived.Test.YtnlohijpcnoamaaKAttempt
import Derived.Laws.EntriesVeiled
import Derived.StillTailTactics
namespace Go.Proofs.Ytnlohijpcnoamaa
open Go.RowKit
open Go.Lib (byteCells byteCells_length byteCells_append strCells strCells_eq)

set_option maxHeartbeats 800000 in
theorem read_nil (fv : Fn) (cap : Array Value) (w : World) :
    Calls Try.prog 29 #[.pointer none, .func fv #[] cap] w fun e w' => e = .returned (.int .i64 8) ∧ Below w.heap.size w w' := by
  go_enter Try.func29, Try.ntmps29
  go_wp2
  go_ret
  refine ⟨rfl, ?_⟩
  go_grown

set_option maxHeartbeats 800000 in
theorem read_unmade (fv : Fn) (cap : Array Value) (g : Nat) (w : World) (hc : w.cell? ⟨g, 0, none⟩ = some (.bool false)) :
    Calls Try.prog 29 #[.pointer (some ⟨g, 0, none⟩), .func fv #[] cap] w fun e w' => e = .returned (.int .i64 8) ∧ Below w.heap.size w w' := by
  have hlt := World.block_lt_of_cell? w _ hc
  go_enter Try.func29, Try.ntmps29
  go_wp2
  go_ret
  refine ⟨rfl, ?_⟩
  go_grown

/-- What a step comes to. -/
def StepEnd (x : Int) (Q : World → World → Prop) (w : World) (e : Ending) (w' : World) : Prop := ((x = 0 ∧ e = .returned (.tuple #[])) ∨ (x ≠ 0 ∧ Gave x e)) ∧ Q w w'

set_option maxRecDepth 100000 in
set_option maxHeartbeats 800000 in
theorem read_step (f : Nat) (cap : Array Value) (g b1 b2 : Nat) (x : Int) (Q : World → World → Prop) (w : World) (hf : ∀ (args : Array Value) (u : World), (callFunc f args).run Try.prog u = .ok (.enter f args) u)
    (h1 : w.cell? ⟨b1, 0, none⟩ = some (.func (.func f) #[] cap)) (h2 : w.cell? ⟨b2, 0, none⟩ = some (.pointer (some ⟨g, 0, none⟩)))
    (h : ∀ k, Calls Try.prog f (#[.pointer (some ⟨g, 1, none⟩)] ++ cap) (w.drewN k) (StepEnd x Q w)) :
    Calls Try.prog 49 #[.pointer (some ⟨b1, 0, none⟩), .pointer (some ⟨b2, 0, none⟩)] w (StepEnd x Q w) := by
  have H := Lib.hid h
  clear h
  go_enter Try.func49, Try.ntmps49
  go_wp2
  go_still_tail 4, (by kernel_rfl)
  go_wp2_with fail
  refine Calls.mono (H.out 1) ?_
  rintro e w' ⟨⟨hx, rfl⟩ | ⟨hx, rfl⟩, hq⟩
  · go_wp2
    go_end0
    exact ⟨.inl ⟨hx, rfl⟩, hq⟩
  · go_wp2
    exact ⟨rfl, .inr ⟨hx, rfl⟩, hq⟩

/-- A reader that Over made lies in block g: over these bytes, p of them read. -/
structure Rdr (w : World) (g : Nat) (A : Option Addr) (c : Nat) (bs : List UInt8) (p : Nat) : Prop where
  block : w.heap[g]? = some (.cells #[.bool true, .slice A bs.length c, .int .i64 (p : Int)] 63 (0, 0))
  le : p ≤ bs.length
  cap : bs.length ≤ c
  small : bs.length ≤ 1099511627776

theorem Rdr.cell {w : World} {g : Nat} {A : Option Addr} {c : Nat} {bs : List UInt8} {p : Nat} (h : Rdr w g A c bs p) (i : Nat) : w.cell? ⟨g, i, none⟩ = (#[Value.bool true, .slice A bs.length c, .int .i64 (p : Int)] : Array Value)[i]? := cell_of_row w g i _ _ (0, 0) h.block
theorem Rdr.frozen {w : World} {g : Nat} {A : Option Addr} {c : Nat} {bs : List UInt8} {p : Nat} (h : Rdr w g A c bs p) (i : Nat) : w.frozen? ⟨g, i, none⟩ = false := frozen_of_row w g i _ _ h.block
theorem Rdr.cur {w : World} {g : Nat} {A : Option Addr} {c : Nat} {bs : List UInt8} {p : Nat} (h : Rdr w g A c bs p) : Cur w g 1 A c bs p :=
  ⟨h.cell 1, h.cell 2, h.frozen 1, h.frozen 2, h.le, h.cap, h.small⟩
theorem Rdr.lt {w : World} {g : Nat} {A : Option Addr} {c : Nat} {bs : List UInt8} {p : Nat} (h : Rdr w g A c bs p) : g < w.heap.size := by
  rcases Nat.lt_or_ge g w.heap.size with h1 | h1
  · exact h1
  · have := h.block; rw [Array.getElem?_eq_none h1] at this; cases this
theorem Rdr.keep {w w' : World} {g : Nat} {A : Option Addr} {c : Nat} {bs : List UInt8} {p : Nat} (h : Rdr w g A c bs p) (hk : w'.heap[g]? = w.heap[g]?) : Rdr w' g A c bs p := ⟨hk.trans h.block, h.le, h.cap, h.small⟩
theorem Rdr.set_ {w : World} {g : Nat} {A : Option Addr} {c : Nat} {bs : List UInt8} {p : Nat} (h : Rdr w g A c bs p) {q : Nat} (hq : q ≤ bs.length) : Rdr (w.setCell ⟨g, 2, none⟩ (.int .i64 (q : Int))) g A c bs q :=
  ⟨by rw [heap_setCell_same w g 2 _ _ _ h.block]; simp, hq, h.cap, h.small⟩
theorem Rdr.moved {w w' : World} {g : Nat} {A : Option Addr} {c : Nat} {bs : List UInt8} {p q : Nat} (h : Rdr w g A c bs p) (h' : AtIs w w' g 2 (q : Int)) (hq : q ≤ bs.length) : Rdr w' g A c bs q := by
  obtain ⟨k, rfl⟩ := h'
  exact (h.set_ hq).keep rfl

/-- What read comes to: the error's number; what the step did stays, but the reader's place where it failed. -/
structure ReadPost (x : Int) (Q : World → World → Prop) (g : Nat) (w : World) (e : Ending) (w' : World) : Prop where
  ending : e = .returned (.int .i64 x)
  worlds : ∃ wx w1, Below w.heap.size w wx ∧ Q wx w1 ∧ w'.os = w1.os ∧ w'.tape = w1.tape ∧ w'.output = w1.output ∧ w1.heap.size ≤ w'.heap.size ∧ (∀ b, b < w.heap.size → b ≠ g → w'.heap[b]? = w1.heap[b]?) ∧
    (x = 0 → w'.heap[g]? = w1.heap[g]?) ∧ (x ≠ 0 → w'.heap[g]? = w.heap[g]?)

set_option maxHeartbeats 1600000 in
theorem read_made (f : Nat) (cap : Array Value) (g : Nat) (A : Option Addr) (c : Nat) (bs : List UInt8) (p : Nat) (x : Int) (Q : World → World → Prop) (w : World) (hr : Rdr w g A c bs p)
    (hf : ∀ (args : Array Value) (u : World), (callFunc f args).run Try.prog u = .ok (.enter f args) u)
    (hQ : ∀ wx w1, Below w.heap.size w wx → Q wx w1 → (∀ b, w.heap.size ≤ b → b < wx.heap.size → w1.heap[b]? = wx.heap[b]?) ∧ wx.heap.size ≤ w1.heap.size ∧ ∃ q : Nat, Rdr w1 g A c bs q)
    (h : ∀ wx k, Below w.heap.size w wx → Calls Try.prog f (#[.pointer (some ⟨g, 1, none⟩)] ++ cap) (wx.drewN k) (StepEnd x Q wx)) :
    Calls Try.prog 29 #[.pointer (some ⟨g, 0, none⟩), .func (.func f) #[] cap] w (ReadPost x Q g w) := by
  have hmf : ∀ (fn : Fn) (first cap : Array Value) (w : World), (Instr.makeFunc fn first cap).run Try.prog w = .ok (.func fn first cap) w := fun _ _ _ _ => rfl
  have hlt := hr.lt
  have c0 : w.cell? ⟨g, 0, none⟩ = some (.bool true) := hr.cell 0
  have c2 : w.cell? ⟨g, 2, none⟩ = some (.int .i64 (p : Int)) := hr.cell 2
  obtain ⟨W2, hW2⟩ : ∃ W2, Hid (W2 = (w.alloc (.cells #[.pointer (some ⟨g, 0, none⟩)] 33)).alloc (.cells #[.func (.func f) #[] cap] 67)) := ⟨_, Lib.hid rfl⟩
  obtain ⟨W3, hW3⟩ : ∃ W3, Hid (W3 = W2.alloc (.cells #[.int .i64 0] 28)) := ⟨_, Lib.hid rfl⟩
  have s2 : W2.heap.size = w.heap.size + 2 := by rw [hW2.out]; simp
  have s3 : W3.heap.size = w.heap.size + 3 := by rw [hW3.out]; simp; omega
  have b3 : Below w.heap.size w W3 := by
    rw [hW3.out, hW2.out]
    exact (((Below.refl _ _).alloc (Nat.le_refl _) _).alloc (by simp) _).alloc (by simp; omega) _
  have k1 : W3.heap[w.heap.size]? = some (.cells #[.pointer (some ⟨g, 0, none⟩)] 33 (0, 0)) := by
    rw [hW3.out, Below.heap_alloc _ _ _ (by omega), hW2.out, Below.heap_alloc _ _ _ (by simp)]
    exact heap_alloc_new w _
  have k2 : W3.heap[w.heap.size + 1]? = some (.cells #[.func (.func f) #[] cap] 67 (0, 0)) := by
    rw [hW3.out, Below.heap_alloc _ _ _ (by omega), hW2.out]
    have := heap_alloc_new (w.alloc (.cells #[.pointer (some ⟨g, 0, none⟩)] 33)) (.cells #[.func (.func f) #[] cap] 67)
    simpa using this
  have k3 : W3.heap[w.heap.size + 2]? = some (.cells #[.int .i64 0] 28 (0, 0)) := by
    rw [hW3.out, ← s2]
    exact heap_alloc_new W2 _
  have hatt := attempt_any 49 #[.pointer (some ⟨w.heap.size + 1, 0, none⟩), .pointer (some ⟨w.heap.size, 0, none⟩)] x Q W2 (fun u => by kernel_rfl)
    (fun w1 hq => by
      rw [← hW3.out] at hq
      rw [s2, (hQ W3 w1 b3 hq).1 _ (by omega) (by omega)]
      exact k3)
    (by
      rw [← hW3.out]
      exact read_step f cap g (w.heap.size + 1) w.heap.size x Q W3 hf (cell_of_one k2) (cell_of_one k1) (fun k => h W3 k b3))
  have H := Lib.hid hatt
  have HQ := Lib.hid hQ
  have HR := Lib.hid hr
  have K1 := Lib.hid k1
  have S2 := Lib.hid s2
  have S3 := Lib.hid s3
  clear hatt h hQ k1 k2 k3 s2 s3
  go_enter Try.func29, Try.ntmps29
  go_wp2_with fail
  have e2 := hW2.out.symm
  rw [e2]
  clear e2
  refine Calls.mono H.out ?_
  rintro e w4 ⟨rfl, w1, hq, rfl⟩
  rw [← hW3.out] at hq
  have q1 := (HQ.out W3 w1 b3 hq).1
  have q2 := (HQ.out W3 w1 b3 hq).2.1
  obtain ⟨q, q3⟩ := (HQ.out W3 w1 b3 hq).2.2
  have s2 := S2.out
  have s3 := S3.out
  have hg3 : g ≠ W2.heap.size := by omega
  have q4 : Rdr (w1.setCell ⟨W2.heap.size, 0, none⟩ (.int .i64 x)) g A c bs q := q3.keep (Below.heap_setCell _ _ _ _ hg3)
  obtain ⟨w4, hw4⟩ : ∃ w4, Hid (w4 = w1.setCell ⟨W2.heap.size, 0, none⟩ (.int .i64 x)) := ⟨_, Lib.hid rfl⟩
  have t1 : w4.os = w1.os ∧ w4.tape = w1.tape ∧ w4.output = w1.output ∧ w4.heap.size = w1.heap.size ∧ ∀ b, b ≠ W2.heap.size → w4.heap[b]? = w1.heap[b]? := by
    rw [hw4.out]
    exact ⟨rfl, rfl, rfl, by simp [World.setCell], fun b hb => Below.heap_setCell _ _ _ _ hb⟩
  rw [← hw4.out] at q4 ⊢
  have T1 := Lib.hid t1
  have Q1 := Lib.hid q1
  have Q4 := Lib.hid q4
  clear t1 q1 q3 q4 H HQ
  by_cases hx : x = 0
  · have hx1 : (x != 0) = false := by simp [hx]
    have HX := Lib.hid hx
    clear hx
    go_wp2
    go_ret
    exact ⟨rfl, W3, w1, b3, hq, T1.out.1, T1.out.2.1, T1.out.2.2.1, by rw [T1.out.2.2.2.1]; exact Nat.le_refl _, fun b hb _ => T1.out.2.2.2.2 b (by omega), fun _ => T1.out.2.2.2.2 g hg3, fun h0 => absurd HX.out h0⟩
  · have hx1 : (x != 0) = true := by simp [hx]
    have r0 : w4.cell? ⟨w.heap.size, 0, none⟩ = some (.pointer (some ⟨g, 0, none⟩)) := cell_of_one (by rw [T1.out.2.2.2.2 _ (by omega), Q1.out _ (Nat.le_refl _) (by omega)]; exact K1.out)
    have r1 : w4.cell? ⟨g, 2, none⟩ = some (.int .i64 (q : Int)) := Q4.out.cell 2
    have r2 : w4.frozen? ⟨g, 2, none⟩ = false := Q4.out.frozen 2
    go_wp2
    go_ret
    refine ⟨rfl, W3, w1, b3, hq, T1.out.1, T1.out.2.1, T1.out.2.2.1, by simp [World.setCell, T1.out.2.2.2.1], fun b hb hbg => (Below.heap_setCell _ _ _ _ (by exact hbg)).trans (T1.out.2.2.2.2 b (by omega)), fun h0 => absurd h0 hx, fun _ => ?_⟩
    rw [(Q4.out.set_ HR.out.le).block, HR.out.block]
end Go.Proofs.Ytnlohijpcnoamaa
