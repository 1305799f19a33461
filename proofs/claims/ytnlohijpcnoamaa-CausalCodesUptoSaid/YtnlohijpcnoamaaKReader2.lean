/- The reader's other calls: Byte, End, At, Left, Over. -/
import Derived.Test.YtnlohijpcnoamaaKReader
namespace Go.Proofs.Ytnlohijpcnoamaa
open Go.RowKit
open Go.Lib (byteCells byteCells_length byteCells_append strCells strCells_eq)

/-- The byte at the beginning of bytes, how many it takes, the error's number. -/
def byteOf : List UInt8 → Nat × Nat × Int
  | [] => (0, 0, 2)
  | x :: _ => (x.toNat, 1, 0)
theorem byteOf_err {bs : List UInt8} (h : (byteOf bs).2.2 ≠ 0) : (byteOf bs).1 = 0 ∧ (byteOf bs).2.1 = 0 := by
  cases bs with
  | nil => exact ⟨rfl, rfl⟩
  | cons x bs => exact absurd rfl h
theorem byteOf_len {bs : List UInt8} {p : Nat} (h : p ≤ bs.length) : p + (byteOf (bs.drop p)).2.1 ≤ bs.length := by
  cases hh : bs.drop p with
  | nil => simpa [byteOf] using h
  | cons x l =>
    have := congrArg List.length hh
    simp at this
    simp [byteOf]; omega

theorem call_enter42 (args : Array Value) (u : World) : (callFunc 30 args).run Try.prog u = .ok (.enter 30 args) u := by kernel_rfl

set_option maxHeartbeats 800000 in
theorem byte_step (g bn : Nat) (A : Option Addr) (c : Nat) (bs : List UInt8) (p lo hi : Nat) (v0 : Value) (t : TypeId) (wx : World) (k : Nat) (hr : Rdr wx g A c bs p) (hrd : RdA wx lo hi A bs) (hg : hi ≤ g ∨ g < lo) (hne : bn ≠ g)
    (hv : wx.heap[bn]? = some (.cells #[v0] t (0, 0))) :
    Calls Try.prog 30 #[.pointer (some ⟨g, 1, none⟩), .pointer (some ⟨bn, 0, none⟩)] (wx.drewN k)
      (StepEnd (byteOf (bs.drop p)).2.2 (QSt (byteOf (bs.drop p)).2.2 g bn (.int .i64 ((byteOf (bs.drop p)).1 : Int)) (p + (byteOf (bs.drop p)).2.1) bs.length) wx) := by
  by_cases hend : p < bs.length
  · obtain ⟨x, hx⟩ : ∃ x, Hid (bs.drop p = x :: bs.drop (p + 1)) := ⟨bs[p], Lib.hid (List.drop_eq_getElem_cons hend)⟩
    obtain ⟨r, hrr⟩ : ∃ r, Hid (r = byteOf (bs.drop p)) := ⟨_, Lib.hid rfl⟩
    have hr1 : Hid (r = (x.toNat, 1, 0)) := Lib.hid (by rw [hrr.out, hx.out]; rfl)
    rw [← hrr.out]
    go_enter Try.func30, Try.ntmps30
    go_wp2_with fail
    refine (take_ok g 1 A c bs p 1 (wx.drewN k) (hr.cur.drewN k) (by omega)).mono ?_
    rintro e w1 ⟨A', rfl, hpc, hat1⟩
    have ha' := hat1.after
    have hrw : RdA w1 lo hi A bs := hrd.keep fun q h1 h2 => World.cell?_of_block (ha'.block (by omega))
    have hpr := hpc.rd (n := 1) hrw hr.cap
    rw [hx.out] at hpr
    obtain ⟨ad, rfl, hc1⟩ := hpr.at_ (k := 0) (by simp)
    have hc1' : w1.cell? ad = some (.int .u8 (x.toNat : Int)) := by
      have e : ad.add 0 = ad := by unfold Addr.add; simp
      rw [e] at hc1
      exact hc1
    have hb1 : w1.heap[bn]? = some (.cells #[v0] t (0, 0)) := (ha'.block hne).trans hv
    have hc := cell_of_one hb1
    have hf := free_of_one hb1
    have hxb := byte_lt x
    clear hpr hc1 hrw hb1 hat1
    go_wp2
    go_end0
    rw [hr1.out]
    exact ⟨.inl ⟨rfl, rfl⟩, .inl ⟨rfl, w1, ha', rfl⟩⟩
  · have e0 : byteOf (bs.drop p) = (0, 0, 2) := by rw [List.drop_of_length_le (by omega)]; rfl
    rw [e0]
    go_enter Try.func30, Try.ntmps30
    go_wp2_with fail
    refine (take_short g 1 A c bs p 1 (wx.drewN k) (hr.cur.drewN k) (by omega)).mono ?_
    rintro e w1 ⟨rfl, j, rfl⟩
    go_wp2
    exact ⟨rfl, .inr ⟨by decide, rfl⟩, .inr ⟨by decide, p, hr.le, AtIs.none_ (w := wx) (hr.cell 2) _⟩⟩

set_option maxHeartbeats 800000 in
theorem byte_made (g : Nat) (A : Option Addr) (c : Nat) (bs : List UInt8) (p lo hi : Nat) (w : World) (hr : Rdr w g A c bs p) (hrd : RdA w lo hi A bs) (hhi : hi ≤ w.heap.size) (hg : hi ≤ g ∨ g < lo) :
    Calls Try.prog 11 #[.pointer (some ⟨g, 0, none⟩)] w
      (Reads (.int .i64 ((byteOf (bs.drop p)).1 : Int)) (byteOf (bs.drop p)).2.2 (p + (byteOf (bs.drop p)).2.1) g A c bs w) := by
  have hmf : ∀ (fn : Fn) (first cap : Array Value) (w : World), (Instr.makeFunc fn first cap).run Try.prog w = .ok (.func fn first cap) w := fun _ _ _ _ => rfl
  obtain ⟨r, hrr⟩ : ∃ r, Hid (r = byteOf (bs.drop p)) := ⟨_, Lib.hid rfl⟩
  have hlt := hr.lt
  have hpl := byteOf_len hr.le
  have herr := @byteOf_err (bs.drop p)
  have HS := Lib.hid (fun wx k (hb : Below (w.alloc (.cells #[.int .i64 0] 3)).heap.size (w.alloc (.cells #[.int .i64 0] 3)) wx) =>
    byte_step g w.heap.size A c bs p lo hi (.int .i64 0) 3 wx k ((hr.keep (Below.heap_alloc w _ g hlt)).keep (hb.block g (by simp; omega))) ((hrd.keep fun q h1 h2 => World.cell?_alloc_lt w _ q (by omega)).keep fun q h1 h2 => hb.cell (by simp; omega)) hg (by omega)
      ((hb.block _ (by simp)).trans (heap_alloc_new w _)))
  rw [← hrr.out] at HS hpl herr ⊢
  have hrW : Rdr (w.alloc (.cells #[.int .i64 0] 3)) g A c bs p := hr.keep (Below.heap_alloc w _ g hlt)
  have HH := Lib.hid (read_made 30 #[.pointer (some ⟨w.heap.size, 0, none⟩)] g A c bs p r.2.2 (QSt r.2.2 g w.heap.size (.int .i64 (r.1 : Int)) (p + r.2.1) bs.length) _ hrW call_enter42
    (QSt.asked hrW hpl (by omega) (by simp)) (fun wx k hb => HS.out wx k hb))
  have HE := Lib.hid herr
  clear herr HS
  go_enter Try.func11, Try.ntmps11
  go_wp2_with fail
  refine HH.out.mono ?_
  rintro e w1 hp
  obtain ⟨c1, c2, c3⟩ := reader_close hr hpl ((Below.refl _ w).alloc (Nat.le_refl _) _) (Nat.le_refl _) (by simp) (heap_alloc_new w _) hp
  obtain rfl := hp.ending
  clear hp
  by_cases h0 : r.2.2 = 0
  · rw [if_pos h0] at c1 c3
    have hc := cell_of_one c3
    have H0 := Lib.hid h0
    clear h0 c3
    go_wp2
    go_ret2
    exact ⟨rfl, c1, c2⟩
  · rw [if_neg h0] at c1 c3
    have hc := cell_of_one c3
    have H0 := Lib.hid (HE.out h0)
    clear c3
    go_wp2
    go_ret2
    exact ⟨by rw [H0.out.1]; rfl, by rw [H0.out.2]; exact c1, c2⟩

set_option maxHeartbeats 400000 in
theorem at_made (g : Nat) (A : Option Addr) (c : Nat) (bs : List UInt8) (p : Nat) (w : World) (hr : Rdr w g A c bs p) :
    Calls Try.prog 16 #[.pointer (some ⟨g, 0, none⟩)] w fun e w' => e = .returned (.int .i64 (p : Int)) ∧ ∃ n, w' = w.drewN n := by
  have c2 : w.cell? ⟨g, 2, none⟩ = some (.int .i64 (p : Int)) := hr.cell 2
  go_enter Try.func16, Try.ntmps16
  go_wp2
  go_ret
  exact ⟨rfl, 0, rfl⟩

set_option maxHeartbeats 400000 in
theorem left_made (g : Nat) (A : Option Addr) (c : Nat) (bs : List UInt8) (p : Nat) (w : World) (hr : Rdr w g A c bs p) :
    Calls Try.prog 19 #[.pointer (some ⟨g, 0, none⟩)] w fun e w' => e = .returned (.int .i64 ((bs.length : Int) - (p : Int))) ∧ ∃ n, w' = w.drewN n := by
  go_enter Try.func19, Try.ntmps19
  go_wp2_with fail
  refine (left_any g 1 A c bs p w hr.cur).mono ?_
  rintro e w1 ⟨rfl, j, rfl⟩
  go_wp2
  go_ret
  exact ⟨rfl, _, rfl⟩

/-- A reader of its own, over a copy of these bytes. -/
def OverPost (bs : List UInt8) (w : World) (e : Ending) (w' : World) : Prop :=
  ∃ g A c, e = .returned (.pointer (some ⟨g, 0, none⟩)) ∧ w.heap.size ≤ g ∧ Rdr w' g A c bs 0 ∧ RdA w' w.heap.size g A bs ∧ Below w.heap.size w w'

set_option maxHeartbeats 400000 in
theorem over_any (v : Value) (bs : List UInt8) (w : World) (h : Rd w 0 w.heap.size v bs) (hl : bs.length ≤ 1099511627776) :
    Calls Try.prog 10 #[v] w (OverPost bs w) := by
  go_enter Try.func10, Try.ntmps10
  go_wp2_with fail
  refine (copied_any v bs 0 w h hl (by omega) (by omega)).mono ?_
  rintro e w1 ⟨v1, rfl, hown1, hb1⟩
  obtain ⟨A, c, rfl, hc, hx⟩ := hown1.rd
  go_wp2
  go_ret
  exact ⟨_, A, c, rfl, hb1.size, ⟨heap_alloc_new w1 _, Nat.zero_le _, hc, hl⟩, hx.keep fun q _ h2 => World.cell?_alloc_lt w1 _ q h2, hb1.alloc hb1.size _⟩
end Go.Proofs.Ytnlohijpcnoamaa
