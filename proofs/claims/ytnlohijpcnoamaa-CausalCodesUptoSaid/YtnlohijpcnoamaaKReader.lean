/- The reader's calls: Over, Uint, Byte, Text, End, At, Left, of a reader that Over made. -/
import Derived.Test.YtnlohijpcnoamaaKRead
namespace Go.Proofs.Ytnlohijpcnoamaa
open Go.RowKit
open Go.Lib (byteCells byteCells_length byteCells_append strCells strCells_eq)

/-- What a step of Uint, Byte, Text does: it moves the cursor and lays its result; or it leaves the cursor anywhere. -/
def QSt (x : Int) (g bn : Nat) (v : Value) (p' len : Nat) (wx w1 : World) : Prop :=
  (x = 0 ∧ ∃ wa, AtIs wx wa g 2 (p' : Int) ∧ w1 = wa.setCell ⟨bn, 0, none⟩ v) ∨ (x ≠ 0 ∧ ∃ q : Nat, q ≤ len ∧ AtIs wx w1 g 2 (q : Int))

theorem QSt.block {x : Int} {g bn : Nat} {v : Value} {p' len : Nat} {wx w1 : World} (h : QSt x g bn v p' len wx w1) {b : Nat} (h1 : b ≠ g) (h2 : b ≠ bn) : w1.heap[b]? = wx.heap[b]? := by
  rcases h with ⟨_, wa, ha, rfl⟩ | ⟨_, q, _, ha⟩
  · exact (Below.heap_setCell _ _ _ _ h2).trans (ha.block h1)
  · exact ha.block h1
theorem QSt.rest {x : Int} {g bn : Nat} {v : Value} {p' len : Nat} {wx w1 : World} (h : QSt x g bn v p' len wx w1) : w1.os = wx.os ∧ w1.tape = wx.tape ∧ w1.output = wx.output ∧ w1.heap.size = wx.heap.size := by
  rcases h with ⟨_, wa, ⟨k, rfl⟩, rfl⟩ | ⟨_, q, _, ⟨k, rfl⟩⟩
  · exact ⟨rfl, rfl, rfl, by simp [World.setCell, World.drewN]⟩
  · exact ⟨rfl, rfl, rfl, by simp [World.setCell, World.drewN]⟩
theorem QSt.rdr {x : Int} {g bn : Nat} {v : Value} {p p' : Nat} {wx w1 : World} {A : Option Addr} {c : Nat} {bs : List UInt8} (h : QSt x g bn v p' bs.length wx w1) (hr : Rdr wx g A c bs p) (hp : p' ≤ bs.length) (hne : g ≠ bn) :
    ∃ q : Nat, Rdr w1 g A c bs q ∧ (x = 0 → q = p') := by
  rcases h with ⟨h0, wa, ha, rfl⟩ | ⟨h0, q, hq, ha⟩
  · exact ⟨p', (hr.moved ha hp).keep (Below.heap_setCell _ _ _ _ hne), fun _ => rfl⟩
  · exact ⟨q, hr.moved ha hq, fun h1 => absurd h1 h0⟩

/-- What read asks of such a step. -/
theorem QSt.asked {x : Int} {g bn : Nat} {v : Value} {p p' : Nat} {A : Option Addr} {c : Nat} {bs : List UInt8} {W : World} (hr : Rdr W g A c bs p) (hp : p' ≤ bs.length) (hne : g ≠ bn) (hbn : bn < W.heap.size) :
    ∀ wx w1, Below W.heap.size W wx → QSt x g bn v p' bs.length wx w1 → (∀ b, W.heap.size ≤ b → b < wx.heap.size → w1.heap[b]? = wx.heap[b]?) ∧ wx.heap.size ≤ w1.heap.size ∧ ∃ q : Nat, Rdr w1 g A c bs q := by
  intro wx w1 hb hq
  have hlt := hr.lt
  refine ⟨fun b h1 _ => hq.block (by omega) (by omega), Nat.le_of_eq hq.rest.2.2.2.symm, ?_⟩
  obtain ⟨q, h, _⟩ := hq.rdr (hr.keep (hb.block g hlt)) hp hne
  exact ⟨q, h⟩

/-- The reader behind such a call; the result's variable; nothing else that was there has turned. -/
theorem reader_close {x : Int} {g bn : Nat} {v v0 : Value} {t : TypeId} {p p' : Nat} {A : Option Addr} {c : Nat} {bs : List UInt8} {w W w' : World} {e : Ending} (hr : Rdr w g A c bs p) (hp : p' ≤ bs.length) (hW : Below w.heap.size w W) (hbn : w.heap.size ≤ bn) (hbn2 : bn < W.heap.size)
    (hv : W.heap[bn]? = some (.cells #[v0] t (0, 0))) (h : ReadPost x (QSt x g bn v p' bs.length) g W e w') :
    Rdr w' g A c bs (if x = 0 then p' else p) ∧ w.grownBy w' (some g) ∧ w'.heap[bn]? = some (.cells #[if x = 0 then v else v0] t (0, 0)) := by
  obtain ⟨wx, w1, hb, hq, o1, o2, o3, o4, hk, h0, h1⟩ := h.worlds
  have hlt := hr.lt
  have hne : g ≠ bn := by omega
  have hrW : Rdr W g A c bs p := hr.keep (hW.block g hlt)
  have hrx : Rdr wx g A c bs p := hrW.keep (hb.block g hrW.lt)
  have hs := hb.size
  have hsW := hW.size
  obtain ⟨r1, r2, r3, r4⟩ := hq.rest
  refine ⟨?_, ⟨?_, ?_, ?_, ?_, ?_⟩, ?_⟩
  · by_cases hx : x = 0
    · rw [if_pos hx]
      obtain ⟨q, h2, h3⟩ := hq.rdr hrx hp hne
      rw [← h3 hx]
      exact h2.keep (h0 hx)
    · rw [if_neg hx]
      exact hrW.keep (h1 hx)
  · exact o1.trans (r1.trans (hb.os.trans hW.os))
  · exact o2.trans (r2.trans (hb.tape.trans hW.tape))
  · exact o3.trans (r3.trans (hb.output.trans hW.output))
  · omega
  · intro k hk1 hk2
    have hkg : k ≠ g := fun e => hk2 (by rw [e])
    exact (hk k (by omega) hkg).trans ((hq.block hkg (by omega)).trans ((hb.block k (by omega)).trans (hW.block k hk1)))
  · rw [hk bn hbn2 hne.symm]
    rcases hq with ⟨hx, wa, ha, rfl⟩ | ⟨hx, q, _, ha⟩
    · rw [if_pos hx]
      have : wa.heap[bn]? = some (.cells #[v0] t (0, 0)) := (ha.block hne.symm).trans ((hb.block bn hbn2).trans hv)
      rw [heap_setCell_same wa bn 0 _ _ _ this]
      simp
    · rw [if_neg hx]
      exact (ha.block hne.symm).trans ((hb.block bn hbn2).trans hv)

theorem uintR_err (r : Nat) : ∀ (i n : Nat) (bs : List UInt8), (uintR r i n bs).2.2 ≠ 0 → (uintR r i n bs).1 = 0 ∧ (uintR r i n bs).2.1 = 0 := by
  induction r with
  | zero => intro i n bs _; exact ⟨rfl, rfl⟩
  | succ r ih =>
    intro i n bs
    cases bs with
    | nil => intro _; exact ⟨rfl, rfl⟩
    | cons x bs =>
      simp only [uintR]
      split
      · intro _; exact ⟨rfl, rfl⟩
      · split
        · intro h; exact absurd rfl h
        · exact ih _ _ _
theorem uint_err {bs : List UInt8} (h : (uint bs).2.2 ≠ 0) : (uint bs).1 = 0 ∧ (uint bs).2.1 = 0 := uintR_err _ _ _ _ h
theorem uintR_len (r : Nat) : ∀ (i n : Nat) (bs : List UInt8), (uintR r i n bs).2.1 ≤ i + bs.length := by
  induction r with
  | zero => intro i n bs; exact Nat.zero_le _
  | succ r ih =>
    intro i n bs
    cases bs with
    | nil => exact Nat.zero_le _
    | cons x bs =>
      simp only [uintR]
      split
      · exact Nat.zero_le _
      · split
        · simp
        · have := ih (i + 1) (n + x.toNat % 128 * 128 ^ i) bs
          simp only [List.length_cons]; omega
theorem uint_len (bs : List UInt8) : (uint bs).2.1 ≤ bs.length := by have := uintR_len 9 0 0 bs; simpa [uint] using this
theorem uint_drop_len {bs : List UInt8} {p : Nat} (h : p ≤ bs.length) : p + (uint (bs.drop p)).2.1 ≤ bs.length := by
  have := uint_len (bs.drop p); rw [List.length_drop] at this; omega

theorem call_enter40 (args : Array Value) (u : World) : (callFunc 75 args).run Try.prog u = .ok (.enter 75 args) u := by kernel_rfl

set_option maxHeartbeats 800000 in
theorem uint_step (g bn : Nat) (A : Option Addr) (c : Nat) (bs : List UInt8) (p lo hi : Nat) (v0 : Value) (t : TypeId) (wx : World) (k : Nat) (hr : Rdr wx g A c bs p) (hrd : RdA wx lo hi A bs) (hg : hi ≤ g ∨ g < lo) (hne : bn ≠ g)
    (hv : wx.heap[bn]? = some (.cells #[v0] t (0, 0))) :
    Calls Try.prog 75 #[.pointer (some ⟨g, 1, none⟩), .pointer (some ⟨bn, 0, none⟩)] (wx.drewN k)
      (StepEnd (uint (bs.drop p)).2.2 (QSt (uint (bs.drop p)).2.2 g bn (.int .i64 ((uint (bs.drop p)).1 : Int)) (p + (uint (bs.drop p)).2.1) bs.length) wx) := by
  obtain ⟨r, hrr⟩ : ∃ r, Hid (r = uint (bs.drop p)) := ⟨_, Lib.hid rfl⟩
  have hn := number_any g 1 A c bs p lo hi (wx.drewN k) (hr.cur.drewN k) (hrd.keep fun _ _ _ => rfl) hg
  rw [← hrr.out] at hn ⊢
  have HN := Lib.hid hn
  clear hn
  go_enter Try.func75, Try.ntmps75
  go_wp2_with fail
  refine HN.out.mono ?_
  rintro e w1 (⟨h0, rfl, ha⟩ | ⟨h0, rfl, q, hq, ha⟩)
  · have ha' := ha.after
    have hb1 : w1.heap[bn]? = some (.cells #[v0] t (0, 0)) := (ha'.block hne).trans hv
    have hc := cell_of_one hb1
    have hf := free_of_one hb1
    have H0 := Lib.hid h0
    clear h0 hb1 ha
    go_wp2
    go_end0
    exact ⟨.inl ⟨H0.out, rfl⟩, .inl ⟨H0.out, w1, ha', rfl⟩⟩
  · go_wp2
    exact ⟨rfl, .inr ⟨h0, rfl⟩, .inr ⟨h0, q, hq, ha.after⟩⟩

/-- What a reader's call comes to: two results, and how far the reader has gone. -/
structure Reads (v : Value) (x : Int) (p' g : Nat) (A : Option Addr) (c : Nat) (bs : List UInt8) (w : World) (e : Ending) (w' : World) : Prop where
  ending : e = .returned (.tuple #[v, .int .i64 x])
  rdr : Rdr w' g A c bs p'
  grown : w.grownBy w' (some g)

set_option maxHeartbeats 800000 in
theorem uint_made (g : Nat) (A : Option Addr) (c : Nat) (bs : List UInt8) (p lo hi : Nat) (w : World) (hr : Rdr w g A c bs p) (hrd : RdA w lo hi A bs) (hhi : hi ≤ w.heap.size) (hg : hi ≤ g ∨ g < lo) :
    Calls Try.prog 72 #[.pointer (some ⟨g, 0, none⟩)] w
      (Reads (.int .i64 ((uint (bs.drop p)).1 : Int)) (uint (bs.drop p)).2.2 (p + (uint (bs.drop p)).2.1) g A c bs w) := by
  have hmf : ∀ (fn : Fn) (first cap : Array Value) (w : World), (Instr.makeFunc fn first cap).run Try.prog w = .ok (.func fn first cap) w := fun _ _ _ _ => rfl
  obtain ⟨r, hrr⟩ : ∃ r, Hid (r = uint (bs.drop p)) := ⟨_, Lib.hid rfl⟩
  have hlt := hr.lt
  have hpl := uint_drop_len hr.le
  have herr := @uint_err (bs.drop p)
  have HS := Lib.hid (fun wx k (hb : Below (w.alloc (.cells #[.int .i64 0] 3)).heap.size (w.alloc (.cells #[.int .i64 0] 3)) wx) =>
    uint_step g w.heap.size A c bs p lo hi (.int .i64 0) 3 wx k ((hr.keep (Below.heap_alloc w _ g hlt)).keep (hb.block g (by simp; omega))) ((hrd.keep fun q h1 h2 => World.cell?_alloc_lt w _ q (by omega)).keep fun q h1 h2 => hb.cell (by simp; omega)) hg (by omega)
      ((hb.block _ (by simp)).trans (heap_alloc_new w _)))
  rw [← hrr.out] at HS hpl herr ⊢
  have hrW : Rdr (w.alloc (.cells #[.int .i64 0] 3)) g A c bs p := hr.keep (Below.heap_alloc w _ g hlt)
  have HH := Lib.hid (read_made 75 #[.pointer (some ⟨w.heap.size, 0, none⟩)] g A c bs p r.2.2 (QSt r.2.2 g w.heap.size (.int .i64 (r.1 : Int)) (p + r.2.1) bs.length) _ hrW call_enter40
    (QSt.asked hrW hpl (by omega) (by simp)) (fun wx k hb => HS.out wx k hb))
  have HE := Lib.hid herr
  clear herr HS
  go_enter Try.func72, Try.ntmps72
  go_wp2_with fail
  refine HH.out.mono ?_
  rintro e w1 hp
  obtain ⟨c1, c2, c3⟩ := reader_close hr hpl ((Below.refl _ w).alloc (Nat.le_refl _) _) (Nat.le_refl _) (by simp) (heap_alloc_new w _) hp
  obtain rfl := hp.ending
  clear hp
  by_cases h0 : r.2.2 = 0
  · rw [if_pos h0] at c1 c3
    have hc := cell_of_one c3
    have H0 := Lib.hid h0
    clear h0 c3
    go_wp2
    go_ret2
    exact ⟨rfl, c1, c2⟩
  · rw [if_neg h0] at c1 c3
    have hc := cell_of_one c3
    have H0 := Lib.hid (HE.out h0)
    clear c3
    go_wp2
    go_ret2
    exact ⟨by rw [H0.out.1]; rfl, by rw [H0.out.2]; exact c1, c2⟩
end Go.Proofs.Ytnlohijpcnoamaa
