/- A text read by the reader. -/
import Derived.Test.YtnehchlfoidmdaaReader2
import Derived.Test.YtnehchlfoidmdaaFrame
namespace Go.Proofs.Ytnehchlfoidmdaa
open Go.RowKit
open Go.Lib (byteCells byteCells_length byteCells_append strCells strCells_eq)

/-- The text of at most so many bytes at the beginning of bytes, how many bytes it takes, the error's number. -/
def textOf (most : Nat) (bs : List UInt8) : List UInt8 × Nat × Int :=
  if (uint bs).2.2 ≠ 0 then ([], 0, (uint bs).2.2)
  else if most < (uint bs).1 then ([], 0, 4)
  else if bs.length < (uint bs).2.1 + (uint bs).1 then ([], 0, 2)
  else ((bs.drop (uint bs).2.1).take (uint bs).1, (uint bs).2.1 + (uint bs).1, 0)

theorem textOf_err {most : Nat} {bs : List UInt8} (h : (textOf most bs).2.2 ≠ 0) : (textOf most bs).1 = [] ∧ (textOf most bs).2.1 = 0 := by
  revert h
  unfold textOf
  split
  · intro _; exact ⟨rfl, rfl⟩
  · split
    · intro _; exact ⟨rfl, rfl⟩
    · split
      · intro _; exact ⟨rfl, rfl⟩
      · intro h; exact absurd rfl h
theorem textOf_len (most : Nat) (bs : List UInt8) : (textOf most bs).2.1 ≤ bs.length := by
  unfold textOf
  split
  · exact Nat.zero_le _
  · split
    · exact Nat.zero_le _
    · split
      · exact Nat.zero_le _
      · simp only []; omega
theorem textOf_drop {most : Nat} {bs : List UInt8} {p : Nat} (h : p ≤ bs.length) : p + (textOf most (bs.drop p)).2.1 ≤ bs.length := by
  have := textOf_len most (bs.drop p); rw [List.length_drop] at this; omega

def TextPost (t : List UInt8 × Nat × Int) (g o p len : Nat) (w : World) (e : Ending) (w' : World) : Prop :=
  (t.2.2 = 0 ∧ e = .returned (.string ⟨t.1.toArray⟩) ∧ AtIs w w' g (o + 1) ((p + t.2.1 : Nat) : Int)) ∨ (t.2.2 ≠ 0 ∧ Gave t.2.2 e ∧ ∃ q : Nat, q ≤ len ∧ AtIs w w' g (o + 1) (q : Int))

set_option maxRecDepth 100000 in
set_option maxHeartbeats 1600000 in
theorem ctext_any (g o : Nat) (A : Option Addr) (c : Nat) (bs : List UInt8) (p lo hi : Nat) (most : Int) (w : World) (h : Cur w g o A c bs p) (hr : RdA w lo hi A bs) (hg : hi ≤ g ∨ g < lo) :
    Calls Try.prog 45 #[.pointer (some ⟨g, o, none⟩), .int .i64 most] w (TextPost (textOf most.toNat (bs.drop p)) g o p bs.length w) := by
  obtain ⟨r, hrr⟩ : ∃ r, Hid (r = uint (bs.drop p)) := ⟨_, Lib.hid rfl⟩
  obtain ⟨t, ht⟩ : ∃ t, Hid (t = textOf most.toNat (bs.drop p)) := ⟨_, Lib.hid rfl⟩
  have hn := number_any g o A c bs p lo hi w h hr hg
  have hpl := uint_drop_len h.le
  rw [← hrr.out] at hn hpl
  rw [← ht.out]
  have HN := Lib.hid hn
  have ht2 : Hid (t = if r.2.2 ≠ 0 then ([], 0, r.2.2) else if most.toNat < r.1 then ([], 0, 4) else if (bs.drop p).length < r.2.1 + r.1 then ([], 0, 2)
      else (((bs.drop p).drop r.2.1).take r.1, r.2.1 + r.1, 0)) := Lib.hid (by rw [ht.out, hrr.out]; rfl)
  have hsm := h.small
  clear hn
  go_enter Try.func45, Try.ntmps45
  go_wp2_with fail
  refine HN.out.mono ?_
  rintro e w1 (⟨h0, rfl, ha⟩ | ⟨h0, rfl, q, hq, ha⟩)
  · have hcur := h.moved ha hpl
    have hr1 : RdA w1 lo hi A bs := hr.keep fun q h1 h2 => World.cell?_of_block (ha.block (by omega))
    have H0 := Lib.hid h0
    have HA := Lib.hid ha
    clear h0 ha
    by_cases hbig : most.toNat < r.1
    · have e1 : Hid (t = ([], 0, 4)) := Lib.hid (by rw [ht2.out, if_neg (by simpa using H0.out), if_pos hbig])
      by_cases hm0 : most < 0
      · go_wp2
        exact ⟨rfl, .inr ⟨by rw [e1.out]; decide, by rw [e1.out]; rfl, _, hpl, HA.out⟩⟩
      · go_wp2
        exact ⟨rfl, .inr ⟨by rw [e1.out]; decide, by rw [e1.out]; rfl, _, hpl, HA.out⟩⟩
    · by_cases hsh : bs.length < p + r.2.1 + r.1
      · have e1 : Hid (t = ([], 0, 2)) := Lib.hid (by rw [ht2.out, if_neg (by simpa using H0.out), if_neg hbig, if_pos (by rw [List.length_drop]; omega)])
        by_cases hm0 : most < 0
        · exfalso; omega
        · go_wp2_with fail
          (with_reducible refine (take_short g o A c bs (p + r.2.1) _ w1 hcur (by omega)).mono ?_)
          rintro e w3 ⟨rfl, j, rfl⟩
          go_wp2
          exact ⟨rfl, .inr ⟨by rw [e1.out]; decide, by rw [e1.out]; rfl, _, hpl, HA.out.behind j⟩⟩
      · obtain ⟨pl, hpp⟩ : ∃ pl, Hid (pl = (bs.drop (p + r.2.1)).take r.1) := ⟨_, Lib.hid rfl⟩
        have lpl : pl.length = r.1 := by rw [hpp.out, List.length_take, List.length_drop]; omega
        have e1 : Hid (t = (pl, r.2.1 + r.1, 0)) := Lib.hid (by rw [ht2.out, if_neg (by simpa using H0.out), if_neg hbig, if_neg (by rw [List.length_drop]; omega), List.drop_drop, hpp.out])
        have HL := Lib.hid lpl
        clear lpl
        by_cases hm0 : most < 0
        all_goals
          go_wp2_with fail
          (with_reducible refine (take_ok g o A c bs (p + r.2.1) r.1 w1 hcur (by omega)).mono ?_)
          rintro e w2 ⟨A1, rfl, hp1, hat1⟩
          have hr2 : RdA w2 lo hi A bs := hr1.keep fun q h1 h2 => World.cell?_of_block (hat1.block (by omega))
          have hq := hp1.rd (n := r.1) hr2 h.cap
          rw [← hpp.out] at hq
          have hcv := convert_rd (c := c - (p + r.2.1)) hq
          rw [HL.out] at hcv
          have HA2 := Lib.hid (HA.out.trans hat1)
          clear hq hr2 hp1 hat1
          go_wp2
          go_ret
          exact .inl ⟨by rw [e1.out], by rw [e1.out]; rfl, by rw [e1.out]; simpa [Nat.add_assoc] using HA2.out⟩
  · have e1 : Hid (t = ([], 0, r.2.2)) := Lib.hid (by rw [ht2.out, if_pos h0])
    go_wp2
    exact ⟨rfl, .inr ⟨by rw [e1.out]; exact h0, by rw [e1.out]; rfl, q, hq, ha⟩⟩

theorem call_enter44 (args : Array Value) (u : World) : (callFunc 44 args).run Try.prog u = .ok (.enter 44 args) u := by kernel_rfl

set_option maxHeartbeats 800000 in
theorem text_step (g bm bn : Nat) (A : Option Addr) (c : Nat) (bs : List UInt8) (p lo hi : Nat) (most : Int) (v0 : Value) (t : TypeId) (wx : World) (k : Nat) (hr : Rdr wx g A c bs p) (hrd : RdA wx lo hi A bs) (hg : hi ≤ g ∨ g < lo) (hne : bn ≠ g)
    (hm : wx.cell? ⟨bm, 0, none⟩ = some (.int .i64 most)) (hv : wx.heap[bn]? = some (.cells #[v0] t (0, 0))) :
    Calls Try.prog 44 #[.pointer (some ⟨g, 1, none⟩), .pointer (some ⟨bm, 0, none⟩), .pointer (some ⟨bn, 0, none⟩)] (wx.drewN k)
      (StepEnd (textOf most.toNat (bs.drop p)).2.2 (QSt (textOf most.toNat (bs.drop p)).2.2 g bn (.string ⟨(textOf most.toNat (bs.drop p)).1.toArray⟩) (p + (textOf most.toNat (bs.drop p)).2.1) bs.length) wx) := by
  obtain ⟨r, hrr⟩ : ∃ r, Hid (r = textOf most.toNat (bs.drop p)) := ⟨_, Lib.hid rfl⟩
  have hn := fun j => ctext_any g 1 A c bs p lo hi most (wx.drewN j) (hr.cur.drewN j) (hrd.keep fun _ _ _ => rfl) hg
  rw [← hrr.out] at hn ⊢
  have HN := Lib.hid hn
  clear hn
  go_enter Try.func44, Try.ntmps44
  go_wp2_with fail
  refine (HN.out _).mono ?_
  rintro e w1 (⟨h0, rfl, ha⟩ | ⟨h0, rfl, q, hq, ha⟩)
  · have ha' := ha.after
    have hb1 : w1.heap[bn]? = some (.cells #[v0] t (0, 0)) := (ha'.block hne).trans hv
    have hc := cell_of_one hb1
    have hf := free_of_one hb1
    have H0 := Lib.hid h0
    clear h0 hb1 ha
    go_wp2
    go_end0
    exact ⟨.inl ⟨H0.out, rfl⟩, .inl ⟨H0.out, w1, ha', rfl⟩⟩
  · go_wp2
    exact ⟨rfl, .inr ⟨h0, rfl⟩, .inr ⟨h0, q, hq, ha.after⟩⟩

set_option maxHeartbeats 800000 in
theorem text_made (g : Nat) (A : Option Addr) (c : Nat) (bs : List UInt8) (p lo hi : Nat) (most : Int) (w : World) (hr : Rdr w g A c bs p) (hrd : RdA w lo hi A bs) (hhi : hi ≤ w.heap.size) (hg : hi ≤ g ∨ g < lo) :
    Calls Try.prog 27 #[.pointer (some ⟨g, 0, none⟩), .int .i64 most] w
      (Reads (.string ⟨(textOf most.toNat (bs.drop p)).1.toArray⟩) (textOf most.toNat (bs.drop p)).2.2 (p + (textOf most.toNat (bs.drop p)).2.1) g A c bs w) := by
  have hmf : ∀ (fn : Fn) (first cap : Array Value) (w : World), (Instr.makeFunc fn first cap).run Try.prog w = .ok (.func fn first cap) w := fun _ _ _ _ => rfl
  obtain ⟨r, hrr⟩ : ∃ r, Hid (r = textOf most.toNat (bs.drop p)) := ⟨_, Lib.hid rfl⟩
  obtain ⟨W, hW⟩ : ∃ W, Hid (W = (w.alloc (.cells #[.int .i64 most] 3)).alloc (.cells #[.string ⟨#[]⟩] 9)) := ⟨_, Lib.hid rfl⟩
  have sW : W.heap.size = w.heap.size + 2 := by rw [hW.out]; simp
  have bW : Below w.heap.size w W := by rw [hW.out]; exact ((Below.refl _ w).alloc (Nat.le_refl _) _).alloc (by simp) _
  have k0 : W.heap[w.heap.size]? = some (.cells #[.int .i64 most] 3 (0, 0)) := by
    rw [hW.out, Below.heap_alloc _ _ _ (by simp)]
    exact heap_alloc_new w _
  have k1 : W.heap[w.heap.size + 1]? = some (.cells #[.string ⟨#[]⟩] 9 (0, 0)) := by
    rw [hW.out]
    have := heap_alloc_new (w.alloc (.cells #[.int .i64 most] 3)) (.cells #[.string ⟨#[]⟩] 9)
    simpa using this
  have hlt := hr.lt
  have hpl := textOf_drop (most := most.toNat) hr.le
  have herr := @textOf_err most.toNat (bs.drop p)
  have hrW : Rdr W g A c bs p := hr.keep (bW.block g hlt)
  have HS := Lib.hid (fun wx k (hb : Below W.heap.size W wx) =>
    text_step g w.heap.size (w.heap.size + 1) A c bs p lo hi most (.string ⟨#[]⟩) 9 wx k (hrW.keep (hb.block g (by omega))) ((hrd.keep fun q h1 h2 => bW.cell (by omega)).keep fun q h1 h2 => hb.cell (by omega)) hg (by omega)
      (cell_of_one ((hb.block _ (by omega)).trans k0)) ((hb.block _ (by omega)).trans k1))
  rw [← hrr.out] at HS hpl herr ⊢
  have HH := Lib.hid (read_made 44 #[.pointer (some ⟨w.heap.size, 0, none⟩), .pointer (some ⟨w.heap.size + 1, 0, none⟩)] g A c bs p r.2.2 (QSt r.2.2 g (w.heap.size + 1) (.string ⟨r.1.toArray⟩) (p + r.2.1) bs.length) W hrW call_enter44
    (QSt.asked hrW hpl (by omega) (by omega)) (fun wx k hb => HS.out wx k hb))
  have HE := Lib.hid herr
  have K1 := Lib.hid k1
  have SW := Lib.hid sW
  clear herr HS k0 k1 sW
  go_enter Try.func27, Try.ntmps27
  go_wp2_with fail
  have e2 := hW.out.symm
  rw [e2]
  clear e2
  refine HH.out.mono ?_
  rintro e w1 hp
  obtain ⟨c1, c2, c3⟩ := reader_close hr hpl bW (Nat.le_succ _) (by have := SW.out; omega) K1.out hp
  obtain rfl := hp.ending
  clear hp
  by_cases h0 : r.2.2 = 0
  · rw [if_pos h0] at c1 c3
    have hc := cell_of_one c3
    have H0 := Lib.hid h0
    clear h0 c3
    go_wp2
    go_ret2
    exact ⟨rfl, c1, c2⟩
  · rw [if_neg h0] at c1 c3
    have hc := cell_of_one c3
    have H0 := Lib.hid (HE.out h0)
    clear c3
    go_wp2
    go_ret2
    exact ⟨by rw [H0.out.1]; rfl, by rw [H0.out.2]; exact c1, c2⟩
end Go.Proofs.Ytnehchlfoidmdaa
