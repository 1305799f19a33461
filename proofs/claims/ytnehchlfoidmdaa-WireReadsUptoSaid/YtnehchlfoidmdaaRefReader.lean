/- The reader of the document's own answer: Uint, Byte, Text. -/
import Derived.Test.YtnehchlfoidmdaaText
import Derived.Test.YtnehchlfoidmdaaRefUint
import Derived.Deep.QuietTactic
namespace Go.Proofs.Ytnehchlfoidmdaa
open Go.RowKit
open Go.Lib (byteCells byteCells_length byteCells_append strCells strCells_eq)

/-- The document's own reader lies in block g: over these bytes, p of them read. -/
structure XRd (w : World) (g : Nat) (A : Option Addr) (c : Nat) (bs : List UInt8) (p : Nat) : Prop where
  block : w.heap[g]? = some (.cells #[.slice A bs.length c, .int .i64 (p : Int)] 40 (0, 0))
  le : p ≤ bs.length
  cap : bs.length ≤ c
  small : bs.length ≤ 1099511627776

theorem XRd.cell {w : World} {g : Nat} {A : Option Addr} {c : Nat} {bs : List UInt8} {p : Nat} (h : XRd w g A c bs p) (i : Nat) : w.cell? ⟨g, i, none⟩ = (#[Value.slice A bs.length c, .int .i64 (p : Int)] : Array Value)[i]? := cell_of_row w g i _ _ (0, 0) h.block
theorem XRd.frozen {w : World} {g : Nat} {A : Option Addr} {c : Nat} {bs : List UInt8} {p : Nat} (h : XRd w g A c bs p) (i : Nat) : w.frozen? ⟨g, i, none⟩ = false := frozen_of_row w g i _ _ h.block
theorem XRd.lt {w : World} {g : Nat} {A : Option Addr} {c : Nat} {bs : List UInt8} {p : Nat} (h : XRd w g A c bs p) : g < w.heap.size := by
  rcases Nat.lt_or_ge g w.heap.size with h1 | h1
  · exact h1
  · have := h.block; rw [Array.getElem?_eq_none h1] at this; cases this
theorem XRd.keep {w w' : World} {g : Nat} {A : Option Addr} {c : Nat} {bs : List UInt8} {p : Nat} (h : XRd w g A c bs p) (hk : w'.heap[g]? = w.heap[g]?) : XRd w' g A c bs p := ⟨hk.trans h.block, h.le, h.cap, h.small⟩
theorem XRd.moved {w w' : World} {g : Nat} {A : Option Addr} {c : Nat} {bs : List UInt8} {p q : Nat} (h : XRd w g A c bs p) (h' : AtIs w w' g 1 (q : Int)) (hq : q ≤ bs.length) : XRd w' g A c bs q := by
  obtain ⟨k, rfl⟩ := h'
  have : XRd (w.setCell ⟨g, 1, none⟩ (.int .i64 (q : Int))) g A c bs q := ⟨by rw [heap_setCell_same w g 1 _ _ _ h.block]; simp, hq, h.cap, h.small⟩
  exact this.keep rfl

/-- What such a call comes to. -/
def XReads (v : Value) (x : Int) (p' g : Nat) (w : World) (e : Ending) (w' : World) : Prop := e = .returned (.tuple #[v, .int .i64 x]) ∧ AtIs w w' g 1 (p' : Int)

theorem atIs_drewN {w : World} {g o : Nat} {x y : Int} (n : Nat) (h : y = x) : AtIs w ((w.drewN n).setCell ⟨g, o, none⟩ (.int .i64 y)) g o x := by
  subst h; exact ⟨n, rfl⟩

theorem RdA.rest {w : World} {lo hi : Nat} {A : Option Addr} {bs : List UInt8} (h : RdA w lo hi A bs) (c p : Nat) (hc : bs.length ≤ c) : RdA w lo hi (if c = p then A else A.map (·.add p)) (bs.drop p) := by
  have := Piece.rd (A' := if c = p then A else A.map (·.add p)) (n := bs.length - p) rfl h hc
  rwa [List.take_of_length_le (by simp)] at this

set_option maxRecDepth 100000 in
set_option maxHeartbeats 1600000 in
theorem xuint_any (g : Nat) (A : Option Addr) (c : Nat) (bs : List UInt8) (p lo hi : Nat) (w : World) (h : XRd w g A c bs p) (hr : RdA w lo hi A bs) :
    Calls Try.prog 24 #[.pointer (some ⟨g, 0, none⟩)] w (XReads (.int .i64 ((uint (bs.drop p)).1 : Int)) (uint (bs.drop p)).2.2 (p + (uint (bs.drop p)).2.1) g w) := by
  obtain ⟨r, hrr⟩ : ∃ r, Hid (r = uint (bs.drop p)) := ⟨_, Lib.hid rfl⟩
  have hsm := h.small
  have hle := h.le
  have hcap := h.cap
  have c0 : w.cell? ⟨g, 0, none⟩ = some (.slice A bs.length c) := h.cell 0
  have c1 : w.cell? ⟨g, 1, none⟩ = some (.int .i64 (p : Int)) := h.cell 1
  have f1 := h.frozen 1
  have hpl := uint_drop_len hle
  have hu : ∀ j : Nat, ∀ v, Rd w lo hi v (bs.drop p) → Calls Try.prog 32 #[v] (w.drewN j) fun e w' => e = .returned (.tuple #[.int .i64 (r.1 : Int), .int .i64 (r.2.1 : Int), .int .i64 r.2.2]) ∧ w' = w.drewN j := fun j v hv => by
    rw [hrr.out]
    exact (refUint_any v (bs.drop p) lo hi (w.drewN j) hv (by simp; omega)).mono fun _ _ ⟨h1, h2⟩ => ⟨h1, h2.symm⟩
  have HU := Lib.hid hu
  rw [← hrr.out] at hpl ⊢
  have hrest := hr.rest c p hcap
  clear hu
  by_cases hcp : c = p
  · rw [if_pos hcp] at hrest
    have R := Lib.hid (show Rd w lo hi (.slice A (bs.length - p) (c - p)) (bs.drop p) from ⟨A, c - p, by simp, by simp; omega, hrest⟩)
    have R0 := Lib.hid (show Rd w lo hi (.slice A 0 0) (bs.drop p) from ⟨A, 0, by simp; omega, by simp; omega, hrest⟩)
    clear hrest
    subst hcp
    go_enter Try.func24, Try.ntmps24
    go_wp2
    go_quiet (first
      | (go_at_call 32; (with_reducible refine Calls.quiet_of_same (HU.out _ _ R0.out)))
      | (go_at_call 32; (with_reducible refine Calls.quiet_of_same (HU.out _ _ R.out))))
    go_wp2
    go_ret2
    exact ⟨rfl, atIs_drewN _ (by go_num)⟩
  · rw [if_neg hcp] at hrest
    have R := Lib.hid (show Rd w lo hi (.slice (A.map (fun x => x.add p)) (bs.length - p) (c - p)) (bs.drop p) from ⟨A.map (fun x => x.add p), c - p, by simp, by simp; omega, hrest⟩)
    clear hrest
    go_enter Try.func24, Try.ntmps24
    go_wp2
    go_quiet ((go_at_call 32; (with_reducible refine Calls.quiet_of_same (HU.out _ _ R.out))))
    go_wp2
    go_ret2
    exact ⟨rfl, atIs_drewN _ (by go_num)⟩

set_option maxRecDepth 100000 in
set_option maxHeartbeats 1600000 in
theorem xbyte_any (g : Nat) (A : Option Addr) (c : Nat) (bs : List UInt8) (p lo hi : Nat) (w : World) (h : XRd w g A c bs p) (hr : RdA w lo hi A bs) (hg : hi ≤ g ∨ g < lo) :
    Calls Try.prog 26 #[.pointer (some ⟨g, 0, none⟩)] w (XReads (.int .i64 ((byteOf (bs.drop p)).1 : Int)) (byteOf (bs.drop p)).2.2 (p + (byteOf (bs.drop p)).2.1) g w) := by
  have hsm := h.small
  have hle := h.le
  have hcap := h.cap
  have c0 : w.cell? ⟨g, 0, none⟩ = some (.slice A bs.length c) := h.cell 0
  have c1 : w.cell? ⟨g, 1, none⟩ = some (.int .i64 (p : Int)) := h.cell 1
  have f1 := h.frozen 1
  by_cases hlt : p < bs.length
  · obtain ⟨x, hx⟩ : ∃ x, Hid (x = bs[p]) := ⟨_, Lib.hid rfl⟩
    have e : byteOf (bs.drop p) = (x.toNat, 1, 0) := by rw [List.drop_eq_getElem_cons hlt, hx.out]; rfl
    rw [e]
    obtain ⟨ad, rfl, ha⟩ := hr.at_ hlt
    rw [← hx.out] at ha
    have hbl : lo ≤ ad.block ∧ ad.block < hi := by
      obtain ⟨ad', e', h1, h2, _⟩ := hr (by omega)
      injection e' with e'
      subst e'
      exact ⟨h1, h2⟩
    have hxb := byte_lt x
    have hd : ∀ n : Nat, ∀ w1, w1 = (w.drewN n).setCell ⟨g, 1, none⟩ (.int .i64 ((p : Int) + 1)) → w1.cell? ⟨g, 0, none⟩ = some (.slice (some ad) bs.length c) ∧ w1.cell? ⟨g, 1, none⟩ = some (.int .i64 ((p : Int) + 1)) ∧ w1.cell? (ad.add p) = some (.int .u8 (x.toNat : Int)) := fun n w1 hw1 => by
      subst hw1
      refine ⟨?_, ?_, ?_⟩
      · rw [World.cell?_setCell_other _ _ _ _ (by simp)]; exact c0
      · exact World.cell?_setCell_same (w.drewN n) _ _ c1
      · rw [World.cell?_setCell_other _ _ _ _ (fun e => by have := congrArg Addr.block e; rw [add_block] at this; simp at this; omega)]
        exact ha
    have HD := Lib.hid hd
    clear hd hbl
    go_enter Try.func26, Try.ntmps26
    go_wp2
    go_quiet (fail)
    go_wp2
    generalize hw1 : (w.drewN nq).setCell ⟨g, 1, none⟩ (.int .i64 ((p : Int) + 1)) = w1
    obtain ⟨d0, d1, d2⟩ := HD.out nq w1 hw1.symm
    have HW := Lib.hid hw1
    clear hw1 c0 c1 ha
    go_quiet (fail)
    go_wp2
    go_ret2
    refine ⟨rfl, AtIs.behind ?_ _⟩
    rw [← HW.out]
    exact atIs_drewN _ (by go_num)
  · have e : byteOf (bs.drop p) = (0, 0, 2) := by rw [List.drop_of_length_le (by omega)]; rfl
    rw [e]
    have hpe : (((p : Nat) : Int) == (bs.length : Int)) = true := by simp; omega
    go_enter Try.func26, Try.ntmps26
    go_wp2
    go_quiet (fail)
    go_wp2
    go_ret2
    exact ⟨rfl, AtIs.none_ c1 _⟩

set_option maxRecDepth 100000 in
set_option maxHeartbeats 3200000 in
theorem xtext_any (g : Nat) (A : Option Addr) (c : Nat) (bs : List UInt8) (p lo hi : Nat) (most : Int) (w : World) (h : XRd w g A c bs p) (hr : RdA w lo hi A bs) :
    Calls Try.prog 28 #[.pointer (some ⟨g, 0, none⟩), .int .i64 most] w (XReads (.string ⟨(textOf most.toNat (bs.drop p)).1.toArray⟩) (textOf most.toNat (bs.drop p)).2.2 (p + (textOf most.toNat (bs.drop p)).2.1) g w) := by
  obtain ⟨r, hrr⟩ : ∃ r, Hid (r = uint (bs.drop p)) := ⟨_, Lib.hid rfl⟩
  obtain ⟨t, ht⟩ : ∃ t, Hid (t = textOf most.toNat (bs.drop p)) := ⟨_, Lib.hid rfl⟩
  have hsm := h.small
  have hle := h.le
  have hcap := h.cap
  have c0 : w.cell? ⟨g, 0, none⟩ = some (.slice A bs.length c) := h.cell 0
  have c1 : w.cell? ⟨g, 1, none⟩ = some (.int .i64 (p : Int)) := h.cell 1
  have f1 := h.frozen 1
  have hpl := uint_drop_len hle
  have hu : ∀ j : Nat, ∀ v, Rd w lo hi v (bs.drop p) → Calls Try.prog 32 #[v] (w.drewN j) fun e w' => e = .returned (.tuple #[.int .i64 (r.1 : Int), .int .i64 (r.2.1 : Int), .int .i64 r.2.2]) ∧ w' = w.drewN j := fun j v hv => by
    rw [hrr.out]
    exact (refUint_any v (bs.drop p) lo hi (w.drewN j) hv (by simp; omega)).mono fun _ _ ⟨h1, h2⟩ => ⟨h1, h2.symm⟩
  have HU := Lib.hid hu
  have ht2 : Hid (t = if r.2.2 ≠ 0 then ([], 0, r.2.2) else if most.toNat < r.1 then ([], 0, 4) else if (bs.drop p).length < r.2.1 + r.1 then ([], 0, 2)
      else (((bs.drop p).drop r.2.1).take r.1, r.2.1 + r.1, 0)) := Lib.hid (by rw [ht.out, hrr.out]; rfl)
  rw [← hrr.out] at hpl
  rw [← ht.out]
  clear hu
  have hrest := hr.rest c p hcap
  by_cases hcp : c = p
  · have hr0 : r = (0, 0, 2) := by rw [hrr.out, List.drop_of_length_le (by omega)]; rfl
    have e1 : t = ([], 0, 2) := by rw [ht2.out, hr0]; rfl
    rw [if_pos hcp] at hrest
    have R0 := Lib.hid (show Rd w lo hi (.slice A 0 0) (bs.drop p) from ⟨A, 0, by simp; omega, by simp; omega, hrest⟩)
    rw [hr0] at HU
    rw [e1]
    clear hrest ht2 hpl hr0 e1 ht hrr
    subst hcp
    go_enter Try.func28, Try.ntmps28
    go_wp2
    go_quiet ((go_at_call 32; (with_reducible refine Calls.quiet_of_same (HU.out _ _ R0.out))))
    go_wp2
    go_ret2
    exact ⟨rfl, AtIs.none_ c1 _⟩
  rw [if_neg hcp] at hrest
  have R := Lib.hid (show Rd w lo hi (.slice (A.map (fun x => x.add p)) (bs.length - p) (c - p)) (bs.drop p) from ⟨A.map (fun x => x.add p), c - p, by simp, by simp; omega, hrest⟩)
  clear hrest
  by_cases h0 : r.2.2 = 0
  · by_cases hbig : most.toNat < r.1
    · have e1 : Hid (t = ([], 0, 4)) := Lib.hid (by rw [ht2.out, if_neg (by simpa using h0), if_pos hbig])
      have h0' : (r.2.2 == 0) = true := by simp [h0]
      have H0 := Lib.hid h0
      clear h0
      by_cases hm0 : most < 0
      all_goals
        go_enter Try.func28, Try.ntmps28
        go_wp2
        go_quiet ((go_at_call 32; (with_reducible refine Calls.quiet_of_same (HU.out _ _ R.out))))
        go_wp2
        go_ret2
        exact ⟨by rw [e1.out]; rfl, by rw [e1.out]; exact AtIs.none_ c1 _⟩
    · by_cases hsh : bs.length < p + r.2.1 + r.1
      · have e1 : Hid (t = ([], 0, 2)) := Lib.hid (by rw [ht2.out, if_neg (by simpa using h0), if_neg hbig, if_pos (by rw [List.length_drop]; omega)])
        have H0 := Lib.hid h0
        have hm0 : ¬ most < 0 := by omega
        clear h0
        go_enter Try.func28, Try.ntmps28
        go_wp2
        go_quiet ((go_at_call 32; (with_reducible refine Calls.quiet_of_same (HU.out _ _ R.out))))
        have h0 := H0.out
        go_wp2
        go_quiet (fail)
        go_wp2
        go_ret2
        exact ⟨by rw [e1.out]; rfl, by rw [e1.out]; exact (AtIs.none_ c1 _).behind _⟩
      · obtain ⟨pl, hpp⟩ : ∃ pl, Hid (pl = (bs.drop (p + r.2.1)).take r.1) := ⟨_, Lib.hid rfl⟩
        have lpl : pl.length = r.1 := by rw [hpp.out, List.length_take, List.length_drop]; omega
        have e1 : Hid (t = (pl, r.2.1 + r.1, 0)) := Lib.hid (by rw [ht2.out, if_neg (by simpa using h0), if_neg hbig, if_neg (by rw [List.length_drop]; omega), List.drop_drop, hpp.out])
        have hq := Piece.rd (A := A) (c := c) (p := p + r.2.1) (A' := if c = p + r.2.1 then A else A.map (·.add (p + r.2.1))) (n := r.1) rfl hr hcap
        rw [← hpp.out] at hq
        have hcv := fun j : Nat => convert_rd (w := w.drewN j) (c := c - (p + r.2.1)) (show RdA (w.drewN j) lo hi _ pl from hq)
        rw [lpl] at hcv
        have H0 := Lib.hid h0
        clear h0 hq
        by_cases hcq : c = p + r.2.1
        · rw [if_pos hcq, show c - (p + r.2.1) = 0 by omega] at hcv
          have HQ := Lib.hid hcq
          clear hcq
          by_cases hm0 : most < 0
          all_goals
            go_enter Try.func28, Try.ntmps28
            go_wp2
            go_quiet ((go_at_call 32; (with_reducible refine Calls.quiet_of_same (HU.out _ _ R.out))))
            have h0 := H0.out
            go_wp2
            go_quiet (fail)
            go_wp2
            have hcq := HQ.out
            go_quiet (fail)
            go_wp2
            go_ret2
            exact ⟨by rw [e1.out]; rfl, by rw [e1.out]; exact atIs_drewN _ (by go_num)⟩
        · rw [if_neg hcq] at hcv
          by_cases hm0 : most < 0
          all_goals
            go_enter Try.func28, Try.ntmps28
            go_wp2
            go_quiet ((go_at_call 32; (with_reducible refine Calls.quiet_of_same (HU.out _ _ R.out))))
            have h0 := H0.out
            go_wp2
            go_quiet (fail)
            go_wp2
            go_quiet (fail)
            go_wp2
            go_ret2
            exact ⟨by rw [e1.out]; rfl, by rw [e1.out]; exact atIs_drewN _ (by go_num)⟩
  · have e1 : Hid (t = ([], 0, r.2.2)) := Lib.hid (by rw [ht2.out, if_pos h0])
    have h0' : (r.2.2 == 0) = false := by simp [h0]
    go_enter Try.func28, Try.ntmps28
    go_wp2
    go_quiet ((go_at_call 32; (with_reducible refine Calls.quiet_of_same (HU.out _ _ R.out))))
    go_wp2
    go_ret2
    exact ⟨by rw [e1.out]; rfl, by rw [e1.out]; exact AtIs.none_ c1 _⟩
end Go.Proofs.Ytnehchlfoidmdaa
