/- Unframe of the program: its contract. -/
import Derived.Test.YtnehchlfoidmdaaCframe
import Derived.Deep.RegionHeld3
namespace Go.Proofs.Ytnehchlfoidmdaa
open Go.RowKit
open Go.Lib (byteCells byteCells_length byteCells_append strCells strCells_eq)

/-- What Unframe's step does: cursor in block g, payload's variable in block bn. -/
def FSt (u : Nat × Nat × Int) (g bn : Nat) (A : Option Addr) (c len : Nat) (wx w1 : World) : Prop :=
  (u.2.2 = 0 ∧ ∃ A' wa wb, Piece A c u.1 A' ∧ AtIs wx wa g 1 ((u.1 + u.2.1 + 4 : Nat) : Int) ∧ Below wa.heap.size wa wb ∧ w1 = wb.setCell ⟨bn, 0, none⟩ (.slice A' u.2.1 (c - u.1))) ∨
  (u.2.2 ≠ 0 ∧ ∃ (q : Nat) (wa : World), q ≤ len ∧ AtIs wx wa g 1 (q : Int) ∧ Below wa.heap.size wa w1)

set_option maxHeartbeats 800000 in
theorem frame_step (g bn : Nat) (A : Option Addr) (c : Nat) (bs : List UInt8) (lo hi : Nat) (v0 : Value) (wx : World) (h : Cur wx g 0 A c bs 0) (hr : RdA wx lo hi A bs) (hhi : hi ≤ wx.heap.size) (hg : hi ≤ g ∨ g < lo) (hne : bn ≠ g)
    (hv : wx.heap[bn]? = some (.cells #[v0] 22 (0, 0))) :
    Steps 37 #[.pointer (some ⟨g, 0, none⟩), .pointer (some ⟨bn, 0, none⟩)] (unfr bs).2.2 (FSt (unfr bs) g bn A c bs.length) wx := by
  obtain ⟨u, hu⟩ : ∃ u, Hid (u = unfr bs) := ⟨_, Lib.hid rfl⟩
  have hn := cframe_any g 0 A c bs lo hi wx h hr hhi hg
  rw [← hu.out] at hn ⊢
  have HN := Lib.hid hn
  have hbl : bn < wx.heap.size := by
    rcases Nat.lt_or_ge bn wx.heap.size with h1 | h1
    · exact h1
    · rw [Array.getElem?_eq_none h1] at hv; cases hv
  clear hn
  unfold Steps
  go_enter Try.func37, Try.ntmps37
  go_wp2_with fail
  refine HN.out.mono ?_
  rintro e w1 (⟨h0, A', wa, rfl, hp, ha, hb⟩ | ⟨h0, rfl, q, wa, hq, ha, hb⟩)
  · have hb1 : w1.heap[bn]? = some (.cells #[v0] 22 (0, 0)) := ((hb.block bn (by rw [ha.size]; exact hbl)).trans (ha.block hne)).trans hv
    have hc := cell_of_one hb1
    have hf := free_of_one hb1
    have H0 := Lib.hid h0
    clear h0 hb1
    go_wp2
    go_end0
    exact ⟨.inl ⟨H0.out, rfl⟩, .inl ⟨H0.out, A', wa, w1, hp, ha, hb, rfl⟩⟩
  · go_wp2
    exact ⟨rfl, .inr ⟨h0, rfl⟩, .inr ⟨h0, q, wa, hq, ha, hb⟩⟩

theorem unfr_len {bs : List UInt8} (h : (unfr bs).2.2 = 0) : (unfr bs).1 + (unfr bs).2.1 + 4 ≤ bs.length := by
  revert h
  unfold unfr
  split
  · intro h; rename_i h1; exact absurd h h1
  · split
    · intro h; simp at h
    · split
      · intro h; simp at h
      · split
        · intro _; simp only []; omega
        · intro h; simp at h

/-- What Unframe comes to. -/
def UnfrPost (bs : List UInt8) (w : World) (e : Ending) (w' : World) : Prop :=
  ((unfr bs).2.2 ≠ 0 ∧ e = .returned (.tuple #[.slice none 0 0, .slice none 0 0, .int .i64 (unfr bs).2.2]) ∧ Below w.heap.size w w') ∨
  ((unfr bs).2.2 = 0 ∧ ∃ v1 v2, e = .returned (.tuple #[v1, v2, .int .i64 0]) ∧ Own w' w.heap.size v1 ((bs.drop (unfr bs).1).take (unfr bs).2.1) ∧
    Own w' w.heap.size v2 (bs.drop ((unfr bs).1 + (unfr bs).2.1 + 4)) ∧ Below w.heap.size w w')

set_option maxRecDepth 100000 in
set_option maxHeartbeats 3200000 in
theorem unframe_any (v : Value) (bs : List UInt8) (w : World) (h : Rd w 0 w.heap.size v bs) (hl : bs.length ≤ 1099511627776) :
    Calls Try.prog 20 #[v] w (UnfrPost bs w) := by
  have hmf : ∀ (fn : Fn) (first cap : Array Value) (w : World), (Instr.makeFunc fn first cap).run Try.prog w = .ok (.func fn first cap) w := fun _ _ _ _ => rfl
  obtain ⟨A, c, rfl, hc, hx⟩ := h
  obtain ⟨u, hu⟩ : ∃ u, Hid (u = unfr bs) := ⟨_, Lib.hid rfl⟩
  obtain ⟨W2, hW2⟩ : ∃ W2, Hid (W2 = (w.alloc (.cells #[.slice A bs.length c, .int .i64 0] 56)).alloc (.cells #[.slice none 0 0] 22)) := ⟨_, Lib.hid rfl⟩
  obtain ⟨W3, hW3⟩ : ∃ W3, Hid (W3 = W2.alloc (.cells #[.int .i64 0] 29)) := ⟨_, Lib.hid rfl⟩
  have s2 : W2.heap.size = w.heap.size + 2 := by rw [hW2.out]; simp
  have s3 : W3.heap.size = w.heap.size + 3 := by rw [hW3.out]; simp; omega
  have b3 : Below w.heap.size w W3 := by
    rw [hW3.out, hW2.out]
    exact (((Below.refl _ _).alloc (Nat.le_refl _) _).alloc (by simp) _).alloc (by simp; omega) _
  have k1 : W3.heap[w.heap.size]? = some (.cells #[.slice A bs.length c, .int .i64 0] 56 (0, 0)) := by
    rw [hW3.out, Below.heap_alloc _ _ _ (by omega), hW2.out, Below.heap_alloc _ _ _ (by simp)]
    exact heap_alloc_new w _
  have k2 : W3.heap[w.heap.size + 1]? = some (.cells #[.slice none 0 0] 22 (0, 0)) := by
    rw [hW3.out, Below.heap_alloc _ _ _ (by omega), hW2.out]
    have := heap_alloc_new (w.alloc (.cells #[.slice A bs.length c, .int .i64 0] 56)) (.cells #[.slice none 0 0] 22)
    simpa using this
  have k3 : W3.heap[w.heap.size + 2]? = some (.cells #[.int .i64 0] 29 (0, 0)) := by
    rw [hW3.out, ← s2]
    exact heap_alloc_new W2 _
  have hcur : Cur W3 w.heap.size 0 A c bs 0 := ⟨cell_of_row _ _ 0 _ _ (0, 0) k1, cell_of_row _ _ 1 _ _ (0, 0) k1, frozen_of_row _ _ 0 _ _ k1, frozen_of_row _ _ 1 _ _ k1, Nat.zero_le _, hc, hl⟩
  have hx3 : RdA W3 0 w.heap.size A bs := hx.keep fun p _ hp => b3.cell hp
  have hst := frame_step w.heap.size (w.heap.size + 1) A c bs 0 w.heap.size (.slice none 0 0) W3 hcur hx3 (by omega) (.inl (Nat.le_refl _)) (by omega) k2
  rw [← hu.out] at hst
  have hblk : ∀ w1, FSt u w.heap.size (w.heap.size + 1) A c bs.length W3 w1 → ∀ b, b < W3.heap.size → b ≠ w.heap.size → b ≠ w.heap.size + 1 → w1.heap[b]? = W3.heap[b]? := by
    rintro w1 (⟨_, A', wa, wb, _, ha, hb, rfl⟩ | ⟨_, q, wa, _, ha, hb⟩) b h1 h2 h3
    · exact (Below.heap_setCell _ _ _ _ h3).trans ((hb.block b (by rw [ha.size]; exact h1)).trans (ha.block h2))
    · exact (hb.block b (by rw [ha.size]; exact h1)).trans (ha.block h2)
  have hatt := attempt_any 37 #[.pointer (some ⟨w.heap.size, 0, none⟩), .pointer (some ⟨w.heap.size + 1, 0, none⟩)] u.2.2 _ W2 (fun x => by kernel_rfl)
    (fun w1 hq => by
      rw [← hW3.out] at hq
      rw [s2, hblk w1 hq _ (by omega) (by omega) (by omega)]
      exact k3)
    (by rw [← hW3.out]; exact hst)
  have H := Lib.hid hatt
  have HB := Lib.hid hblk
  have S2 := Lib.hid s2
  have S3 := Lib.hid s3
  have K2 := Lib.hid k2
  have K1 := Lib.hid k1
  clear hatt hst hblk k1 k2 k3 hcur s2 s3
  go_enter Try.func20, Try.ntmps20
  go_wp2_with fail
  have e2 := hW2.out.symm
  rw [e2]
  clear e2
  refine Calls.mono H.out ?_
  rintro e w4 ⟨rfl, w1, hq, rfl⟩
  rw [← hW3.out] at hq
  obtain ⟨w4, hw4⟩ : ∃ w4, Hid (w4 = w1.setCell ⟨W2.heap.size, 0, none⟩ (.int .i64 u.2.2)) := ⟨_, Lib.hid rfl⟩
  have s2 := S2.out
  have s3 := S3.out
  have t1 : w4.os = w1.os ∧ w4.tape = w1.tape ∧ w4.output = w1.output ∧ w4.heap.size = w1.heap.size ∧ ∀ b, b ≠ w.heap.size + 2 → w4.heap[b]? = w1.heap[b]? := by
    rw [hw4.out, s2]
    exact ⟨rfl, rfl, rfl, by simp [World.setCell], fun b hb => Below.heap_setCell _ _ _ _ hb⟩
  rw [← hw4.out]
  rcases hq with ⟨h0, A', wa, wb, hp, ha, hb, rfl⟩ | ⟨h0, q, wa, hq, ha, hb⟩
  · have hne : (u.2.2 != 0) = false := by simp [h0]
    have hsz : wb.heap.size = (wb.setCell ⟨w.heap.size + 1, 0, none⟩ (.slice A' u.2.1 (c - u.1))).heap.size := by simp [World.setCell]
    have bW : Below w.heap.size w w4 := by
      refine b3.trans ⟨?_, ?_, ?_, ?_, fun k hk => ?_⟩
      · exact t1.1.trans (hb.os.trans ha.grown.os)
      · exact t1.2.1.trans (hb.tape.trans ha.grown.tape)
      · exact t1.2.2.1.trans (hb.output.trans ha.grown.output)
      · have := hb.size; have := ha.size; rw [t1.2.2.2.1, ← hsz]; omega
      · exact (t1.2.2.2.2 k (by omega)).trans ((Below.heap_setCell _ _ _ _ (by simp; omega)).trans ((hb.block k (by rw [ha.size]; omega)).trans (ha.block (by omega))))
    have c1 : w4.cell? ⟨w.heap.size + 1, 0, none⟩ = some (.slice A' u.2.1 (c - u.1)) := cell_of_one (by
      rw [t1.2.2.2.2 _ (by omega)]
      have : wb.heap[w.heap.size + 1]? = some (.cells #[.slice none 0 0] 22 (0, 0)) := (hb.block _ (by rw [ha.size]; omega)).trans ((ha.block (by omega)).trans K2.out)
      rw [heap_setCell_same wb _ 0 _ _ _ this]
      rfl)
    have c2 : w4.cell? ⟨w.heap.size, 1, none⟩ = some (.int .i64 ((u.1 + u.2.1 + 4 : Nat) : Int)) := by
      have e1 : w4.heap[w.heap.size]? = wa.heap[w.heap.size]? := (t1.2.2.2.2 _ (by omega)).trans ((Below.heap_setCell _ _ _ _ (by simp)).trans (hb.block _ (by rw [ha.size]; omega)))
      rw [World.cell?_of_block (w := wa) (a := ⟨w.heap.size, 1, none⟩) e1]
      exact ha.cell_same (cell_of_row _ _ 1 _ _ (0, 0) K1.out)
    have hsz4 : w.heap.size + 3 ≤ w4.heap.size := by have := hb.size; have := ha.size; rw [t1.2.2.2.1, ← hsz]; omega
    have hul : u.1 + u.2.1 + 4 ≤ bs.length := by rw [hu.out] at h0 ⊢; exact unfr_len h0
    have hx4 : RdA w4 0 w.heap.size A bs := hx3.keep fun p _ hp => by
      rw [bW.cell hp, b3.cell hp]
    obtain ⟨q, hq⟩ : ∃ q, Hid (q = u.1 + u.2.1 + 4) := ⟨_, Lib.hid rfl⟩
    have hql : q ≤ bs.length := by rw [hq.out]; exact hul
    rw [← hq.out] at c2
    obtain ⟨pl, hpl⟩ : ∃ pl, Hid (pl = (bs.drop u.1).take u.2.1) := ⟨_, Lib.hid rfl⟩
    have lpl : pl.length = u.2.1 := by rw [hpl.out, List.length_take, List.length_drop]; omega
    have r1 : Rd w4 0 w4.heap.size (.slice A' u.2.1 (c - u.1)) pl := ⟨A', c - u.1, by rw [lpl], by rw [lpl]; omega, by rw [hpl.out]; exact (hp.rd hx4 hc).mono (Nat.le_refl _) (by omega)⟩
    have L1 := Lib.hid (show pl.length ≤ 1099511627776 by omega)
    have L2 := Lib.hid (show (bs.drop q).length ≤ 1099511627776 by simp; omega)
    have R1 := Lib.hid (show Rd w4.drew 0 w4.drew.heap.size (.slice A' u.2.1 (c - u.1)) pl from r1)
    have H0 := Lib.hid h0
    have BW := Lib.hid bW
    have hq1 : (0 : Int) ≤ (q : Int) := Int.natCast_nonneg _
    have hq2 : (q : Int) ≤ (bs.length : Int) := by omega
    have hb1 : w.heap.size < w4.heap.size := by omega
    have hb2 : w.heap.size + 1 < w4.heap.size := by omega
    by_cases hcq : c = q
    · have r2 : Rd w4 0 w4.heap.size (.slice A 0 0) (bs.drop q) := ⟨A, 0, by simp; omega, by simp; omega, fun h => by simp at h; omega⟩
      have R2 := Lib.hid (show Rd w4.drew 0 w4.drew.heap.size (.slice A 0 0) (bs.drop q) from r2)
      subst hcq
      clear t1 s2 s3 r1 r2 hx3 hx4 hx lpl hp hul ha hb h0 hsz
      go_wp2_with fail
      go_region_held3 (fun w' => w'.cell? ⟨w.heap.size + 1, 0, none⟩ = some (.slice A' u.2.1 (c - u.1)) ∧ w'.cell? ⟨w.heap.size, 1, none⟩ = some (.int .i64 (c : Int)))
        (first
          | go_keep
          | (exact ⟨(hb5.cell (by simpa using hb2)).trans c1, (hb5.cell (by simpa using hb1)).trans c2⟩)
          | (exact ⟨(hb6.cell (Nat.lt_of_lt_of_le (by simpa using hb2) hb5.size)).trans ((hb5.cell (by simpa using hb2)).trans c1), (hb6.cell (Nat.lt_of_lt_of_le (by simpa using hb1) hb5.size)).trans ((hb5.cell (by simpa using hb1)).trans c2)⟩))
        (first
          | (go_at_call 34; (with_reducible refine (copied_any (.slice A' u.2.1 (c - u.1)) pl 0 _ R1.out L1.out (by omega) (by omega)).mono ?_); rintro e w5 ⟨v5, rfl, hown5, hb5⟩)
          | (go_at_call 34; (with_reducible refine (copied_any _ (bs.drop c) 0 _ ((R2.out.below hb5 (Nat.le_refl _)).mono (Nat.zero_le _) hb5.size) L2.out (by omega) (by omega)).mono ?_); rintro e w6 ⟨v6, rfl, hown6, hb6⟩))
      go_wp2
      refine bodyPost_ret (results_tmp3 rfl _ _ _) rfl ?_
      have hs0 : w.heap.size ≤ w4.drew.heap.size := show w.heap.size ≤ w4.heap.size from Nat.le_of_lt hb1
      refine .inr ⟨by rw [← hu.out]; exact H0.out, v5, v6, rfl, ?_, ?_, ?_⟩
      · rw [← hu.out, ← hpl.out]
        exact (hown5.below hb6).base_le hs0
      · rw [← hu.out, ← hq.out]
        exact hown6.base_le (Nat.le_trans hs0 hb5.size)
      · exact (BW.out.drew.trans (hb5.mono hs0)).trans (hb6.mono (Nat.le_trans hs0 hb5.size))
    · have hp2 : Piece A c q (A.map (fun x => x.add q)) := by unfold Piece; rw [if_neg hcq]
      have r2 : Rd w4 0 w4.heap.size (.slice (A.map (fun x => x.add q)) (bs.length - q) (c - q)) (bs.drop q) := ⟨A.map (fun x => x.add q), c - q, by simp, by simp; omega, by
        have := (hp2.rd (n := bs.length - q) hx4 hc).mono (Nat.le_refl _) (show w.heap.size ≤ w4.heap.size by omega)
        rwa [List.take_of_length_le (by simp)] at this⟩
      have R2 := Lib.hid (show Rd w4.drew 0 w4.drew.heap.size (.slice (A.map (fun x => x.add q)) (bs.length - q) (c - q)) (bs.drop q) from r2)
      clear t1 s2 s3 r1 r2 hx3 hx4 hx lpl hp hp2 hul ha hb h0 hsz
      go_wp2_with fail
      go_region_held3 (fun w' => w'.cell? ⟨w.heap.size + 1, 0, none⟩ = some (.slice A' u.2.1 (c - u.1)) ∧ w'.cell? ⟨w.heap.size, 1, none⟩ = some (.int .i64 (q : Int)))
        (first
          | go_keep
          | (exact ⟨(hb5.cell (by simpa using hb2)).trans c1, (hb5.cell (by simpa using hb1)).trans c2⟩)
          | (exact ⟨(hb6.cell (Nat.lt_of_lt_of_le (by simpa using hb2) hb5.size)).trans ((hb5.cell (by simpa using hb2)).trans c1), (hb6.cell (Nat.lt_of_lt_of_le (by simpa using hb1) hb5.size)).trans ((hb5.cell (by simpa using hb1)).trans c2)⟩))
        (first
          | (go_at_call 34; (with_reducible refine (copied_any (.slice A' u.2.1 (c - u.1)) pl 0 _ R1.out L1.out (by omega) (by omega)).mono ?_); rintro e w5 ⟨v5, rfl, hown5, hb5⟩)
          | (go_at_call 34; (with_reducible refine (copied_any _ (bs.drop q) 0 _ ((R2.out.below hb5 (Nat.le_refl _)).mono (Nat.zero_le _) hb5.size) L2.out (by omega) (by omega)).mono ?_); rintro e w6 ⟨v6, rfl, hown6, hb6⟩))
      go_wp2
      refine bodyPost_ret (results_tmp3 rfl _ _ _) rfl ?_
      have hs0 : w.heap.size ≤ w4.drew.heap.size := show w.heap.size ≤ w4.heap.size from Nat.le_of_lt hb1
      refine .inr ⟨by rw [← hu.out]; exact H0.out, v5, v6, rfl, ?_, ?_, ?_⟩
      · rw [← hu.out, ← hpl.out]
        exact (hown5.below hb6).base_le hs0
      · rw [← hu.out, ← hq.out]
        exact hown6.base_le (Nat.le_trans hs0 hb5.size)
      · exact (BW.out.drew.trans (hb5.mono hs0)).trans (hb6.mono (Nat.le_trans hs0 hb5.size))
  · have hne : (u.2.2 != 0) = true := by simp [h0]
    have bW : Below w.heap.size w w4 := by
      refine b3.trans ⟨?_, ?_, ?_, ?_, fun k hk => ?_⟩
      · exact t1.1.trans (hb.os.trans ha.grown.os)
      · exact t1.2.1.trans (hb.tape.trans ha.grown.tape)
      · exact t1.2.2.1.trans (hb.output.trans ha.grown.output)
      · have := hb.size; have := ha.size; rw [t1.2.2.2.1]; omega
      · exact (t1.2.2.2.2 k (by omega)).trans ((hb.block k (by rw [ha.size]; omega)).trans (ha.block (by omega)))
    clear t1 s2 s3
    go_wp2
    refine bodyPost_ret (results_tmp3 rfl _ _ _) rfl ?_
    exact .inl ⟨by rw [← hu.out]; exact h0, by rw [← hu.out]; rfl, bW⟩
end Go.Proofs.Ytnehchlfoidmdaa
