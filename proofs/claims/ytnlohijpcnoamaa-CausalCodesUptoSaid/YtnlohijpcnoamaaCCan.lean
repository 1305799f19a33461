/- Can: may a context be? -/
import Derived.Test.YtnlohijpcnoamaaCCloud
namespace Go.Proofs.Ytnlohijpcnoamaa
open Go.RowKit Go.Sort Go.BigFrame
open Go.Lib (byteCells byteCells_length)

/-- The context reads as these marks and dots. -/
def RdC (w : World) (v : Value) (ms ds : List DotA) : Prop := ∃ mv dv, v = .agg #[mv, dv] ∧ RdD w mv ms ∧ RdD w dv ds
theorem RdC.below {w w' : World} {v : Value} {ms ds : List DotA} (h : RdC w v ms ds) (hb : Below w.heap.size w w') : RdC w' v ms ds := by
  obtain ⟨mv, dv, e, h1, h2⟩ := h
  exact ⟨mv, dv, e, h1.below hb, h2.below hb⟩
/-- A context that may be. -/
def OkC (ms ds : List DotA) : Prop := ms.length ≤ 64 ∧ ds.length ≤ 64 ∧ OkM ms ∧ OkD ms ds

def longB (n m : Nat) : Bool := decide (64 < n) || decide (64 < m)
set_option maxRecDepth 100000 in
set_option maxHeartbeats 800000 in
theorem tooLong_any (A A1 : Option Addr) (n c n1 c1 : Nat) (w : World) : Calls Try.prog 39 #[.agg #[.slice A1 n1 c1, .slice A n c]] w fun e w' => e = .returned (.bool (longB n1 n)) ∧ Below w.heap.size w w' := by
  obtain ⟨r, hr⟩ : ∃ r, Hid (r = longB n1 n) := ⟨_, Lib.hid rfl⟩
  rw [← hr.out]
  by_cases h1 : 64 < n1
  · have E : Hid (r = true) := Lib.hid (by rw [hr.out]; unfold longB; simp [h1])
    have d1 : decide (64 < (n1 : Int)) = true := by simp; omega
    clear h1
    go_enter Try.func39, Try.ntmps39
    go_wp2
    go_ret
    exact ⟨ret_bool E.out.symm, (Below.refl _ _).alloc (Nat.le_refl _) _⟩
  by_cases h2 : 64 < n
  · have E : Hid (r = true) := Lib.hid (by rw [hr.out]; unfold longB; simp [h2])
    have d1 : decide (64 < (n1 : Int)) = false := by simp; omega
    have d2 : decide (64 < (n : Int)) = true := by simp; omega
    clear h1 h2
    go_enter Try.func39, Try.ntmps39
    go_wp2
    go_ret
    exact ⟨ret_bool E.out.symm, (Below.refl _ _).alloc (Nat.le_refl _) _⟩
  · have E : Hid (r = false) := Lib.hid (by rw [hr.out]; unfold longB; simp; omega)
    have d1 : decide (64 < (n1 : Int)) = false := by simp; omega
    have d2 : decide (64 < (n : Int)) = false := by simp; omega
    clear h1 h2
    go_enter Try.func39, Try.ntmps39
    go_wp2
    go_ret
    exact ⟨ret_bool E.out.symm, (Below.refl _ _).alloc (Nat.le_refl _) _⟩

set_option maxRecDepth 100000 in
set_option maxHeartbeats 1600000 in
theorem can_any (v : Value) (ms ds : List DotA) (w : World) (h : RdC w v ms ds) (hlm : ms.length ≤ 1099511627776) (hld : ds.length ≤ 1099511627776) : Calls Try.prog 20 #[v] w (Tells (OkC ms ds) w) := by
  obtain ⟨mv, dv, rfl, hm, hd⟩ := h
  obtain ⟨W, hW⟩ : ∃ W, Hid (W = w.alloc (.cells #[mv, dv] 25)) := ⟨_, Lib.hid rfl⟩
  have hb0 : Below w.heap.size w W := by rw [hW.out]; exact (Below.refl _ _).alloc (Nat.le_refl _) _
  have hbc : BoxC W w.heap.size mv dv := by rw [hW.out]; exact ⟨box_cell _ _ _ 0, box_cell _ _ _ 1⟩
  have hlt0 : w.heap.size < W.heap.size := by rw [hW.out]; simp
  have HM := Lib.hid (hm.below hb0)
  have HD := Lib.hid (hd.below hb0)
  have HB := Lib.hid hb0
  obtain ⟨A, c, rfl, hc, _⟩ := hd
  obtain ⟨A1, c1, rfl, hc1, _⟩ := hm
  have HT := Lib.hid (tooLong_any A A1 ds.length c ms.length c1 W)
  have HC := Lib.hid hbc
  have hWe := hW.out.symm
  have b0 := hbc.1
  have b1 := hbc.2
  obtain ⟨n, hn⟩ : ∃ n, Hid (n = ds.length) := ⟨_, Lib.hid rfl⟩
  obtain ⟨n1, hn1⟩ : ∃ n1, Hid (n1 = ms.length) := ⟨_, Lib.hid rfl⟩
  rw [← hn.out, ← hn1.out] at HT HC hWe ⊢
  rw [← hn1.out] at b0
  rw [← hn.out] at b1
  rw [← hn.out] at HD hc hld
  rw [← hn1.out] at HM hc1 hlm
  clear hb0 hbc hW
  by_cases hlong : n1 ≤ 64 ∧ n ≤ 64
  · have el : longB n1 n = false := by unfold longB; simp; omega
    rw [el] at HT
    have HL := Lib.hid hlong
    clear el hlong
    go_enter Try.func20, Try.ntmps20
    go_wp2_with fail
    clear hWe
    (with_reducible refine HT.out.mono ?_); rintro e w1 ⟨rfl, hb1⟩
    have c1' := hb1.cell (p := ⟨w.heap.size, 0, none⟩) hlt0
    have c0 : w1.cell? ⟨w.heap.size, 0, none⟩ = some (.slice A1 n1 c1) := c1'.trans b0
    have c2 : w1.cell? ⟨w.heap.size, 1, none⟩ = some (.slice A n c) := (hb1.cell (p := ⟨w.heap.size, 1, none⟩) hlt0).trans b1
    have HM1 := Lib.hid (HM.out.below hb1)
    have HD1 := Lib.hid (HD.out.below hb1)
    have HB1 := Lib.hid (HB.out.trans (hb1.mono HB.out.size))
    have HK := Lib.hid (canMarks_any _ ms w1 HM1.out (by rw [← hn1.out]; omega))
    have hlt1 : w.heap.size < w1.heap.size := Nat.lt_of_lt_of_le hlt0 hb1.size
    clear hb1 c1'
    go_wp2_with fail
    (with_reducible refine HK.out.mono ?_); rintro e w2 ⟨b, rfl, hbm, hb2⟩
    have HB2 := Lib.hid (HB1.out.trans (hb2.mono HB1.out.size))
    cases b with
    | false =>
      have HN : Hid (¬ OkC ms ds) := Lib.hid (fun h => by have := hbm.2 h.2.2.1; cases this)
      clear hbm hb2
      go_wp2
      go_ret
      exact ⟨false, rfl, by simp [HN.out], HB2.out⟩
    | true =>
      have HOM := Lib.hid (hbm.1 rfl)
      have HK2 := Lib.hid (canCloud_any _ _ ms ds w2 (HM1.out.below hb2) (HD1.out.below hb2) (by rw [← hn1.out]; omega) (by rw [← hn.out]; omega) HOM.out)
      have e0 : w2.cell? ⟨w.heap.size, 0, none⟩ = some (.slice A1 n1 c1) := (hb2.cell (p := ⟨w.heap.size, 0, none⟩) hlt1).trans c0
      have e1 : w2.cell? ⟨w.heap.size, 1, none⟩ = some (.slice A n c) := (hb2.cell (p := ⟨w.heap.size, 1, none⟩) hlt1).trans c2
      clear hbm hb2 c0 c2
      go_wp2_with fail
      (with_reducible refine HK2.out.mono ?_); rintro e w3 ⟨b, rfl, hbd, hb3⟩
      have HB3 := Lib.hid (HB2.out.trans (hb3.mono HB2.out.size))
      have HI : Hid (b = true ↔ OkC ms ds) := Lib.hid ⟨fun h => ⟨by rw [← hn1.out]; exact HL.out.1, by rw [← hn.out]; exact HL.out.2, HOM.out, hbd.1 h⟩, fun h => hbd.2 h.2.2.2⟩
      clear hbd hb3
      go_wp2
      go_ret
      exact ⟨b, rfl, HI.out, HB3.out⟩
  · have el : longB n1 n = true := by unfold longB; simp; omega
    rw [el] at HT
    have HN : Hid (¬ OkC ms ds) := Lib.hid (fun h => hlong ⟨by rw [hn1.out]; exact h.1, by rw [hn.out]; exact h.2.1⟩)
    clear el hlong
    go_enter Try.func20, Try.ntmps20
    go_wp2_with fail
    clear hWe
    (with_reducible refine HT.out.mono ?_); rintro e w1 ⟨rfl, hb1⟩
    have HB1 := Lib.hid (HB.out.trans (hb1.mono HB.out.size))
    clear hb1
    go_wp2
    go_ret
    exact ⟨false, rfl, by simp [HN.out], HB1.out⟩
end Go.Proofs.Ytnlohijpcnoamaa
