/- The shape of a ring, and whether a ring may be: the program's answers. -/
import Derived.Test.YtmgobekdlgogmaaDoorRCan
namespace Go.Proofs.YtmgobekdlgogmaaDoor
open Go.RowKit Go.Sort Go.BigFrame
open Go.Lib (byteCells byteCells_length)

set_option maxRecDepth 100000 in
set_option maxHeartbeats 1600000 in
theorem canShape_any (p c s : Int) (A : Option Addr) (n cap : Nat) (w : World) (hT : Tabs w) (h1 : -9223372036854775808 ≤ p) (h2 : p ≤ 9223372036854775807) :
    Calls Tryd.prog 35 #[.agg #[.int .i64 p, .int .i64 c, .int .i64 s, .slice A n cap]] w fun e w' => e = .returned (.bool (okShape p c s)) ∧ Below w.heap.size w w' := by
  obtain ⟨W, hW⟩ : ∃ W, Hid (W = w.alloc (.cells #[.int .i64 p, .int .i64 c, .int .i64 s, .slice A n cap] 24)) := ⟨_, Lib.hid rfl⟩
  have HB : Hid (Below w.heap.size w W) := Lib.hid (by rw [hW.out]; exact (Below.refl _ _).alloc (Nat.le_refl _) _)
  have hTW : Tabs W := hT.below HB.out hT.big
  have k0 : W.cell? ⟨w.heap.size, 0, none⟩ = some (.int .i64 p) := by rw [hW.out]; exact box_cellR _ _ _ 0
  have k1 : W.cell? ⟨w.heap.size, 1, none⟩ = some (.int .i64 c) := by rw [hW.out]; exact box_cellR _ _ _ 1
  have k2 : W.cell? ⟨w.heap.size, 2, none⟩ = some (.int .i64 s) := by rw [hW.out]; exact box_cellR _ _ _ 2
  have HE := Lib.hid (within_any c 5 W)
  have HS := Lib.hid (within_any s 16 W)
  obtain ⟨y, hy⟩ : ∃ y, Hid (y = withinB c 5) := ⟨_, Lib.hid rfl⟩
  obtain ⟨z, hz⟩ : ∃ z, Hid (z = withinB s 16) := ⟨_, Lib.hid rfl⟩
  have HP : Hid (∃ u, Calls Tryd.prog 52 #[.int .i64 0, .int .i64 p] W fun e w' => e = .returned (.tuple #[.int .u64 u, .bool (isPow p)]) ∧ W = w') := Lib.hid (by
    cases hp : isPow p with
    | true => exact ⟨_, start_yes 0 p hp (Int.le_refl _) (by have := isPow_cases hp; omega) W hTW⟩
    | false => exact ⟨_, start_no 0 p hp h1 h2 W⟩)
  obtain ⟨x, hx⟩ : ∃ x, Hid (x = isPow p) := ⟨_, Lib.hid rfl⟩
  have E : Hid (okShape p c s = (x && y && z)) := Lib.hid (by rw [hx.out, hy.out, hz.out]; rfl)
  rw [← hx.out] at HP
  rw [← hy.out] at HE
  rw [← hz.out] at HS
  rw [E.out]
  obtain ⟨u, hP⟩ := HP.out
  have HP2 := Lib.hid hP
  have hWe := hW.out.symm
  clear hP hTW hT
  go_enter Tryd.func35, Tryd.ntmps35
  go_upto_region 1 with fail
  clear hWe
  go_wp2_with fail
  (with_reducible refine HP2.out.mono ?_); rintro e w1 ⟨rfl, rfl⟩
  cases x with
  | false =>
    go_wp2
    go_ret
    exact ⟨rfl, HB.out⟩
  | true =>
    go_wp2_with fail
    (with_reducible refine HE.out.mono ?_); rintro e w1 ⟨rfl, rfl⟩
    cases y with
    | false =>
      go_wp2
      go_ret
      exact ⟨rfl, HB.out⟩
    | true =>
      go_wp2_with fail
      (with_reducible refine HS.out.mono ?_); rintro e w1 ⟨rfl, rfl⟩
      go_wp2
      go_ret
      exact ⟨rfl, HB.out⟩

/-- A ring may be. -/
def OkR (p c s : Int) (ms : List MemA) : Prop := okShape p c s = true ∧ OkMs ms
def canN (b : Bool) : Int := if b then 0 else 60
def CanPost (P : Prop) (w : World) (e : Ending) (w' : World) : Prop := ∃ b : Bool, e = .returned (.int .i64 (canN b)) ∧ (b = true ↔ P) ∧ Below w.heap.size w w'

set_option maxRecDepth 100000 in
set_option maxHeartbeats 1600000 in
theorem can_any (p c s : Int) (v : Value) (ms : List MemA) (w : World) (hT : Tabs w) (h1 : -9223372036854775808 ≤ p) (h2 : p ≤ 9223372036854775807) (h : RdM w v ms) (hl : ms.length ≤ 4398046511104) :
    Calls Tryd.prog 12 #[.agg #[.int .i64 p, .int .i64 c, .int .i64 s, v]] w (CanPost (OkR p c s ms) w) := by
  obtain ⟨A, cap, rfl, hc, hx⟩ := h
  obtain ⟨n, hn⟩ : ∃ n, Hid (n = ms.length) := ⟨_, Lib.hid rfl⟩
  have HX := Lib.hid hx
  have HC := Lib.hid hc
  rw [← hn.out]
  obtain ⟨W, hW⟩ : ∃ W, Hid (W = w.alloc (.cells #[.int .i64 p, .int .i64 c, .int .i64 s, .slice A n cap] 24)) := ⟨_, Lib.hid rfl⟩
  have HB : Hid (Below w.heap.size w W) := Lib.hid (by rw [hW.out]; exact (Below.refl _ _).alloc (Nat.le_refl _) _)
  have hTW : Tabs W := hT.below HB.out hT.big
  have k0 : W.cell? ⟨w.heap.size, 0, none⟩ = some (.int .i64 p) := by rw [hW.out]; exact box_cellR _ _ _ 0
  have k1 : W.cell? ⟨w.heap.size, 1, none⟩ = some (.int .i64 c) := by rw [hW.out]; exact box_cellR _ _ _ 1
  have k2 : W.cell? ⟨w.heap.size, 2, none⟩ = some (.int .i64 s) := by rw [hW.out]; exact box_cellR _ _ _ 2
  have k3 : W.cell? ⟨w.heap.size, 3, none⟩ = some (.slice A n cap) := by rw [hW.out]; exact box_cellR _ _ _ 3
  have HL := Lib.hid hl
  have HLT : Hid (w.heap.size < W.heap.size) := Lib.hid (by rw [hW.out]; exact (Array.getElem?_eq_some_iff.1 (heap_alloc_new w _)).1)
  obtain ⟨x, hx'⟩ : ∃ x, Hid (x = okShape p c s) := ⟨_, Lib.hid rfl⟩
  have HS := Lib.hid (canShape_any p c s A n cap W hTW h1 h2)
  rw [← hx'.out] at HS
  have K3 := Lib.hid k3
  have hWe := hW.out.symm
  clear hTW hT hx hc hl h1 h2
  go_enter Tryd.func12, Tryd.ntmps12
  go_upto_region 1 with fail
  clear hWe
  go_wp2_with fail
  (with_reducible refine HS.out.mono ?_); rintro e w1 ⟨rfl, hb1⟩
  have HB1 : Hid (Below w.heap.size w w1) := Lib.hid (HB.out.trans (hb1.mono HB.out.size))
  cases x with
  | false =>
    go_wp2
    go_ret
    exact ⟨false, rfl, by simp [OkR, ← hx'.out], HB1.out⟩
  | true =>
    have j3 : w1.cell? ⟨w.heap.size, 3, none⟩ = some (.slice A n cap) := (hb1.cell (p := ⟨w.heap.size, 3, none⟩) HLT.out).trans K3.out
    have HM := Lib.hid (canMembers_any (.slice A n cap) ms w1 ⟨A, cap, by rw [hn.out], HC.out, (HX.out.below HB1.out (Nat.le_refl _)).mono HB1.out.size⟩ HL.out)
    clear hb1
    go_wp2_with fail
    (with_reducible refine HM.out.mono ?_); rintro e w2 ⟨b, rfl, hbi, hb2⟩
    have HB2 : Hid (Below w.heap.size w w2) := Lib.hid (HB1.out.trans (hb2.mono HB1.out.size))
    have HI := Lib.hid hbi
    clear hb2 hbi
    cases b with
    | false =>
      go_wp2
      go_ret
      exact ⟨false, rfl, by simp [OkR, ← HI.out], HB2.out⟩
    | true =>
      go_wp2
      go_ret
      exact ⟨true, rfl, by simp [OkR, ← HI.out, ← hx'.out], HB2.out⟩
end Go.Proofs.YtmgobekdlgogmaaDoor
