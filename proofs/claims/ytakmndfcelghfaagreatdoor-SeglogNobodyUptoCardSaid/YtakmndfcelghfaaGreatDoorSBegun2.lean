/- A log that is opened on an empty disk: begun. -/
import Derived.Test.YtakmndfcelghfaaGreatDoorSBegun
import Derived.Test.YtakmndfcelghfaaGreatDoorDFiles
import Derived.Test.YtakmndfcelghfaaGreatDoorDRemove
import Derived.Lib.SmallJoins
import Derived.Deep.Cut
import Derived.WalkMore
namespace Go.Proofs.YtakmndfcelghfaaGreatDoor
open Go.RowKit

theorem rows_none {w : World} {base : Nat} {T : TypeId} {k : Nat} {v : Value} {xs : List Value} (h : w.ownsRow base T k v 0 xs) : ∃ A c, v = .slice A 0 c := by
  rcases h.2 with ⟨rfl, _⟩ | ⟨g, cap, cur, rfl, _⟩
  · exact ⟨_, _, rfl⟩
  · exact ⟨_, _, rfl⟩
/-- The disk behind the interface. -/
def devV (d : Nat) : Value := .iface 39 (.pointer (some ⟨d, 0, none⟩))

section
variable {w : World} {tag : Nat → Option Tag} {d : Nat} {room : Int}
set_option maxRecDepth 100000 in
set_option maxHeartbeats 1600000 in
theorem segs0_any (h : Holds w tag d room []) : Calls Tryz.prog 18 #[.agg #[.iface 39 (.pointer (some ⟨d, 0, none⟩))]] w fun e w' => e = .returned (.slice none 0 0) ∧ Below w.heap.size w w' := by
  obtain ⟨W, hW⟩ : ∃ W, Hid (W = w.alloc (.cells #[.iface 39 (.pointer (some ⟨d, 0, none⟩))] 27)) := ⟨_, Lib.hid rfl⟩
  have hb : Below w.heap.size w W := by rw [hW.out]; exact (Below.refl _ _).alloc (Nat.le_refl _) _
  have hH : Holds W tag d room [] := h.same hb.size fun k hk => hb.block k (h.tags k hk)
  have HF := Lib.hid (files_made hH)
  have c0 : W.cell? ⟨w.heap.size, 0, none⟩ = some (.iface 39 (.pointer (some ⟨d, 0, none⟩))) := by rw [hW.out]; exact World.cell?_alloc_at _ _ _ _ rfl
  have HB := Lib.hid hb
  have hWe := hW.out.symm
  clear h hb hH
  go_enter Tryz.func18, Tryz.ntmps18
  go_wp2_with fail
  clear hWe
  (with_reducible refine HF.out.mono ?_); rintro e w1 ⟨v, rfl, hown, hb1⟩
  obtain ⟨A, c, rfl⟩ := rows_none (show w1.ownsRow W.heap.size 9 1 v 0 (names []) from hown)
  have HB1 : Hid (Below w.heap.size w w1) := Lib.hid (HB.out.trans (hb1.mono HB.out.size))
  clear hown hb1
  go_wp2
  go_loopw [11, 3] (fun i a wr => (i = .int .i64 0 ∧ a = .slice none 0 0) ∧ Below w.heap.size w wr) (fun _ _ _ => 0)
  case atStart => exact ⟨⟨rfl, rfl⟩, HB1.out⟩
  case round =>
    obtain ⟨⟨rfl, rfl⟩, hb⟩ := hrel
    have HS := Lib.hid (sort0_any wr)
    have HB2 := Lib.hid hb
    clear hb
    go_wp2_with fail
    (with_reducible refine HS.out.mono ?_); rintro e w3 ⟨rfl, hb3⟩
    go_wp2
    go_ret
    exact ⟨rfl, HB2.out.trans (hb3.mono HB2.out.size)⟩

set_option maxRecDepth 100000 in
set_option maxHeartbeats 1600000 in
theorem read0_any (h : Holds w tag d room []) (r : Nat) (c0 : w.cell? ⟨r, 0, none⟩ = some (.iface 39 (.pointer (some ⟨d, 0, none⟩)))) :
    Calls Tryz.prog 28 #[.pointer (some ⟨r, 0, none⟩)] w fun e w' => e = .returned (.int .i64 0) ∧ Below w.heap.size w w' := by
  have HS := Lib.hid (segs0_any h)
  clear h
  go_enter Tryz.func28, Tryz.ntmps28
  go_wp2_with fail
  go_step3
  go_wp2_with fail
  (with_reducible refine HS.out.mono ?_); rintro e w1 ⟨rfl, hb1⟩
  have HB1 := Lib.hid hb1
  clear hb1
  go_wp2
  go_step3
  go_wp2
  go_loopw [21, 4] (fun i a wr => (i = .int .i64 0 ∧ a = .slice none 0 0) ∧ Below w.heap.size w wr) (fun _ _ _ => 0)
  case atStart => exact ⟨⟨rfl, rfl⟩, HB1.out⟩
  case round =>
    obtain ⟨⟨rfl, rfl⟩, hb⟩ := hrel
    go_wp2
    try rw [Exit.noGoto_ret]
    go_ret
    exact ⟨rfl, hb⟩

theorem log_new : codeF [] [108, 111, 103, 46, 110, 101, 119] = 20 ∧ remF [] [108, 111, 103, 46, 110, 101, 119] = [] := by decide

set_option maxRecDepth 100000 in
set_option maxHeartbeats 1600000 in
theorem runE_any {B : Nat} (h : Holds w tag d room []) (hB : High B tag) (hBw : B ≤ w.heap.size) (r : Nat) (ht : tag r = none) (hr : r < w.heap.size)
    (row : w.heap[r]? = some (.cells #[.iface 39 (.pointer (some ⟨d, 0, none⟩)), .slice none 0 0] 61 (0, 0))) :
    Calls Tryz.prog 21 #[.pointer (some ⟨r, 0, none⟩)] w fun e w' => e = .returned (.int .i64 0) ∧ Below B w w' ∧ w'.heap[r]? = w.heap[r]? := by
  have HR := remove_made h ⟨#[108, 111, 103, 46, 110, 101, 119]⟩ (by decide)
  rw [show (⟨#[108, 111, 103, 46, 110, 101, 119]⟩ : ByteArray).data.toList = [108, 111, 103, 46, 110, 101, 119] from rfl, log_new.1, log_new.2] at HR
  replace HR := Lib.hid HR
  have c0 : w.cell? ⟨r, 0, none⟩ = some (.iface 39 (.pointer (some ⟨d, 0, none⟩))) := cell_of_row w r 0 _ _ (0, 0) row
  have HROW := Lib.hid row
  clear row h
  go_enter Tryz.func21, Tryz.ntmps21
  go_wp2_with fail
  (with_reducible refine HR.out.mono ?_); rintro e w1 ⟨rfl, tag1, h1, ht1, hw1⟩
  have row1 := ht1.block r hr ht
  have HB1 : Hid (Below B w w1) := Lib.hid (ht1.below hB (Below.refl B w) hBw)
  have d0 : w1.cell? ⟨r, 0, none⟩ = some (.iface 39 (.pointer (some ⟨d, 0, none⟩))) := cell_of_row w1 r 0 _ _ (0, 0) (row1.trans HROW.out)
  have HRD := Lib.hid (read0_any h1 r d0)
  have HROW1 := Lib.hid row1
  have hs1 := ht1.size
  have H1 := Lib.hid h1
  clear row1 ht1 hw1 h1 c0 HR
  go_wp2_with fail
  (with_reducible refine HRD.out.mono ?_); rintro e w2 ⟨rfl, hb2⟩
  have h2 : Holds w2 tag1 d room [] := H1.out.same hb2.size fun k hk => hb2.block k (H1.out.tags k hk)
  have e0 : w2.cell? ⟨r, 0, none⟩ = some (.iface 39 (.pointer (some ⟨d, 0, none⟩))) := (hb2.cell (p := ⟨r, 0, none⟩) (by show r < w1.heap.size; omega)).trans d0
  have HSG := Lib.hid (segs0_any h2)
  have HB2 : Hid (Below B w w2) := Lib.hid (HB1.out.trans (hb2.mono (by omega)))
  have HROW2 := Lib.hid ((hb2.block r (by omega)).trans HROW1.out)
  have hs2 := hb2.size
  clear h2 hb2 HRD d0
  go_wp2_with fail
  (with_reducible refine HSG.out.mono ?_); rintro e w3 ⟨rfl, hb3⟩
  have HB3 : Hid (Below B w w3) := Lib.hid (HB2.out.trans (hb3.mono (by omega)))
  have HROW3 := Lib.hid ((hb3.block r (by omega)).trans HROW2.out)
  clear hb3 HSG
  go_wp2
  go_loopw [32] (fun i wr => i = .int .i64 0 ∧ Hid (Below B w wr) ∧ Hid (wr.heap[r]? = w.heap[r]?)) (fun _ _ => 0)
  case atStart => exact ⟨rfl, HB3, HROW3⟩
  case round =>
    obtain ⟨rfl, hb, hw⟩ := hrel
    go_wp2
    go_ret
    exact ⟨rfl, hb.out, hw.out⟩

set_option maxRecDepth 100000 in
set_option maxHeartbeats 1600000 in
theorem openE_any {B : Nat} (h : Holds w tag d room []) (hB : High B tag) (hBw : B ≤ w.heap.size) :
    Calls Tryz.prog 10 #[.pointer (some ⟨d, 0, none⟩)] w fun e w' => ∃ g, e = .returned (.tuple #[.pointer (some ⟨g, 0, none⟩), .slice none 0 0, .int .i64 0]) ∧ Below B w w' := by
  obtain ⟨W, hW⟩ : ∃ W, Hid (W = w.alloc (.cells #[.iface 39 (.pointer (some ⟨d, 0, none⟩)), .slice none 0 0] 61)) := ⟨_, Lib.hid rfl⟩
  have hb : Below w.heap.size w W := by rw [hW.out]; exact (Below.refl _ _).alloc (Nat.le_refl _) _
  have hlt : w.heap.size < W.heap.size := by rw [hW.out]; simp
  have hH : Holds W tag d room [] := h.same hb.size fun k hk => hb.block k (h.tags k hk)
  have htr : tag w.heap.size = none := by
    cases e : tag w.heap.size with
    | none => rfl
    | some t => have := h.tags w.heap.size (by rw [e]; simp); omega
  have row : W.heap[w.heap.size]? = some (.cells #[.iface 39 (.pointer (some ⟨d, 0, none⟩)), .slice none 0 0] 61 (0, 0)) := by rw [hW.out]; exact heap_alloc_new w _
  have HR := Lib.hid (runE_any hH hB (by omega) w.heap.size htr hlt row)
  have HB := Lib.hid (hb.mono hBw)
  have HROW := Lib.hid row
  clear h hb hH row
  go_enter Tryz.func10, Tryz.ntmps10
  go_upto_region 2 with fail
  rw [← hW.out]
  go_wp2_with fail
  (with_reducible refine HR.out.mono ?_); rintro e w1 ⟨rfl, hb1, hw1⟩
  have row1 := hw1.trans HROW.out
  have c0 : w1.cell? ⟨w.heap.size, 0, none⟩ = some (.iface 39 (.pointer (some ⟨d, 0, none⟩))) := cell_of_row w1 _ 0 _ _ (0, 0) row1
  have c1 : w1.cell? ⟨w.heap.size, 1, none⟩ = some (.slice none 0 0) := cell_of_row w1 _ 1 _ _ (0, 0) row1
  have c1d : w1.drew.cell? ⟨w.heap.size, 1, none⟩ = some (.slice none 0 0) := c1
  have c0d : w1.drew.cell? ⟨w.heap.size, 0, none⟩ = some (.iface 39 (.pointer (some ⟨d, 0, none⟩))) := c0
  have c1a : ∀ o, (w1.drew.alloc o).cell? ⟨w.heap.size, 1, none⟩ = some (.slice none 0 0) := fun o => Go.Lib.cell?_alloc_some o c1d
  have c1b : ∀ o, (w1.alloc o).cell? ⟨w.heap.size, 1, none⟩ = some (.slice none 0 0) := fun o => Go.Lib.cell?_alloc_some o c1
  have HB1 := Lib.hid (HB.out.trans hb1)
  have hs1 := hb1.size
  clear row1 hw1 hb1 HR
  go_wp2_with fail
  go_region_law (fail)
  all_goals
    go_wp2
    refine bodyPost_ret (results_tmp3 rfl _ _ _) rfl ?_
    exact ⟨_, rfl, by first | exact HB1.out.alloc (by omega) _ | exact HB1.out.drew.alloc (by show B ≤ w1.heap.size; omega) _ | exact (HB1.out.alloc (by omega) _).drew⟩
end

set_option maxRecDepth 100000 in
set_option maxHeartbeats 1600000 in
theorem begun_any (w : World) : Calls Tryz.prog 11 #[] w fun e w' => ∃ dv gv, e = .returned (.tuple #[dv, gv, .bool true]) ∧ Below w.heap.size w w' := by
  have HN := Lib.hid (new_yes 4194304 (by decide) (by decide) w)
  go_enter Tryz.func11, Tryz.ntmps11
  go_wp2_with fail
  (with_reducible refine HN.out.mono ?_); rintro e w1 ⟨hb1, d, tag, rfl, hH, hhi⟩
  have HO := Lib.hid (openE_any hH hhi hb1.size)
  have HB1 := Lib.hid hb1
  clear hH hhi hb1 HN
  go_wp2_with fail
  (with_reducible refine HO.out.mono ?_); rintro e w2 ⟨g, rfl, hb2⟩
  have HB2 := Lib.hid (HB1.out.trans hb2)
  clear hb2 HO
  go_wp2
  refine bodyPost_ret (results_tmp3 rfl _ _ _) rfl ?_
  exact ⟨_, _, rfl, HB2.out⟩
end Go.Proofs.YtakmndfcelghfaaGreatDoor
