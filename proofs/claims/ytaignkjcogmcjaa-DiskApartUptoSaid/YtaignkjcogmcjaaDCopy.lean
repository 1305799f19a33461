/- A made disk: Copy. -/
import Derived.Test.YtaignkjcogmcjaaDCopyM
import Derived.Test.YtaignkjcogmcjaaDCrash
import Derived.Test.YtaignkjcogmcjaaDBegun
import Derived.Deep.Cut
namespace Go.Proofs.Ytaignkjcogmcjaa
open Go.RowKit
open Go.Lib (byteCells byteCells_length)

/-- What Copy leaves: a disk of the call's own with the same files. -/
def NewDisk (w : World) (room : Int) (fs : List FileA) (e : Ending) (w' : World) : Prop := ∃ c tag', e = .returned (.pointer (some ⟨c, 0, none⟩)) ∧ Has w room c tag' fs w'

section
variable {w : World} {tag : Nat → Option Tag} {d : Nat} {room : Int} {fs : List FileA}

set_option maxRecDepth 100000 in
set_option maxHeartbeats 3200000 in
theorem copy_made (h : Holds w tag d room fs) : Calls Try.prog 15 #[.pointer (some ⟨d, 0, none⟩)] w (NewDisk w room fs) := by
  have HM := Lib.hid (made_yes h)
  have hmm := @run_makeMap Try.prog
  obtain ⟨m, bl, g1, g2, g3, g4, g5⟩ := h.struct
  have c0 : w.cell? ⟨d, 0, none⟩ = some (.int .i64 room) := cell_of_row w d 0 _ _ (0, 0) g1
  have hb : Below w.heap.size w ((w.alloc (.map #[] 0)).alloc (.cells #[.int .i64 room, .map (some w.heap.size)] 43)) := ((Below.refl _ w).alloc (Nat.le_refl _) _).alloc (by simp) _
  obtain ⟨W, hW⟩ : ∃ W, W = (w.alloc (.map #[] 0)).alloc (.cells #[.int .i64 room, .map (some w.heap.size)] 43) := ⟨_, rfl⟩
  have hdlt := h.tags d (by rw [g2]; simp)
  have hmlt := h.tags m (by rw [g3]; simp)
  have hzW : W.heap.size = w.heap.size + 2 := by rw [hW]; simp
  have hnew : Holds W (fun k => if k = w.heap.size + 1 then some .disk else if k = w.heap.size then some .map else none) (w.heap.size + 1) room [] := by
    rw [hW]
    refine ⟨fun k hk => ?_, ⟨w.heap.size, fun _ => 0, ?_, by simp, by simp, ?_, by simp⟩, h.room0, h.room1, by simpa [used] using h.room0, by simp, by simp [Sorted]⟩
    · simp only [ne_eq] at hk
      split at hk
      · simp; omega
      · split at hk
        · simp; omega
        · simp at hk
    · have := heap_alloc_new (w.alloc (.map #[] 0)) (.cells #[.int .i64 room, .map (some w.heap.size)] 43)
      simpa using this
    · exact (World.ownsMap_made w Try.prog 9 ptrElem).alloc _
  rw [← hW] at hb
  have c1 : W.cell? ⟨d, 1, none⟩ = some (.map (some m)) := cell_of_row W d 1 _ _ (0, 0) ((hb.block d hdlt).trans g1)
  have g4W := owns_same g4 (hb.block m hmlt)
  have HW := Lib.hid hW
  have HNEW := Lib.hid hnew
  have HB := Lib.hid hb
  have HZ := Lib.hid hzW
  have hzW1 : w.heap.size + 2 ≤ W.heap.size := by omega
  have G5 := Lib.hid g5
  have hrise := Lib.hid h.rise
  have hfit := h.fit
  have hfew := h.few
  have hr1 := h.room1
  clear hnew hb hzW g1 g4 g5 hW
  go_enter Try.func15, Try.ntmps15
  go_wp2_with fail
  (with_reducible refine HM.out.mono ?_); rintro e w' ⟨rfl, rfl⟩
  go_upto_region 4 with fail
  rw [← HW.out]
  go_wp2_with (at_range; refine wpList_range_own _ rfl _ 41 rfl 9 80 law9 Try.underlying41 ptrElem m fs.length _ rfl g4W ?_; intro w0 hrg0 hg0 hs0)
  go_frame
  have hh0 : Holds w0 (fun k => if k = w.heap.size + 1 then some .disk else if k = w.heap.size then some .map else none) (w.heap.size + 1) room [] := HNEW.out.same hg0.size fun k hk => hg0.block k (HNEW.out.tags k hk) (by simp)
  have hb0 : Below w.heap.size w w0 := HB.out.trans ⟨hg0.os, hg0.tape, hg0.output, hg0.size, fun k hk => hg0.block k (by omega) (by simp)⟩
  go_loopw [] (fun wr => ∃ (left : Lit → Bool) (cnt : Nat) (tag' : Nat → Option Tag), wr.ranges Try.prog 9 ptrElem m W.heap.size fs.length (mapD bl fs) left cnt ∧ Holds wr tag' (w.heap.size + 1) room (doneF fs left) ∧ (∀ k, tag' k ≠ none → w.heap.size ≤ k) ∧ tag' W.heap.size = none ∧ Below w.heap.size w wr ∧ W.heap.size < wr.heap.size) (fun wr => wr.rangeLeft m W.heap.size)
  case atStart =>
    refine ⟨_, _, fun k => if k = w.heap.size + 1 then some .disk else if k = w.heap.size then some .map else none, hrg0, ?_, fun k hk => ?_, ?_, hb0, by omega⟩
    · rw [doneF_start fun f hf => hlit fs bl f hf]
      exact hh0
    · simp only [ne_eq] at hk
      split at hk
      · omega
      · split at hk
        · omega
        · simp at hk
    · have := HZ.out
      simp only
      rw [if_neg (by omega), if_neg (by omega)]
  case round =>
    obtain ⟨left, cnt, tag', hrg, hh, hlo, hr0, hbr, hz⟩ := hrel
    have HH := Lib.hid hh
    have HLO := Lib.hid hlo
    have HBR := Lib.hid hbr
    have HR0 := Lib.hid hr0
    clear hh hlo hbr hr0 hb0 hh0
    go_wp2_with (at_next; refine wpList_next_files2 _ rfl _ rfl bl fs m W.heap.size _ _ _ rfl hrg ?_ ?_)
    · intro hc0 hl0
      have HE : Hid (Has w room (w.heap.size + 1) tag' fs wr) := Lib.hid ⟨by have := HH.out; rw [doneF_end hl0] at this; exact this, HBR.out, HLO.out⟩
      clear hl0
      go_wp2
      go_ret
      exact ⟨_, tag', rfl, HE.out⟩
    · intro s x1 x2 w1 cnt1 hsz hlk hleft hrg1 hlt hg1 hs1 hen
      have hh1 : Holds w1 tag' (w.heap.size + 1) room (doneF fs left) := HH.out.same hg1.size fun k hk => hg1.block k (HH.out.tags k hk) (fun e => by injection e with e; rw [e] at hk; exact hk HR0.out)
      have hb1 : Below w.heap.size w w1 := HBR.out.trans ⟨hg1.os, hg1.tape, hg1.output, hg1.size, fun k hk => hg1.block k (by have := HBR.out.size; omega) (fun e => by injection e with e; omega)⟩
      obtain ⟨v0, k0, k1, k2, k3, k4⟩ := G5.out _ (look_some hlk)
      simp only at k0 k2 k4
      have hblt : bl s.data.toList < w.heap.size := (Array.getElem?_eq_some_iff.1 k0).1
      have k0' := (hb1.block _ hblt).trans k0
      have hx16 : x1.length ≤ 16777216 := by
        have h1 := used_mem (look_some hlk)
        simp only at h1
        omega
      have HC := Lib.hid (copied_any (bl s.data.toList) v0 x1 (x2 : Int) w1.drew k0' ((k2.rd.below hb1 (Nat.le_refl _)).mono (Nat.le_refl _) hb1.size) (by omega))
      obtain ⟨m2, bl2, j1, j2, j3, j4, j5⟩ := hh1.struct
      have q1 : w1.cell? ⟨w.heap.size + 1, 1, none⟩ = some (.map (some m2)) := cell_of_row w1 _ 1 _ _ (0, 0) j1
      have hclt := hh1.tags _ (show tag' (w.heap.size + 1) ≠ none by rw [j2]; simp)
      have hm2lt := hh1.tags _ (show tag' m2 ≠ none by rw [j3]; simp)
      have hcm : m2 ≠ w.heap.size + 1 := fun e => by rw [e, j2] at j3; cases j3
      have hrm := doneF_room hrise.out hlk hleft
      have hgl := doneF_look (fs := fs) hleft
      have hstep := doneF_step hleft hrise.out hlk
      simp only at hrm
      have HH1 : Hid (Holds w1.drew tag' (w.heap.size + 1) room (doneF fs left)) := Lib.hid (hh1.same (Nat.le_refl _) fun _ _ => rfl)
      have HB1 := Lib.hid hb1
      have HRM := Lib.hid hrm
      have HGL := Lib.hid hgl
      have HST := Lib.hid hstep
      have J1 := Lib.hid j1
      have J3 := Lib.hid j3
      have J4 := Lib.hid j4
      have J5 : Hid (∀ f ∈ doneF fs left, FileAt w1.drew tag' bl2 f) := Lib.hid (fun f hf => (j5 f hf).same rfl fun _ _ _ => ⟨rfl, rfl⟩)
      have hle : w1.rangeLeft m W.heap.size < wr.rangeLeft m W.heap.size := by rw [hrg1.left_eq, hrg.left_eq]; exact hlt
      have HLE := Lib.hid hle
      have hn64 : (doneF fs left).length < 64 := by omega
      clear hh1 hb1 k0 k0' k1 k2 k3 hstep hrm hgl j1 j2 j3 j4 j5 hle hleft hlk
      go_upto_region 7 with fail
      go_region_held3 (fun w' => w'.cell? ⟨w.heap.size + 1, 1, none⟩ = some (.map (some m2)))
        (first | go_keep | exact q1 | exact q2 | exact q4)
        (first | (go_at_call 43
                  (with_reducible refine HC.out.mono ?_); rintro e w2 ⟨g, v, rfl, l0, l1, l2, l3, l4⟩
                  have q2 : w2.cell? ⟨w.heap.size + 1, 1, none⟩ = some (.map (some m2)) := (l4.cell (p := ⟨w.heap.size + 1, 1, none⟩) hclt).trans q1
                  obtain ⟨w4, hrun, hown4, hg4⟩ := (owns_same J4.out (l4.block m2 hm2lt)).update law9 Try.underlying41 (by unfold maxLen; omega) (WideMaps.keyOf_string_mk Try.underlying9 hsz) (ptrElem_mk g)
                  have q4 : w4.cell? ⟨w.heap.size + 1, 1, none⟩ = some (.map (some m2)) := (World.cell?_of_block (a := ⟨w.heap.size + 1, 1, none⟩) (hg4.block _ (Nat.lt_of_lt_of_le hclt l4.size) (fun e => by injection e with e; exact hcm e.symm))).trans q2))
      have hown5 : w4.ownsMap Try.prog 9 ptrElem m2 ((doneF fs left).length + 1) (mapD (upd bl2 s.data.toList g) (insF (s.data.toList, x1, x2) (doneF fs left))) := by
        rw [mapD_put bl2 _ _ g (x1, x2), place_gone _ HGL.out] at hown4
        exact hown4
      obtain ⟨tag2, n1, n2, n3⟩ := copy_step (n := s.data.toList) (x := (x1, x2)) HH1.out J1.out J3.out J5.out HGL.out l0 l1 l2 l3 l4 k4 hown5 hg4 (by have := HRM.out; simp only; omega) hn64
      rw [← HST.out] at n1
      have hrg4 := ranges_same hrg1 (n3 m (by show m < w1.heap.size; have := HB1.out.size; omega) (by
        cases e : tag' m with
        | none => rfl
        | some t => have := HLO.out m (by rw [e]; simp); omega)).2 (n3 W.heap.size (by show W.heap.size < w1.heap.size; omega) HR0.out).2
      have hb4 : Below w.heap.size w w4 := HB1.out.trans ⟨hg4.os.trans l4.os, hg4.tape.trans l4.tape, hg4.output.trans l4.output, Nat.le_trans l4.size hg4.size, fun k hk => (n3 k (Nat.lt_of_lt_of_le hk HB1.out.size) (by
        cases e : tag' k with
        | none => rfl
        | some t => have := HLO.out k (by rw [e]; simp); omega)).2⟩
      have hlo2 : ∀ k, tag2 k ≠ none → w.heap.size ≤ k := fun k hk => by
        rcases n2 k hk with e | e
        · exact HLO.out k e
        · exact Nat.le_trans HB1.out.size e
      have hr2 := (n3 W.heap.size (by show W.heap.size < w1.heap.size; omega) HR0.out).1
      have hz4 : W.heap.size < w4.heap.size := by
        have h1 := l4.size
        have h2 := hg4.size
        have h3 : w1.drew.heap.size = w1.heap.size := rfl
        omega
      have HLT : w4.rangeLeft m W.heap.size < wr.rangeLeft m W.heap.size := by rw [hrg4.left_eq]; rw [hrg1.left_eq] at HLE; exact HLE.out
      clear hrun hown4 hown5 hg4 n2 n3 l0 l1 l2 l3 l4
      go_wp2
      go_roundw
      case rel => exact ⟨_, _, tag2, hrg4, n1, hlo2, hr2, hb4, hz4⟩
      case measure => exact HLT
end
end Go.Proofs.Ytaignkjcogmcjaa
