/- Calls of a made disk: New, Room, Size, Read, Sync. -/
import Derived.Test.YtakmndfcelghfaaGreatDoorDCopied
import Derived.Test.YtakmndfcelghfaaGreatDoorDList
namespace Go.Proofs.YtakmndfcelghfaaGreatDoor
open Go.RowKit
open Go.Lib (byteCells byteCells_length)

/-- What New leaves. -/
def NewPost (room : Int) (w : World) (e : Ending) (w' : World) : Prop :=
  Below w.heap.size w w' ∧ ∃ d tag, e = .returned (.tuple #[.pointer (some ⟨d, 0, none⟩), .int .i64 0]) ∧ Holds w' tag d room [] ∧ ∀ k, tag k ≠ none → w.heap.size ≤ k

set_option maxRecDepth 100000 in
theorem new_yes (room : Int) (h0 : 0 ≤ room) (h1 : room ≤ 16777216) (w : World) : Calls Tryz.prog 22 #[.int .i64 room] w (NewPost room w) := by
  have hmm := @run_makeMap Tryz.prog
  have d0 : decide (room < 0) = false := by simp; omega
  have d1 : decide (16777216 < room) = false := by simp; omega
  have hb : Below w.heap.size w ((w.alloc (.map #[] 0)).alloc (.cells #[.int .i64 room, .map (some w.heap.size)] 42)) := ((Below.refl _ w).alloc (Nat.le_refl _) _).alloc (by simp) _
  have hh : Holds ((w.alloc (.map #[] 0)).alloc (.cells #[.int .i64 room, .map (some w.heap.size)] 42)) (fun k => if k = w.heap.size + 1 then some .disk else if k = w.heap.size then some .map else none) (w.heap.size + 1) room [] := by
    refine ⟨fun k hk => ?_, ⟨w.heap.size, fun _ => 0, ?_, by simp, by simp, ?_, by simp⟩, h0, h1, by simpa [used] using h0, by simp, by simp [Sorted]⟩
    · simp only [ne_eq] at hk
      split at hk
      · simp; omega
      · split at hk
        · simp; omega
        · simp at hk
    · have := heap_alloc_new (w.alloc (.map #[] 0)) (.cells #[.int .i64 room, .map (some w.heap.size)] 42)
      simpa using this
    · exact (World.ownsMap_made w Tryz.prog 9 ptrElem).alloc _
  have HB := Lib.hid hb
  have HH := Lib.hid hh
  clear hb hh
  go_enter Tryz.func22, Tryz.ntmps22
  go_wp2
  go_ret2
  exact ⟨HB.out, _, _, rfl, HH.out, fun k hk => by
    simp only [ne_eq] at hk
    split at hk
    · omega
    · split at hk
      · omega
      · simp at hk⟩
theorem new_no (room : Int) (h : room < 0 ∨ 16777216 < room) (w : World) : Calls Tryz.prog 22 #[.int .i64 room] w fun e w' => e = .returned (.tuple #[.pointer none, .int .i64 1]) ∧ w = w' := by
  by_cases hn : room < 0
  · clear h
    go_enter Tryz.func22, Tryz.ntmps22
    go_wp2
    go_ret2
    exact ⟨rfl, rfl⟩
  · have h1 : 16777216 < room := by omega
    clear h
    go_enter Tryz.func22, Tryz.ntmps22
    go_wp2
    go_ret2
    exact ⟨rfl, rfl⟩

section
variable {w : World} {tag : Nat → Option Tag} {d : Nat} {room : Int} {fs : List FileA}

/-- A file's two cells, as slices show. -/
theorem FileAt.open_ {bl : List UInt8 → Nat} {f : FileA} (h : FileAt w tag bl f) : ∃ A c, w.heap[bl f.1]? = some (.cells #[.slice A f.2.1.length c, .int .i64 (f.2.2 : Int)] 168 (0, 0)) ∧ w.cell? ⟨bl f.1, 0, none⟩ = some (.slice A f.2.1.length c) ∧ w.cell? ⟨bl f.1, 1, none⟩ = some (.int .i64 (f.2.2 : Int)) ∧
    Rd w 0 w.heap.size (.slice A f.2.1.length c) f.2.1 := by
  obtain ⟨v, h1, h2, h3, h4, h5⟩ := h
  obtain ⟨A, c, rfl, hc, hx⟩ := h3.rd
  have hr := fun i => cell_of_row w (bl f.1) i _ _ (0, 0) h1
  exact ⟨A, c, h1, hr 0, hr 1, ⟨A, c, rfl, hc, hx⟩⟩

/-- The three numbers that Size tells. -/
def sizeA (fs : List FileA) (n : List UInt8) : Int × Int × Int := ans fs n (0, 0, 6) (0, 0, 20) fun x => ((x.1.length : Int), (x.2 : Int), 0)

set_option maxRecDepth 100000 in
set_option maxHeartbeats 800000 in
theorem size_made (h : Holds w tag d room fs) (s : ByteArray) (hs : s.size ≤ 9223372036854775807) :
    Calls Tryz.prog 118 #[.pointer (some ⟨d, 0, none⟩), .string s] w fun e w' => e = .returned (.tuple #[.int .i64 (sizeA fs s.data.toList).1, .int .i64 (sizeA fs s.data.toList).2.1, .int .i64 (sizeA fs s.data.toList).2.2]) ∧ Below w.heap.size w w' := by
  have HF := Lib.hid (find_made h s hs)
  obtain ⟨r, hr⟩ : ∃ r, Hid (r = sizeA fs s.data.toList) := ⟨_, Lib.hid rfl⟩
  rw [← hr.out]
  go_enter Tryz.func118, Tryz.ntmps118
  go_wp2_with fail
  (with_reducible refine HF.out.mono ?_); rintro e w1 ⟨hb, (⟨hc, rfl⟩ | ⟨hc, hl, rfl⟩ | ⟨hc, m, bl, g1, g3, g4, g5, ⟨x, hl⟩, rfl⟩)⟩
  · have e : Hid (r = (0, 0, 6)) := Lib.hid (by rw [hr.out]; exact ans_bad hc)
    have HC := Lib.hid hc
    clear hc
    go_wp2
    refine bodyPost_ret (results_tmp3 rfl _ _ _) rfl ?_
    exact ⟨by rw [e.out]; rfl, hb⟩
  · have e : Hid (r = (0, 0, 20)) := Lib.hid (by rw [hr.out]; exact ans_gone hc hl)
    have HC := Lib.hid hc
    have HL := Lib.hid hl
    clear hc hl
    go_wp2
    refine bodyPost_ret (results_tmp3 rfl _ _ _) rfl ?_
    exact ⟨by rw [e.out]; rfl, hb⟩
  · have e : Hid (r = ((x.1.length : Int), (x.2 : Int), 0)) := Lib.hid (by rw [hr.out]; exact ans_here hc hl)
    have hf := g5 _ (look_some hl)
    obtain ⟨A, c, k0, k1, k2, k3⟩ := hf.open_
    have hlt : bl s.data.toList < w.heap.size := (Array.getElem?_eq_some_iff.1 k0).1
    have q1 : w1.cell? ⟨bl s.data.toList, 0, none⟩ = some (.slice A x.1.length c) := (hb.cell hlt).trans k1
    have q2 : w1.cell? ⟨bl s.data.toList, 1, none⟩ = some (.int .i64 (x.2 : Int)) := (hb.cell hlt).trans k2
    have HC := Lib.hid hc
    have HL := Lib.hid hl
    clear hc hl k0 k1 k2 k3 hf g1 g4 g5 g3
    go_wp2
    go_quiet (fail)
    go_wp2
    refine bodyPost_ret (results_tmp3 rfl _ _ _) rfl ?_
    exact ⟨by rw [e.out]; rfl, below_drewN hb _⟩

/-- What Read leaves: the bytes, in memory of their own. -/
def ReadPost (fs : List FileA) (n : List UInt8) (w : World) (e : Ending) (w' : World) : Prop :=
  Below w.heap.size w w' ∧ ((canS n = false ∧ e = .returned (.tuple #[.slice none 0 0, .int .i64 6])) ∨ (canS n = true ∧ look fs n = none ∧ e = .returned (.tuple #[.slice none 0 0, .int .i64 20])) ∨
    (canS n = true ∧ ∃ x v, look fs n = some x ∧ e = .returned (.tuple #[v, .int .i64 0]) ∧ Own w' w.heap.size v x.1))

set_option maxRecDepth 100000 in
set_option maxHeartbeats 800000 in
theorem read_made (h : Holds w tag d room fs) (s : ByteArray) (hs : s.size ≤ 9223372036854775807) :
    Calls Tryz.prog 114 #[.pointer (some ⟨d, 0, none⟩), .string s] w (ReadPost fs s.data.toList w) := by
  have HF := Lib.hid (find_made h s hs)
  have hroom := h.room1
  have hfit := h.fit
  go_enter Tryz.func114, Tryz.ntmps114
  go_wp2_with fail
  (with_reducible refine HF.out.mono ?_); rintro e w1 ⟨hb, (⟨hc, rfl⟩ | ⟨hc, hl, rfl⟩ | ⟨hc, m, bl, g1, g3, g4, g5, ⟨x, hl⟩, rfl⟩)⟩
  · have HC := Lib.hid hc
    clear hc
    go_wp2
    go_ret2
    exact ⟨hb, .inl ⟨HC.out, rfl⟩⟩
  · have HC := Lib.hid hc
    have HL := Lib.hid hl
    clear hc hl
    go_wp2
    go_ret2
    exact ⟨hb, .inr (.inl ⟨HC.out, HL.out, rfl⟩)⟩
  · have hm := look_some hl
    have hf := g5 _ hm
    obtain ⟨A, c, k0, k1, k2, k3⟩ := hf.open_
    have hlt : bl s.data.toList < w.heap.size := (Array.getElem?_eq_some_iff.1 k0).1
    have q0 := (hb.block _ hlt).trans k0
    have hu := used_mem hm
    have HC := Lib.hid hc
    have HL := Lib.hid hl
    have HP := Lib.hid (copied_any _ _ x.1 _ w1 q0 ((k3.below hb (Nat.le_refl _)).mono (Nat.le_refl _) hb.size) (by simp only at hu; omega))
    clear hc hl k0 k1 k2 k3 hf g1 g4 g5 g3 q0 hm
    go_wp2_with fail
    (with_reducible refine HP.out.mono ?_); rintro e w2 ⟨g, v, rfl, r1, r2, r3, r4, r5⟩
    have c0 : w2.cell? ⟨g, 0, none⟩ = some v := cell_of_row w2 g 0 _ _ (0, 0) r1
    go_wp2
    go_ret2
    exact ⟨hb.trans (r5.mono hb.size), .inr (.inr ⟨HC.out, x, v, HL.out, rfl, r2.base_le hb.size⟩)⟩
end
end Go.Proofs.YtakmndfcelghfaaGreatDoor
