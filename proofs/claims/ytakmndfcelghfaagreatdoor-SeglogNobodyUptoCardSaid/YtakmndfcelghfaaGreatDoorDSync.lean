/- A made disk: a file turned; Sync. -/
import Derived.Test.YtakmndfcelghfaaGreatDoorDUsed
import Derived.Lib.SmallJoins
namespace Go.Proofs.YtakmndfcelghfaaGreatDoor
open Go.RowKit
open Go.Lib (byteCells byteCells_length)

section
variable {w : World} {tag : Nat → Option Tag} {d : Nat} {room : Int} {fs : List FileA}

theorem Holds.tagd (h : Holds w tag d room fs) : tag d = some .disk := by obtain ⟨m, bl, _, g2, _⟩ := h.struct; exact g2

/-- One file has turned: the disk still holds its files. -/
theorem Holds.refile {w' : World} {tag' : Nat → Option Tag} {m : Nat} {bl : List UInt8 → Nat} {n : List UInt8} {x y : List UInt8 × Nat} {v : Value} (h : Holds w tag d room fs)
    (g1 : w.heap[d]? = some (.cells #[.int .i64 room, .map (some m)] 42 (0, 0))) (g3 : tag m = some .map) (g4 : w.ownsMap Tryz.prog 9 ptrElem m fs.length (mapD bl fs)) (g5 : ∀ f ∈ fs, FileAt w tag bl f)
    (hl : look fs n = some x) (hb : w'.heap[bl n]? = some (.cells #[v, .int .i64 (y.2 : Int)] 168 (0, 0))) (hv : Own w' 0 v y.1) (ht : ∀ g, v.ownBlock = some g → tag' g = some (.bytes n)) (hy : y.2 ≤ y.1.length) (hbt : tag' (bl n) = some (.file n))
    (ho : ∀ k, k < w.heap.size → tag k ≠ none → tag k ≠ some (.file n) → tag k ≠ some (.bytes n) → w'.heap[k]? = w.heap[k]? ∧ tag' k = tag k) (hz : ∀ k, tag' k ≠ none → k < w'.heap.size)
    (hfit : (used fs : Int) + y.1.length ≤ room + x.1.length) : Holds w' tag' d room (setF fs n y) := by
  have hd := h.tagd
  have ed := ho d (h.tags d (by rw [hd]; simp)) (by rw [hd]; simp) (by rw [hd]; simp) (by rw [hd]; simp)
  have em := ho m (h.tags m (by rw [g3]; simp)) (by rw [g3]; simp) (by rw [g3]; simp) (by rw [g3]; simp)
  refine ⟨hz, ⟨m, bl, ed.1.trans g1, ed.2.trans hd, em.2.trans g3, ?_, fun f hf => ?_⟩, h.room0, h.room1, ?_, ?_, setF_sorted h.rise⟩
  · rw [mapD_names bl (setF_names fs n y), setF_length]
    exact owns_same g4 em.1
  · rcases mem_setF hf with rfl | ⟨hf, hn⟩
    · exact ⟨v, hb, hbt, hv, ht, hy⟩
    · refine (g5 f hf).same rfl fun k hk hkt => ?_
      rcases hkt with hkt | hkt
      · exact ho k hk (by rw [hkt]; simp) (by rw [hkt]; simp [hn]) (by rw [hkt]; simp)
      · exact ho k hk (by rw [hkt]; simp) (by rw [hkt]; simp) (by rw [hkt]; simp [hn])
  · have := used_setF h.rise y hl
    omega
  · rw [setF_length]; exact h.few

/-- What Sync makes of the files. -/
def syncF (fs : List FileA) (n : List UInt8) : List FileA := ans fs n fs fs fun x => setF fs n (x.1, x.1.length)
/-- The error of a file's name, or that there is none. -/
def codeF (fs : List FileA) (n : List UInt8) : Int := ans fs n 6 20 fun _ => 0

set_option maxRecDepth 100000 in
set_option maxHeartbeats 800000 in
theorem sync_made (h : Holds w tag d room fs) (s : ByteArray) (hs : s.size ≤ 9223372036854775807) :
    Calls Tryz.prog 119 #[.pointer (some ⟨d, 0, none⟩), .string s] w fun e w' => e = .returned (.int .i64 (codeF fs s.data.toList)) ∧ Left w tag d room (syncF fs s.data.toList) w' := by
  have HF := Lib.hid (find_made h s hs)
  obtain ⟨r, hr⟩ : ∃ r, Hid (r = codeF fs s.data.toList) := ⟨_, Lib.hid rfl⟩
  obtain ⟨gs, hgs⟩ : ∃ gs, Hid (gs = syncF fs s.data.toList) := ⟨_, Lib.hid rfl⟩
  rw [← hr.out, ← hgs.out]
  go_enter Tryz.func119, Tryz.ntmps119
  go_wp2_with fail
  (with_reducible refine HF.out.mono ?_); rintro e w1 ⟨hb, (⟨hc, rfl⟩ | ⟨hc, hl, rfl⟩ | ⟨hc, m, bl, g1, g3, g4, g5, ⟨x, hl⟩, rfl⟩)⟩
  · have e : Hid (r = 6) := Lib.hid (by rw [hr.out]; exact ans_bad hc)
    have e2 : Hid (gs = fs) := Lib.hid (by rw [hgs.out]; exact ans_bad hc)
    have HL := Lib.hid (Left.of_below h hb)
    clear hc
    go_wp2
    go_ret
    exact ⟨ret_int e.out.symm, by rw [e2.out]; exact HL.out⟩
  · have e : Hid (r = 20) := Lib.hid (by rw [hr.out]; exact ans_gone hc hl)
    have e2 : Hid (gs = fs) := Lib.hid (by rw [hgs.out]; exact ans_gone hc hl)
    have HL := Lib.hid (Left.of_below h hb)
    clear hc hl
    go_wp2
    go_ret
    exact ⟨ret_int e.out.symm, by rw [e2.out]; exact HL.out⟩
  · have e : Hid (r = 0) := Lib.hid (by rw [hr.out]; exact ans_here hc hl)
    have e2 : Hid (gs = setF fs s.data.toList (x.1, x.1.length)) := Lib.hid (by rw [hgs.out]; exact ans_here hc hl)
    have hm := look_some hl
    have hf := g5 _ hm
    obtain ⟨v, k0, k1, k2, k3, k4⟩ := hf
    have hfo := (g5 _ hm).open_
    obtain ⟨A, c, j0, j1, j2, j3⟩ := hfo
    obtain rfl : v = .slice A x.1.length c := by
      rw [k0] at j0
      simp only at j0
      injection j0 with j0
      injection j0 with j0
      have := congrArg (fun a : Array Value => a[0]?) j0
      simpa using this
    have hlt : bl s.data.toList < w.heap.size := (Array.getElem?_eq_some_iff.1 k0).1
    have q0 := (hb.block _ hlt).trans k0
    have q1 : w1.cell? ⟨bl s.data.toList, 0, none⟩ = some (.slice A x.1.length c) := (hb.cell hlt).trans j1
    have q2 : w1.cell? ⟨bl s.data.toList, 1, none⟩ = some (.int .i64 (x.2 : Int)) := (hb.cell hlt).trans j2
    have q3 : w1.frozen? ⟨bl s.data.toList, 1, none⟩ = false := frozen_of_row w1 (bl s.data.toList) 1 _ _ q0
    have HH : Hid (Left w tag d room (setF fs s.data.toList (x.1, x.1.length)) (w1.setCell ⟨bl s.data.toList, 1, none⟩ (.int .i64 (x.1.length : Int)))) := Lib.hid (by
      have hne : ∀ k, k < w.heap.size → tag k ≠ some (.file s.data.toList) → (w1.setCell ⟨bl s.data.toList, 1, none⟩ (.int .i64 (x.1.length : Int))).heap[k]? = w.heap[k]? := fun k hk hkt =>
        (Below.heap_setCell w1 ⟨bl s.data.toList, 1, none⟩ _ k (fun ek => hkt (by subst ek; exact k1))).trans (hb.block k hk)
      refine ⟨tag, h.refile (x := x) (v := .slice A x.1.length c) g1 g3 g4 g5 hl ?_ ?_ k3 (Nat.le_refl _) k1 (fun k hk _ h2 _ => ⟨hne k hk h2, rfl⟩) (fun k hk => ?_) (by simp only; have := h.fit; omega), ⟨hb.os, hb.tape, hb.output, ?_, fun k hk hn => hne k hk (by rw [hn]; simp)⟩, fun _ hk => .inl hk⟩
      · have := Joins.block_setCell q0 (i := 1) (.int .i64 (x.1.length : Int))
        simpa using this
      · exact k2.same fun g hg => hne g (k2.lt g hg).2 (by rw [k3 g hg]; simp)
      · have := h.tags k hk
        have h2 := hb.size
        simp [World.setCell]; omega
      · have h2 := hb.size
        simp [World.setCell]; omega)
    clear hc hl k0 k1 k2 k3 k4 j0 j1 j2 j3 g1 g3 g4 g5 q0 hm
    go_wp2
    go_ret
    exact ⟨ret_int e.out.symm, by rw [e2.out]; exact HH.out⟩
end
end Go.Proofs.YtakmndfcelghfaaGreatDoor
