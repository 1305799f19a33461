/- A script that came in: what lies in memory, and how much it is. -/
import Derived.Test.YtaignkjcogmcjaaDCall
import Derived.Test.YtaignkjcogmcjaaDOpen
namespace Go.Proofs.Ytaignkjcogmcjaa
open Go.ChangeShapes Go.WideShapes Go.ChangeAt Go.RowKit Go.Deep
open Go.Lib (byteCells byteCells_length)

/-- The slice value reads as these steps. -/
def RdDos (w : World) (v : Value) (os : List DoA) : Prop :=
  ∃ A c, v = .slice A os.length c ∧ os.length ≤ c ∧ ∀ j (o : DoA), os[j]? = some o → ∃ (ad : Addr) (vb vt : Value), A = some ad ∧ ad.block < w.heap.size ∧ w.cell? (ad.add (j * 5)) = some (.int .i64 o.op) ∧
    w.cell? ⟨(ad.add (j * 5)).block, (ad.add (j * 5)).off + 1, none⟩ = some (.string o.nm) ∧ w.cell? ⟨(ad.add (j * 5)).block, (ad.add (j * 5)).off + 2, none⟩ = some (.string o.ot) ∧ w.cell? ⟨(ad.add (j * 5)).block, (ad.add (j * 5)).off + 3, none⟩ = some vb ∧
    w.cell? ⟨(ad.add (j * 5)).block, (ad.add (j * 5)).off + 4, none⟩ = some vt ∧ DoIn w o vb vt
theorem RdDos.same {w w' : World} {v : Value} {os : List DoA} (h : RdDos w v os) (hb : Below w.heap.size w w') : RdDos w' v os := by
  obtain ⟨A, c, e, hc, hx⟩ := h
  refine ⟨A, c, e, hc, fun j o hj => ?_⟩
  obtain ⟨ad, vb, vt, e1, h0, h1, h2, h3, h4, h5, h6⟩ := hx j o hj
  have hbl : (ad.add (j * 5)).block < w.heap.size := by rw [add_block]; exact h0
  exact ⟨ad, vb, vt, e1, Nat.lt_of_lt_of_le h0 hb.size, (hb.cell hbl).trans h1, (hb.cell (p := ⟨_, _, none⟩) hbl).trans h2, (hb.cell (p := ⟨_, _, none⟩) hbl).trans h3, (hb.cell (p := ⟨_, _, none⟩) hbl).trans h4, (hb.cell (p := ⟨_, _, none⟩) hbl).trans h5, h6.below hb⟩

section
variable {H : Type} {enc : TypeId × Value → H}
theorem cellsDo : Try.prog.cellsOf 34 = 5 := by kernel_rfl
theorem cellsTears : Try.prog.cellsOf 32 = 1 := by kernel_rfl

set_option maxRecDepth 100000 in
/-- A script that came in. -/
theorem trod_dos {W : World} {fuel : Nat} {v : Value} {y : DataW H × List MemPlace} (h : DataW.trod enc Try.prog W 0 (fun _ => true) true fuel 22 [v] = some y) (hbk : Rows.uptoBulk y.1 ≤ 1048576) :
    ∃ os : List DoA, RdDos W v os ∧ os.length + 1 ≤ Rows.uptoBulk y.1 := by
  rcases open_slice Try.underlying22 h with ⟨hcs, hx⟩ | ⟨a, len, cap, m, n, D, Pl, hcs, _, hl, hm, hmm, hx, hi⟩
  · simp at hcs
    subst hcs
    subst hx
    exact ⟨[], ⟨none, 0, rfl, Nat.le_refl _, fun j t hj => by simp at hj⟩, by simp [Rows.uptoBulk]⟩
  · simp at hcs
    subst hcs
    subst hx
    simp only [if_true] at hmm
    rw [cellsDo] at hi
    have hel : ∀ (i u : Nat), (List.range len)[i]? = some u → ∃ o : DoA, ∃ (vb vt : Value), a.block < W.heap.size ∧ W.cell? (a.add (i * 5)) = some (.int .i64 o.op) ∧
        W.cell? ⟨(a.add (i * 5)).block, (a.add (i * 5)).off + 1, none⟩ = some (.string o.nm) ∧ W.cell? ⟨(a.add (i * 5)).block, (a.add (i * 5)).off + 2, none⟩ = some (.string o.ot) ∧ W.cell? ⟨(a.add (i * 5)).block, (a.add (i * 5)).off + 3, none⟩ = some vb ∧
        W.cell? ⟨(a.add (i * 5)).block, (a.add (i * 5)).off + 4, none⟩ = some vt ∧ DoIn W o vb vt := by
      intro i u hu
      have hi1 : i < len := by
        have := (List.getElem?_eq_some_iff.1 hu).1
        simpa using this
      obtain ⟨cs', hc, ht⟩ := hi i (by omega)
      obtain ⟨_, hcl, hat⟩ := World.cells?_some hc
      have hDb : Rows.uptoBulk (D i) ≤ 1048576 := by
        have hmem : D i ∈ (List.range len).map D := List.mem_map.2 ⟨i, List.mem_range.2 hi1, rfl⟩
        have hb := bulk_mem hmem
        simp only [Rows.uptoBulk] at hbk
        omega
      obtain ⟨xs, n', _, hy, _, hxl, hf⟩ := DataW.trod_struct Try.underlying34 ht
      match cs', hcl, xs, hxl with
      | [c0, c1, c2, c3, c4], _, [y0, y1, y2, y3, y4], _ =>
        have f0 := hf 0 { name := "Op", type := 3, offset := 0, embedded := false, tag := "", pkgPath := "", byteOffset := 0 } rfl
        rw [cellsInt] at f0
        have f1 := hf 1 { name := "Name", type := 9, offset := 1, embedded := false, tag := "", pkgPath := "", byteOffset := 8 } rfl
        rw [cellsStr] at f1
        have f2 := hf 2 { name := "Other", type := 9, offset := 2, embedded := false, tag := "", pkgPath := "", byteOffset := 24 } rfl
        rw [cellsStr] at f2
        have f3 := hf 3 { name := "Bytes", type := 31, offset := 3, embedded := false, tag := "", pkgPath := "", byteOffset := 40 } rfl
        rw [cellsBytes] at f3
        have f4 := hf 4 { name := "Tears", type := 32, offset := 4, embedded := false, tag := "", pkgPath := "", byteOffset := 64 } rfl
        rw [cellsTears] at f4
        replace f0 : DataW.trod enc Try.prog W 0 (fun _ => true) true n' 3 [c0] = some y0 := f0
        replace f1 : DataW.trod enc Try.prog W 0 (fun _ => true) true n' 9 [c1] = some y1 := f1
        replace f2 : DataW.trod enc Try.prog W 0 (fun _ => true) true n' 9 [c2] = some y2 := f2
        replace f3 : DataW.trod enc Try.prog W 0 (fun _ => true) true n' 31 [c3] = some y3 := f3
        replace f4 : DataW.trod enc Try.prog W 0 (fun _ => true) true n' 32 [c4] = some y4 := f4
        have a0 := hat 0 (by decide)
        have a1 := hat 1 (by decide)
        have a2 := hat 2 (by decide)
        have a3 := hat 3 (by decide)
        have a4 := hat 4 (by decide)
        rw [add_lit _ 1 (by decide)] at a1
        rw [add_lit _ 2 (by decide)] at a2
        rw [add_lit _ 3 (by decide)] at a3
        rw [add_lit _ 4 (by decide)] at a4
        have e0 : (a.add (i * 5)).add 0 = a.add (i * 5) := by rw [add_add]; rfl
        rw [e0] at a0
        simp only [List.getElem?_cons_zero, List.getElem?_cons_succ] at a0 a1 a2 a3 a4
        obtain ⟨op, rfl, ho1, ho2⟩ := trod_num f0
        obtain ⟨s, rfl, hs, hs2⟩ := trod_str f1
        obtain ⟨s', rfl, hs', hs2'⟩ := trod_str f2
        obtain ⟨J, js, cj, rfl, hj, hj2⟩ := trod_bytes f3
        obtain ⟨ts, hrt, htl, hto⟩ := trod_tears f4
        have hD : D i = .agg [y0.1, y1.1, y2.1, y3.1, y4.1] := by
          have := congrArg Prod.fst hy
          simpa using this
        have hblk := World.block_lt_of_cell? W _ a0
        rw [add_block] at hblk
        rw [hD] at hDb
        simp only [Rows.uptoBulk, Rows.uptoBulkAll] at hDb
        exact ⟨⟨op, s, s', js, ts⟩, _, _, hblk, a0, a1, a2, a3, a4, ⟨hj, hrt, ho1, ho2, hs2, hs2', by simp only; omega, by simp only; omega, fun t ht => (hto t ht).2.2.1, fun t ht => (hto t ht).2.2.2.2, fun t ht => by have := (hto t ht).2.1; omega⟩⟩
    obtain ⟨os, htl, hts⟩ := choose_list (R := fun i _ (o : DoA) => ∃ (vb vt : Value), a.block < W.heap.size ∧ W.cell? (a.add (i * 5)) = some (.int .i64 o.op) ∧
        W.cell? ⟨(a.add (i * 5)).block, (a.add (i * 5)).off + 1, none⟩ = some (.string o.nm) ∧ W.cell? ⟨(a.add (i * 5)).block, (a.add (i * 5)).off + 2, none⟩ = some (.string o.ot) ∧ W.cell? ⟨(a.add (i * 5)).block, (a.add (i * 5)).off + 3, none⟩ = some vb ∧
        W.cell? ⟨(a.add (i * 5)).block, (a.add (i * 5)).off + 4, none⟩ = some vt ∧ DoIn W o vb vt) (List.range len) hel
    rw [List.length_range] at htl
    refine ⟨os, ⟨some a, cap, by rw [htl], by omega, fun j t hj => ?_⟩, ?_⟩
    · have hj1 : j < len := by rw [← htl]; exact (List.getElem?_eq_some_iff.1 hj).1
      obtain ⟨vb, vt, h1, h2, h3, h4, h5, h6, h7⟩ := hts j j t (by simp [hj1]) hj
      exact ⟨a, vb, vt, rfl, h1, h2, h3, h4, h5, h6, h7⟩
    · have h1 := bulk_len ((List.range len).map D)
      simp only [Rows.uptoBulk, List.length_map, List.length_range] at h1 ⊢
      omega
end
end Go.Proofs.Ytaignkjcogmcjaa
