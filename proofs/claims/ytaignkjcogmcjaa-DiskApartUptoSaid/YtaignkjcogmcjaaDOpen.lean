/- A list of tears that came in: what lies in memory, and how much it is. -/
import Derived.Test.YtaignkjcogmcjaaDTears
import Derived.Test.YtaignkjcogmcjaaEnd
import Derived.Deep.Slices
import Derived.Deep.Fields
import Derived.ChangeSame
namespace Go.Proofs.Ytaignkjcogmcjaa
open Go.ChangeShapes Go.WideShapes Go.ChangeAt Go.RowKit Go.Deep
open Go.Lib (byteCells byteCells_length)

section
variable {H : Type} {enc : TypeId × Value → H}

theorem bulk_pos (d : DataW H) : 1 ≤ Rows.uptoBulk d := by
  cases d with
  | lit l => cases l <;> simp [Rows.uptoBulk]
  | _ => simp [Rows.uptoBulk]
theorem bulk_mem {d : DataW H} {l : List (DataW H)} (h : d ∈ l) : Rows.uptoBulk d ≤ Rows.uptoBulkAll l := by
  induction l with
  | nil => cases h
  | cons x r ih =>
    simp only [Rows.uptoBulkAll]
    rcases List.mem_cons.1 h with e | e
    · rw [e]; omega
    · have := ih e; omega
theorem bulk_len (l : List (DataW H)) : l.length ≤ Rows.uptoBulkAll l := by
  induction l with
  | nil => exact Nat.zero_le _
  | cons x r ih => have := bulk_pos x; simp only [Rows.uptoBulkAll, List.length_cons]; omega

/-- A cell that reads as a slice of bytes. -/
theorem trod_bytes {W : World} {fuel : Nat} {v : Value} {y : DataW H × List MemPlace} (h : DataW.trod enc Try.prog W 0 (fun _ => true) true fuel 31 [v] = some y) :
    ∃ (J : Option Addr) (bs : List UInt8) (c : Nat), v = .slice J bs.length c ∧ Rd W 0 W.heap.size v bs ∧ bs.length + 1 ≤ Rows.uptoBulk y.1 := by
  rcases open_ints Try.underlying31 Try.underlying5 cells5 h with ⟨hcs, hx⟩ | ⟨a, len', cap', zs, hcs, _, hl, hm, hz, hx, hcell, hwz⟩
  · simp at hcs
    subst hcs
    subst hx
    exact ⟨none, [], 0, rfl, ⟨none, 0, rfl, Nat.le_refl _, fun h => absurd h (by simp)⟩, by simp [Rows.uptoBulk]⟩
  · simp at hcs
    subst hcs
    subst hx
    simp only [if_true] at hz
    have hlen : ((zs.take len').map fun n => UInt8.ofNat n.toNat).length = len' := by simp; omega
    refine ⟨some a, (zs.take len').map fun n => UInt8.ofNat n.toNat, cap', by rw [hlen], ⟨some a, cap', by rw [hlen], by rw [hlen]; exact hl, fun h0 => ⟨a, rfl, Nat.zero_le _, ?_, fun j u hu => ?_⟩⟩, ?_⟩
    · have := World.block_lt_of_cell? W _ (hcell 0 (by rw [hlen] at h0; omega))
      rwa [add_block] at this
    · have hj : j < len' := by
        have := (List.getElem?_eq_some_iff.1 hu).1
        rw [byteCells_length, hlen] at this
        exact this
      have hcj := hcell j (by omega)
      rw [hcj, ← hu, byteCells_at _ j (by rw [hlen]; exact hj)]
      have e : zs.getD j 0 = zs[j]'(by omega) := by simp [List.getD, List.getElem?_eq_getElem (show j < zs.length by omega)]
      have hw := hwz (zs[j]'(by omega)) (List.getElem_mem _)
      have hb : 0 ≤ zs[j]'(by omega) ∧ zs[j]'(by omega) ≤ 255 := by simpa [Lit.wf, IntKind.min, IntKind.max, IntKind.signed, IntKind.bits] using hw
      rw [e]
      congr 2
      simp only [List.getElem_map, List.getElem_take, UInt8.toNat_ofNat']
      omega
    · have h2 := bulk_len (lits (H := H) IntKind.u8 (zs.take len'))
      simp only [Rows.uptoBulk]
      rw [hlen]
      simp only [lits, List.length_map, List.length_take] at h2 ⊢
      omega

theorem trod_str {W : World} {fuel : Nat} {v : Value} {y : DataW H × List MemPlace} (h : DataW.trod enc Try.prog W 0 (fun _ => true) true fuel 9 [v] = some y) : ∃ s : ByteArray, v = .string s ∧ s.size + 1 = Rows.uptoBulk y.1 ∧ s.size ≤ 9223372036854775807 := by
  obtain ⟨s, hcs, hx, hm⟩ := DataW.trod_string Try.underlying9 h
  simp at hcs
  subst hcs
  subst hx
  refine ⟨s, rfl, ?_, hm⟩
  have es : s.data.toList.length = s.size := slen s
  simp [Rows.uptoBulk, es]
theorem trod_num {W : World} {fuel : Nat} {v : Value} {y : DataW H × List MemPlace} (h : DataW.trod enc Try.prog W 0 (fun _ => true) true fuel 3 [v] = some y) : ∃ n : Int, v = .int .i64 n ∧ -9223372036854775808 ≤ n ∧ n ≤ 9223372036854775807 := by
  obtain ⟨n, hcs, hx, hw⟩ := DataW.trod_int Try.underlying3 h
  simp at hcs
  subst hcs
  have : -9223372036854775808 ≤ n ∧ n ≤ 9223372036854775807 := by simpa [Lit.wf, IntKind.min, IntKind.max, IntKind.signed, IntKind.bits] using hw
  exact ⟨n, rfl, this⟩

/-- What is known of a tear that came in. -/
def TearOk (b : Nat) (t : TearA) : Prop := t.1.size ≤ b ∧ t.2.2.length ≤ b ∧ t.1.size ≤ 9223372036854775807 ∧ -9223372036854775808 ≤ t.2.1 ∧ t.2.1 ≤ 9223372036854775807

theorem choose_list {α β : Type} {R : Nat → α → β → Prop} (l : List α) (h : ∀ (i : Nat) (a : α), l[i]? = some a → ∃ b, R i a b) : ∃ bs : List β, bs.length = l.length ∧ ∀ (i : Nat) (a : α) (b : β), l[i]? = some a → bs[i]? = some b → R i a b := by
  induction l generalizing R with
  | nil => exact ⟨[], rfl, fun i a b h => by simp at h⟩
  | cons x r ih =>
    obtain ⟨b0, h0⟩ := h 0 x rfl
    obtain ⟨bs, hl, hb⟩ := ih (R := fun i => R (i + 1)) fun i a hi => h (i + 1) a (by simpa using hi)
    refine ⟨b0 :: bs, by simp [hl], fun i a b ha hb' => ?_⟩
    cases i with
    | zero =>
      simp at ha hb'
      subst ha; subst hb'
      exact h0
    | succ i => exact hb i a b (by simpa using ha) (by simpa using hb')

theorem cellsTear : Try.prog.cellsOf 65 = 3 := by kernel_rfl
theorem cellsStr : Try.prog.cellsOf 9 = 1 := by kernel_rfl
theorem cellsInt : Try.prog.cellsOf 3 = 1 := by kernel_rfl
theorem cellsBytes : Try.prog.cellsOf 31 = 1 := by kernel_rfl

set_option maxRecDepth 100000 in
/-- A list of tears that came in. -/
theorem trod_tears {W : World} {fuel : Nat} {v : Value} {y : DataW H × List MemPlace} (h : DataW.trod enc Try.prog W 0 (fun _ => true) true fuel 32 [v] = some y) :
    ∃ ts : List TearA, RdTears W v ts ∧ ts.length + 1 ≤ Rows.uptoBulk y.1 ∧ ∀ t ∈ ts, TearOk (Rows.uptoBulk y.1) t := by
  rcases open_slice Try.underlying32 h with ⟨hcs, hx⟩ | ⟨a, len, cap, m, n, D, Pl, hcs, _, hl, hm, hmm, hx, hi⟩
  · simp at hcs
    subst hcs
    subst hx
    exact ⟨[], ⟨none, 0, rfl, Nat.le_refl _, fun j t hj => by simp at hj⟩, by simp [Rows.uptoBulk], fun t ht => by simp at ht⟩
  · simp at hcs
    subst hcs
    subst hx
    simp only [if_true] at hmm
    rw [cellsTear] at hi
    have hel : ∀ (i u : Nat), (List.range len)[i]? = some u → ∃ t : TearA, TearOk (Rows.uptoBulk (D i)) t ∧ ∃ (J : Option Addr) (cj : Nat), a.block < W.heap.size ∧ W.cell? (a.add (i * 3)) = some (.string t.1) ∧
        W.cell? ⟨(a.add (i * 3)).block, (a.add (i * 3)).off + 1, none⟩ = some (.int .i64 t.2.1) ∧ W.cell? ⟨(a.add (i * 3)).block, (a.add (i * 3)).off + 2, none⟩ = some (.slice J t.2.2.length cj) ∧ Rd W 0 W.heap.size (.slice J t.2.2.length cj) t.2.2 := by
      intro i u hu
      have hi1 : i < len := by
        have := (List.getElem?_eq_some_iff.1 hu).1
        simpa using this
      obtain ⟨cs', hc, ht⟩ := hi i (by omega)
      obtain ⟨_, hcl, hat⟩ := World.cells?_some hc
      obtain ⟨xs, n', _, hy, _, hxl, hf⟩ := DataW.trod_struct Try.underlying65 ht
      match cs', hcl, xs, hxl with
      | [c0, c1, c2], _, [y0, y1, y2], _ =>
        have f0 := hf 0 { name := "Name", type := 9, offset := 0, embedded := false, tag := "", pkgPath := "", byteOffset := 0 } rfl
        rw [cellsStr] at f0
        have f1 := hf 1 { name := "Keep", type := 3, offset := 1, embedded := false, tag := "", pkgPath := "", byteOffset := 16 } rfl
        rw [cellsInt] at f1
        have f2 := hf 2 { name := "Junk", type := 31, offset := 2, embedded := false, tag := "", pkgPath := "", byteOffset := 24 } rfl
        rw [cellsBytes] at f2
        replace f0 : DataW.trod enc Try.prog W 0 (fun _ => true) true n' 9 [c0] = some y0 := f0
        replace f1 : DataW.trod enc Try.prog W 0 (fun _ => true) true n' 3 [c1] = some y1 := f1
        replace f2 : DataW.trod enc Try.prog W 0 (fun _ => true) true n' 31 [c2] = some y2 := f2
        have a0 := hat 0 (by decide)
        have a1 := hat 1 (by decide)
        have a2 := hat 2 (by decide)
        rw [add_lit _ 1 (by decide)] at a1
        rw [add_lit _ 2 (by decide)] at a2
        have e0 : (a.add (i * 3)).add 0 = a.add (i * 3) := by rw [add_add]; rfl
        rw [e0] at a0
        simp only [List.getElem?_cons_zero, List.getElem?_cons_succ] at a0 a1 a2
        obtain ⟨s, rfl, hs, hs2⟩ := trod_str f0
        obtain ⟨kp, rfl, hk1, hk2⟩ := trod_num f1
        obtain ⟨J, js, cj, rfl, hj, hj2⟩ := trod_bytes f2
        have hD : D i = .agg [y0.1, y1.1, y2.1] := by
          have := congrArg Prod.fst hy
          simpa using this
        have hblk := World.block_lt_of_cell? W _ a0
        rw [add_block] at hblk
        refine ⟨(s, kp, js), ⟨?_, ?_, hs2, hk1, hk2⟩, J, cj, hblk, a0, a1, a2, hj⟩
        · rw [hD]; simp only [Rows.uptoBulk, Rows.uptoBulkAll]; omega
        · rw [hD]; simp only [Rows.uptoBulk, Rows.uptoBulkAll]; omega
    obtain ⟨ts, htl, hts⟩ := choose_list (R := fun i _ t => TearOk (Rows.uptoBulk (D i)) t ∧ ∃ (J : Option Addr) (cj : Nat), a.block < W.heap.size ∧ W.cell? (a.add (i * 3)) = some (.string t.1) ∧
        W.cell? ⟨(a.add (i * 3)).block, (a.add (i * 3)).off + 1, none⟩ = some (.int .i64 t.2.1) ∧ W.cell? ⟨(a.add (i * 3)).block, (a.add (i * 3)).off + 2, none⟩ = some (.slice J t.2.2.length cj) ∧ Rd W 0 W.heap.size (.slice J t.2.2.length cj) t.2.2) (List.range len) hel
    rw [List.length_range] at htl
    refine ⟨ts, ⟨some a, cap, by rw [htl], by omega, fun j t hj => ?_⟩, ?_, fun t ht => ?_⟩
    · have hj1 : j < len := by rw [← htl]; exact (List.getElem?_eq_some_iff.1 hj).1
      obtain ⟨_, J, cj, h1, h2, h3, h4, h5⟩ := hts j j t (by simp [hj1]) hj
      exact ⟨a, J, cj, rfl, h1, h2, h3, h4, h5⟩
    · have h1 := bulk_len ((List.range len).map D)
      simp only [Rows.uptoBulk, List.length_map, List.length_range] at h1 ⊢
      omega
    · obtain ⟨j, hj⟩ := List.getElem?_of_mem ht
      have hj1 : j < len := by rw [← htl]; exact (List.getElem?_eq_some_iff.1 hj).1
      obtain ⟨⟨h1, h2, h3, h4, h5⟩, _⟩ := hts j j t (by simp [hj1]) hj
      have hmem : D j ∈ (List.range len).map D := List.mem_map.2 ⟨j, List.mem_range.2 hj1, rfl⟩
      have hb := bulk_mem hmem
      refine ⟨?_, ?_, h3, h4, h5⟩
      · simp only [Rows.uptoBulk]; omega
      · simp only [Rows.uptoBulk]; omega
end
end Go.Proofs.Ytaignkjcogmcjaa
