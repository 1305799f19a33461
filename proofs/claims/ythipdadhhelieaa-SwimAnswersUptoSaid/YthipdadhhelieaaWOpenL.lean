/- Rumours and numbers that came in. -/
import Derived.Test.YthipdadhhelieaaWOthers
import Derived.Test.YthipdadhhelieaaWOpen
import Derived.JoinedCond
import Derived.Carry
namespace Go.Proofs.Ythipdadhhelieaa
open Go.ChangeShapes Go.WideShapes Go.ChangeAt Go.RowKit Go.Deep

section
variable {H : Type} {enc : TypeId × Value → H}
theorem bulk_pos (d : DataW H) : 1 ≤ Rows.uptoBulk d := by
  cases d with
  | lit l => cases l <;> simp [Rows.uptoBulk]
  | _ => simp [Rows.uptoBulk]
theorem bulk_mem {d : DataW H} {l : List (DataW H)} (h : d ∈ l) : Rows.uptoBulk d ≤ Rows.uptoBulkAll l := by
  induction l with
  | nil => cases h
  | cons x r ih =>
    simp only [Rows.uptoBulkAll]
    rcases List.mem_cons.1 h with e | e
    · rw [e]; omega
    · have := ih e; omega
theorem bulk_len (l : List (DataW H)) : l.length ≤ Rows.uptoBulkAll l := by
  induction l with
  | nil => exact Nat.zero_le _
  | cons x r ih => have := bulk_pos x; simp only [Rows.uptoBulkAll, List.length_cons]; omega
theorem choose_list {α β : Type} {R : Nat → α → β → Prop} (l : List α) (h : ∀ (i : Nat) (a : α), l[i]? = some a → ∃ b, R i a b) : ∃ bs : List β, bs.length = l.length ∧ ∀ (i : Nat) (a : α) (b : β), l[i]? = some a → bs[i]? = some b → R i a b := by
  induction l generalizing R with
  | nil => exact ⟨[], rfl, fun i a b h => by simp at h⟩
  | cons x r ih =>
    obtain ⟨b0, h0⟩ := h 0 x rfl
    obtain ⟨bs, hl, hb⟩ := ih (R := fun i => R (i + 1)) fun i a hi => h (i + 1) a (by simpa using hi)
    refine ⟨b0 :: bs, by simp [hl], fun i a b ha hb' => ?_⟩
    cases i with
    | zero =>
      simp at ha hb'
      subst ha; subst hb'
      exact h0
    | succ i => exact hb i a b (by simpa using ha) (by simpa using hb')
set_option maxRecDepth 100000 in
theorem trod_peersR {W : World} {fuel : Nat} {v : Value} {y : DataW H × List MemPlace} (h : DataW.trod enc Try.prog W 0 (fun _ => true) true fuel 31 [v] = some y) :
    ∃ ds : List DotA, RdD W v ds ∧ ds.length + 1 ≤ Rows.uptoBulk y.1 := by
  rcases open_slice Try.underlying31 h with ⟨hcs, hx⟩ | ⟨a, len, cap, m, n, D, Pl, hcs, _, hl, hm, hmm, hx, hi⟩
  · simp at hcs
    subst hcs
    subst hx
    exact ⟨[], ⟨none, 0, rfl, Nat.le_refl _, fun j d hd => by simp at hd⟩, by simp [Rows.uptoBulk]⟩
  · simp at hcs
    subst hcs
    subst hx
    simp only [if_true] at hmm
    rw [cellsPeer] at hi
    have hel : ∀ (i u : Nat), (List.range len)[i]? = some u → ∃ d : DotA, a.block < W.heap.size ∧ DotAt W (a.add (i * 3)) d := by
      intro i u hu
      have hi1 : i < len := by
        have := (List.getElem?_eq_some_iff.1 hu).1
        simpa using this
      obtain ⟨cs', hc, ht⟩ := hi i (by omega)
      obtain ⟨_, hcl, hat⟩ := World.cells?_some hc
      obtain ⟨xs, n', _, hy, _, hxl, hf⟩ := DataW.trod_struct Try.underlying38 ht
      match cs', hcl, xs, hxl with
      | [c0, c1, c2], _, [y0, y1, y2], _ =>
        have f0 := hf 0 { name := "Node", type := 3, offset := 0, embedded := false, tag := "", pkgPath := "", byteOffset := 0 } rfl
        rw [cellsInt] at f0
        have f1 := hf 1 { name := "Inc", type := 3, offset := 1, embedded := false, tag := "", pkgPath := "", byteOffset := 8 } rfl
        rw [cellsInt] at f1
        have f2 := hf 2 { name := "Status", type := 3, offset := 2, embedded := false, tag := "", pkgPath := "", byteOffset := 16 } rfl
        rw [cellsInt] at f2
        replace f0 : DataW.trod enc Try.prog W 0 (fun _ => true) true n' 3 [c0] = some y0 := f0
        replace f1 : DataW.trod enc Try.prog W 0 (fun _ => true) true n' 3 [c1] = some y1 := f1
        replace f2 : DataW.trod enc Try.prog W 0 (fun _ => true) true n' 3 [c2] = some y2 := f2
        have a0 := hat 0 (by decide)
        have a1 := hat 1 (by decide)
        have a2 := hat 2 (by decide)
        rw [add_lit _ 1 (by decide)] at a1
        rw [add_lit _ 2 (by decide)] at a2
        have e0 : (a.add (i * 3)).add 0 = a.add (i * 3) := by rw [add_add]; rfl
        rw [e0] at a0
        simp only [List.getElem?_cons_zero, List.getElem?_cons_succ] at a0 a1 a2
        obtain ⟨z0, rfl, _, _⟩ := trod_num f0
        obtain ⟨z1, rfl, _, _⟩ := trod_num f1
        obtain ⟨z2, rfl, _, _⟩ := trod_num f2
        have hblk := World.block_lt_of_cell? W _ a0
        rw [add_block] at hblk
        exact ⟨(z0, z1, z2), hblk, a0, a1, a2⟩
    obtain ⟨ts, htl, hts⟩ := choose_list (R := fun i _ d => a.block < W.heap.size ∧ DotAt W (a.add (i * 3)) d) (List.range len) hel
    rw [List.length_range] at htl
    refine ⟨ts, ⟨some a, cap, by rw [htl], by omega, fun j t hj => ?_⟩, ?_⟩
    · have hj1 : j < len := by rw [← htl]; exact (List.getElem?_eq_some_iff.1 hj).1
      obtain ⟨h1, h2⟩ := hts j j t (by simp [hj1]) hj
      exact ⟨a, rfl, h1, h2⟩
    · have h1 := bulk_len ((List.range len).map D)
      simp only [Rows.uptoBulk, List.length_map, List.length_range] at h1 ⊢
      omega
set_option maxRecDepth 100000 in
theorem open_peersR {W : World} {base : Nat} {v : Value} {d : DataW H} {p : List MemPlace} (hval : Value.okWide Try.prog W .any base 31 v) (h : DataW.Trod enc Try.prog W 0 (fun _ => true) true 31 v d p) :
    ∃ ds : List DotA, RdD W v ds ∧ ds.length + 1 ≤ Rows.uptoBulk d := by
  obtain ⟨A1, l1, c1, rfl⟩ := okWide_slice Try.underlying31 hval
  obtain ⟨fu, hf⟩ := h
  exact trod_peersR (y := (d, p)) (by simpa [Value.cells] using hf)

theorem cellsUint : Try.prog.cellsOf 35 = 1 := by kernel_rfl
set_option maxRecDepth 100000 in
theorem open_nums {kd : IntKind} {ts te : TypeId} (hs : Try.prog.underlying ts = some (.slice te)) (he : Try.prog.underlying te = some (.int kd)) (hc : Try.prog.cellsOf te = 1)
    (hwf : ∀ n : Int, (Lit.int kd n).wf = true → kd.min ≤ n ∧ n ≤ kd.max)
    {W : World} {base : Nat} {v : Value} {d : DataW H} {p : List MemPlace} (hval : Value.okWide Try.prog W .any base ts v) (h : DataW.Trod enc Try.prog W 0 (fun _ => true) true ts v d p) :
    ∃ A n c, v = .slice A n c ∧ n ≤ c ∧ RdN kd W A n ∧ n + 1 ≤ Rows.uptoBulk d := by
  obtain ⟨a1, len, cap, rfl⟩ := okWide_slice hs hval
  obtain ⟨fuel, hf⟩ := h
  rcases open_ints hs he hc hf with ⟨hcs, hx⟩ | ⟨a, len', cap', zs, hcs, _, hl, hm, hz, hx, hcell, hwz⟩
  · simp [Value.cells] at hcs
    obtain ⟨rfl, rfl, rfl⟩ := hcs
    simp only [Prod.mk.injEq] at hx
    obtain ⟨rfl, rfl⟩ := hx
    exact ⟨none, 0, 0, rfl, Nat.le_refl _, fun j hj => absurd hj (by omega), by simp [Rows.uptoBulk]⟩
  · simp [Value.cells] at hcs
    obtain ⟨rfl, rfl, rfl⟩ := hcs
    simp only [Prod.mk.injEq] at hx
    obtain ⟨rfl, rfl⟩ := hx
    simp only [if_true] at hz
    refine ⟨some a, len, cap, rfl, hl, fun j hj1 => ?_, ?_⟩
    · have hcj := hcell j (by omega)
      have hblk := World.block_lt_of_cell? W _ hcj
      rw [add_block] at hblk
      have e : zs.getD j 0 = zs[j]'(by omega) := by simp [List.getD, List.getElem?_eq_getElem (show j < zs.length by omega)]
      have hw := hwz (zs[j]'(by omega)) (List.getElem_mem _)
      exact ⟨a, rfl, hblk, zs[j]'(by omega), by rw [← e]; exact hcj, hwf _ hw⟩
    · have h1 := bulk_len (lits (H := H) kd (zs.take len))
      simp only [Rows.uptoBulk]
      simp only [lits, List.length_map, List.length_take] at h1 ⊢
      omega
set_option maxRecDepth 100000 in
theorem open_uints {W : World} {base : Nat} {v : Value} {d : DataW H} {p : List MemPlace} (hval : Value.okWide Try.prog W .any base 76 v) (h : DataW.Trod enc Try.prog W 0 (fun _ => true) true 76 v d p) :
    ∃ A n c, v = .slice A n c ∧ n ≤ c ∧ RdN .u64 W A n ∧ n + 1 ≤ Rows.uptoBulk d :=
  open_nums Try.underlying76 Try.underlying35 cellsUint (fun n h => by simpa [Lit.wf, IntKind.min, IntKind.max, IntKind.signed, IntKind.bits] using h) hval h
set_option maxRecDepth 100000 in
theorem open_numsI {W : World} {base : Nat} {v : Value} {d : DataW H} {p : List MemPlace} (hval : Value.okWide Try.prog W .any base 77 v) (h : DataW.Trod enc Try.prog W 0 (fun _ => true) true 77 v d p) :
    ∃ A n c, v = .slice A n c ∧ n ≤ c ∧ RdN .i64 W A n ∧ n + 1 ≤ Rows.uptoBulk d :=
  open_nums Try.underlying77 Try.underlying3 cellsInt (fun n h => by simpa [Lit.wf, IntKind.min, IntKind.max, IntKind.signed, IntKind.bits] using h) hval h
theorem bound {l : List (DataW H)} (hk : Rows.uptoSmall H l = true) : Rows.uptoBulkAll l ≤ 1048576 := of_decide_eq_true hk
end
end Go.Proofs.Ythipdadhhelieaa
