/- Lines that came in. -/
import Derived.Test.YtaihkehbpppngaaTTotal
import Derived.Test.YtaihkehbpppngaaTEnd
import Derived.Deep.Slices
import Derived.Deep.Fields
import Derived.ChangeSame
namespace Go.Proofs.Ytaihkehbpppngaa
open Go.ChangeShapes Go.WideShapes Go.ChangeAt Go.RowKit Go.Deep

theorem add_lit (a : Addr) (k : Nat) (hk : 0 < k) : a.add k = ⟨a.block, a.off + k, none⟩ := by unfold Addr.add; rw [if_neg (by omega)]
theorem add_add (a : Addr) (m n : Nat) : (a.add m).add n = a.add (m + n) := by
  unfold Addr.add
  by_cases hm : m = 0
  · subst hm; simp
  · by_cases hn : n = 0
    · subst hn; simp
    · simp [hm, hn, Nat.add_assoc]
section
variable {H : Type} {enc : TypeId × Value → H}
theorem bulk_pos (d : DataW H) : 1 ≤ Rows.uptoBulk d := by
  cases d with
  | lit l => cases l <;> simp [Rows.uptoBulk]
  | _ => simp [Rows.uptoBulk]
theorem bulk_mem {d : DataW H} {l : List (DataW H)} (h : d ∈ l) : Rows.uptoBulk d ≤ Rows.uptoBulkAll l := by
  induction l with
  | nil => cases h
  | cons x r ih =>
    simp only [Rows.uptoBulkAll]
    rcases List.mem_cons.1 h with e | e
    · rw [e]; omega
    · have := ih e; omega
theorem bulk_len (l : List (DataW H)) : l.length ≤ Rows.uptoBulkAll l := by
  induction l with
  | nil => exact Nat.zero_le _
  | cons x r ih => have := bulk_pos x; simp only [Rows.uptoBulkAll, List.length_cons]; omega
theorem choose_list {α β : Type} {R : Nat → α → β → Prop} (l : List α) (h : ∀ (i : Nat) (a : α), l[i]? = some a → ∃ b, R i a b) : ∃ bs : List β, bs.length = l.length ∧ ∀ (i : Nat) (a : α) (b : β), l[i]? = some a → bs[i]? = some b → R i a b := by
  induction l generalizing R with
  | nil => exact ⟨[], rfl, fun i a b h => by simp at h⟩
  | cons x r ih =>
    obtain ⟨b0, h0⟩ := h 0 x rfl
    obtain ⟨bs, hl, hb⟩ := ih (R := fun i => R (i + 1)) fun i a hi => h (i + 1) a (by simpa using hi)
    refine ⟨b0 :: bs, by simp [hl], fun i a b ha hb' => ?_⟩
    cases i with
    | zero =>
      simp at ha hb'
      subst ha; subst hb'
      exact h0
    | succ i => exact hb i a b (by simpa using ha) (by simpa using hb')
theorem cellsInt : Try.prog.cellsOf 3 = 1 := by kernel_rfl
theorem trod_num {W : World} {fuel : Nat} {v : Value} {y : DataW H × List MemPlace} (h : DataW.trod enc Try.prog W 0 (fun _ => true) true fuel 3 [v] = some y) : ∃ n : Int, v = .int .i64 n ∧ -9223372036854775808 ≤ n ∧ n ≤ 9223372036854775807 := by
  obtain ⟨n, hcs, hx, hw⟩ := DataW.trod_int Try.underlying3 h
  simp at hcs
  subst hcs
  have : -9223372036854775808 ≤ n ∧ n ≤ 9223372036854775807 := by simpa [Lit.wf, IntKind.min, IntKind.max, IntKind.signed, IntKind.bits] using hw
  exact ⟨n, rfl, this⟩
theorem cellsLine : Try.prog.cellsOf 28 = 3 := by kernel_rfl
theorem cellsStr : Try.prog.cellsOf 9 = 1 := by kernel_rfl
theorem cellsU64 : Try.prog.cellsOf 22 = 1 := by kernel_rfl
theorem trod_str {W : World} {fuel : Nat} {v : Value} {y : DataW H × List MemPlace} (h : DataW.trod enc Try.prog W 0 (fun _ => true) true fuel 9 [v] = some y) : ∃ s : ByteArray, v = .string s := by
  obtain ⟨s, hcs, hx, hm⟩ := DataW.trod_string Try.underlying9 h
  simp at hcs
  exact ⟨s, hcs⟩
theorem trod_word {W : World} {fuel : Nat} {v : Value} {y : DataW H × List MemPlace} (h : DataW.trod enc Try.prog W 0 (fun _ => true) true fuel 22 [v] = some y) : ∃ n : Nat, v = .int .u64 (n : Int) ∧ n < 18446744073709551616 := by
  obtain ⟨n, hcs, hx, hw⟩ := DataW.trod_int Try.underlying22 h
  simp at hcs
  subst hcs
  have : 0 ≤ n ∧ n ≤ 18446744073709551615 := by simpa [Lit.wf, IntKind.min, IntKind.max, IntKind.signed, IntKind.bits] using hw
  obtain ⟨m, rfl⟩ := Int.eq_ofNat_of_zero_le this.1
  exact ⟨m, rfl, by omega⟩
set_option maxRecDepth 100000 in
theorem trod_lines {W : World} {fuel : Nat} {v : Value} {y : DataW H × List MemPlace} (h : DataW.trod enc Try.prog W 0 (fun _ => true) true fuel 25 [v] = some y) :
    ∃ ds : List LineA, RdL W v ds ∧ ds.length + 1 ≤ Rows.uptoBulk y.1 := by
  rcases open_slice Try.underlying25 h with ⟨hcs, hx⟩ | ⟨a, len, cap, m, n, D, Pl, hcs, _, hl, hm, hmm, hx, hi⟩
  · simp at hcs
    subst hcs
    subst hx
    exact ⟨[], ⟨none, 0, rfl, Nat.le_refl _, fun j d hd => by simp at hd⟩, by simp [Rows.uptoBulk]⟩
  · simp at hcs
    subst hcs
    subst hx
    simp only [if_true] at hmm
    rw [cellsLine] at hi
    have hel : ∀ (i u : Nat), (List.range len)[i]? = some u → ∃ d : LineA, a.block < W.heap.size ∧ LineAt W (a.add (i * 3)) d := by
      intro i u hu
      have hi1 : i < len := by
        have := (List.getElem?_eq_some_iff.1 hu).1
        simpa using this
      obtain ⟨cs', hc, ht⟩ := hi i (by omega)
      obtain ⟨_, hcl, hat⟩ := World.cells?_some hc
      obtain ⟨xs, n', _, hy, _, hxl, hf⟩ := DataW.trod_struct Try.underlying28 ht
      match cs', hcl, xs, hxl with
      | [c0, c1, c2], _, [y0, y1, y2], _ =>
        have f0 := hf 0 { name := "Item", type := 9, offset := 0, embedded := false, tag := "", pkgPath := "", byteOffset := 0 } rfl
        rw [cellsStr] at f0
        have f1 := hf 1 { name := "Qty", type := 3, offset := 1, embedded := false, tag := "", pkgPath := "", byteOffset := 16 } rfl
        rw [cellsInt] at f1
        have f2 := hf 2 { name := "Price", type := 22, offset := 2, embedded := false, tag := "", pkgPath := "", byteOffset := 24 } rfl
        rw [cellsU64] at f2
        replace f0 : DataW.trod enc Try.prog W 0 (fun _ => true) true n' 9 [c0] = some y0 := f0
        replace f1 : DataW.trod enc Try.prog W 0 (fun _ => true) true n' 3 [c1] = some y1 := f1
        replace f2 : DataW.trod enc Try.prog W 0 (fun _ => true) true n' 22 [c2] = some y2 := f2
        have a0 := hat 0 (by decide)
        have a1 := hat 1 (by decide)
        have a2 := hat 2 (by decide)
        rw [add_lit _ 1 (by decide)] at a1
        rw [add_lit _ 2 (by decide)] at a2
        have e0 : (a.add (i * 3)).add 0 = a.add (i * 3) := by rw [add_add]; rfl
        rw [e0] at a0
        simp only [List.getElem?_cons_zero, List.getElem?_cons_succ] at a0 a1 a2
        obtain ⟨z0, rfl⟩ := trod_str f0
        obtain ⟨z1, rfl, _, _⟩ := trod_num f1
        obtain ⟨z2, rfl, _⟩ := trod_word f2
        have hblk := World.block_lt_of_cell? W _ a0
        rw [add_block] at hblk
        exact ⟨(z0, z1, z2), hblk, a0, a1, a2⟩
    obtain ⟨ts, htl, hts⟩ := choose_list (R := fun i _ d => a.block < W.heap.size ∧ LineAt W (a.add (i * 3)) d) (List.range len) hel
    rw [List.length_range] at htl
    refine ⟨ts, ⟨some a, cap, by rw [htl], by omega, fun j t hj => ?_⟩, ?_⟩
    · have hj1 : j < len := by rw [← htl]; exact (List.getElem?_eq_some_iff.1 hj).1
      obtain ⟨h1, h2⟩ := hts j j t (by simp [hj1]) hj
      exact ⟨a, rfl, h1, h2⟩
    · have h1 := bulk_len ((List.range len).map D)
      simp only [Rows.uptoBulk, List.length_map, List.length_range] at h1 ⊢
      omega
set_option maxRecDepth 100000 in
theorem open_lines {W : World} {base : Nat} {v : Value} {d : DataW H} {p : List MemPlace} (hval : Value.okWide Try.prog W .any base 25 v) (h : DataW.Trod enc Try.prog W 0 (fun _ => true) true 25 v d p) :
    ∃ ds : List LineA, RdL W v ds ∧ ds.length + 1 ≤ Rows.uptoBulk d := by
  obtain ⟨A1, l1, c1, rfl⟩ := okWide_slice Try.underlying25 hval
  obtain ⟨fu, hf⟩ := h
  exact trod_lines (y := (d, p)) (by simpa [Value.cells] using hf)
theorem bound {l : List (DataW H)} (hk : Rows.uptoSmall H l = true) : Rows.uptoBulkAll l ≤ 1048576 := of_decide_eq_true hk
end
end Go.Proofs.Ytaihkehbpppngaa
