/- A ring that came in. -/
import Derived.Test.YtmgobekdlgogmaaDoorRRd
import Derived.Test.YtmgobekdlgogmaaDoorEnd
import Derived.Deep.Slices
import Derived.Deep.Fields
import Derived.ChangeSame
import Derived.SizedLaws
namespace Go.Proofs.YtmgobekdlgogmaaDoor
open Go.ChangeShapes Go.WideShapes Go.ChangeAt Go.RowKit Go.Deep
open Go.Lib (byteCells byteCells_length)

section
variable {H : Type} {enc : TypeId × Value → H}
theorem choose_list {α β : Type} {R : Nat → α → β → Prop} (l : List α) (h : ∀ (i : Nat) (a : α), l[i]? = some a → ∃ b, R i a b) : ∃ bs : List β, bs.length = l.length ∧ ∀ (i : Nat) (a : α) (b : β), l[i]? = some a → bs[i]? = some b → R i a b := by
  induction l generalizing R with
  | nil => exact ⟨[], rfl, fun i a b h => by simp at h⟩
  | cons x r ih =>
    obtain ⟨b0, h0⟩ := h 0 x rfl
    obtain ⟨bs, hl, hb⟩ := ih (R := fun i => R (i + 1)) fun i a hi => h (i + 1) a (by simpa using hi)
    refine ⟨b0 :: bs, by simp [hl], fun i a b ha hb' => ?_⟩
    cases i with
    | zero =>
      simp at ha hb'
      subst ha; subst hb'
      exact h0
    | succ i => exact hb i a b (by simpa using ha) (by simpa using hb')
theorem cellsInt : Tryd.prog.cellsOf 3 = 1 := by kernel_rfl
theorem trod_num {W : World} {fuel : Nat} {v : Value} {y : DataW H × List MemPlace} (h : DataW.trod enc Tryd.prog W 0 (fun _ => true) true fuel 3 [v] = some y) : ∃ n : Int, v = .int .i64 n ∧ -9223372036854775808 ≤ n ∧ n ≤ 9223372036854775807 := by
  obtain ⟨n, hcs, hx, hw⟩ := DataW.trod_int Tryd.underlying3 h
  simp at hcs
  subst hcs
  have : -9223372036854775808 ≤ n ∧ n ≤ 9223372036854775807 := by simpa [Lit.wf, IntKind.min, IntKind.max, IntKind.signed, IntKind.bits] using hw
  exact ⟨n, rfl, this⟩
theorem cellsMember : Tryd.prog.cellsOf 40 = 4 := by kernel_rfl
theorem cellsMembers : Tryd.prog.cellsOf 22 = 1 := by kernel_rfl
theorem cellsRing : Tryd.prog.cellsOf 24 = 4 := by kernel_rfl
theorem bytesMember : Tryd.prog.bytesOf 40 = 32 := by kernel_rfl
set_option maxRecDepth 100000 in
theorem trod_members {W : World} {fuel : Nat} {v : Value} {y : DataW H × List MemPlace} (h : DataW.trod enc Tryd.prog W 0 (fun _ => true) true fuel 22 [v] = some y) :
    ∃ ds : List MemA, RdM W v ds ∧ ∀ B, (∀ n ∈ y.1.weights Tryd.prog 22, n ≤ B) → ds.length * 32 ≤ B := by
  rcases open_slice Tryd.underlying22 h with ⟨hcs, hx⟩ | ⟨a, len, cap, m, n, D, Pl, hcs, _, hl, hm, hmm, hx, hi⟩
  · simp at hcs
    subst hcs
    subst hx
    exact ⟨[], RdM.nil W, fun B _ => by simp⟩
  · simp at hcs
    subst hcs
    subst hx
    simp only [if_true] at hmm
    rw [cellsMember] at hi
    have hel : ∀ (i u : Nat), (List.range len)[i]? = some u → ∃ d : MemA, a.block < W.heap.size ∧ MemAt W (a.add (i * 4)) d := by
      intro i u hu
      have hi1 : i < len := by
        have := (List.getElem?_eq_some_iff.1 hu).1
        simpa using this
      obtain ⟨cs', hc, ht⟩ := hi i (by omega)
      obtain ⟨_, hcl, hat⟩ := World.cells?_some hc
      obtain ⟨xs, n', _, hy, _, hxl, hf⟩ := DataW.trod_struct Tryd.underlying40 ht
      match cs', hcl, xs, hxl with
      | [c0, c1, c2, c3], _, [y0, y1, y2, y3], _ =>
        have f0 := hf 0 { name := "Node", type := 3, offset := 0, embedded := false, tag := "", pkgPath := "", byteOffset := 0 } rfl
        rw [cellsInt] at f0
        have f1 := hf 1 { name := "Epoch", type := 3, offset := 1, embedded := false, tag := "", pkgPath := "", byteOffset := 8 } rfl
        rw [cellsInt] at f1
        have f2 := hf 2 { name := "Stamp", type := 3, offset := 2, embedded := false, tag := "", pkgPath := "", byteOffset := 16 } rfl
        rw [cellsInt] at f2
        have f3 := hf 3 { name := "Status", type := 3, offset := 3, embedded := false, tag := "", pkgPath := "", byteOffset := 24 } rfl
        rw [cellsInt] at f3
        replace f0 : DataW.trod enc Tryd.prog W 0 (fun _ => true) true n' 3 [c0] = some y0 := f0
        replace f1 : DataW.trod enc Tryd.prog W 0 (fun _ => true) true n' 3 [c1] = some y1 := f1
        replace f2 : DataW.trod enc Tryd.prog W 0 (fun _ => true) true n' 3 [c2] = some y2 := f2
        replace f3 : DataW.trod enc Tryd.prog W 0 (fun _ => true) true n' 3 [c3] = some y3 := f3
        have a0 := hat 0 (by decide)
        have a1 := hat 1 (by decide)
        have a2 := hat 2 (by decide)
        have a3 := hat 3 (by decide)
        rw [add_litR _ 1 (by decide)] at a1
        rw [add_litR _ 2 (by decide)] at a2
        rw [add_litR _ 3 (by decide)] at a3
        have e0 : (a.add (i * 4)).add 0 = a.add (i * 4) := by rw [add_add]; rfl
        rw [e0] at a0
        simp only [List.getElem?_cons_zero, List.getElem?_cons_succ] at a0 a1 a2 a3
        obtain ⟨z0, rfl, _, _⟩ := trod_num f0
        obtain ⟨z1, rfl, _, _⟩ := trod_num f1
        obtain ⟨z2, rfl, _, _⟩ := trod_num f2
        obtain ⟨z3, rfl, _, _⟩ := trod_num f3
        have hblk := World.block_lt_of_cell? W _ a0
        rw [add_block] at hblk
        exact ⟨(z0, z1, z2, z3), hblk, a0, a1, a2, a3⟩
    obtain ⟨ts, htl, hts⟩ := choose_list (R := fun i _ d => a.block < W.heap.size ∧ MemAt W (a.add (i * 4)) d) (List.range len) hel
    rw [List.length_range] at htl
    refine ⟨ts, ⟨some a, cap, by rw [htl], by omega, fun j t hj => ?_⟩, fun B hB => ?_⟩
    · have hj1 : j < len := by rw [← htl]; exact (List.getElem?_eq_some_iff.1 hj).1
      obtain ⟨h1, h2⟩ := hts j j t (by simp [hj1]) hj
      exact ⟨a, rfl, h1, h2⟩
    · have h1 := hB _ (by simp only [DataW.weights, Tryd.underlying22]; exact List.mem_cons_self)
      rw [bytesMember] at h1
      simp only [List.length_map, List.length_range] at h1
      rw [htl]
      have : len * 32 ≤ (len + (DataW.weights Tryd.prog 3 (DataW.nil : DataW H)).length) * 32 := by
        rw [Nat.add_mul]; omega
      first | omega | (refine Nat.le_trans (Nat.mul_le_mul_right 32 (Nat.le_add_right _ _)) h1)
set_option maxRecDepth 100000 in
theorem open_ring {W : World} {base : Nat} {v : Value} {d : DataW H} {p : List MemPlace} (hval : Value.okWide Tryd.prog W .any base 24 v) (h : DataW.Trod enc Tryd.prog W 0 (fun _ => true) true 24 v d p) :
    ∃ (x0 x1 x2 : Int) (mv : Value) (ms : List MemA), v = .agg #[.int .i64 x0, .int .i64 x1, .int .i64 x2, mv] ∧ (-9223372036854775808 ≤ x0 ∧ x0 ≤ 9223372036854775807) ∧ RdM W mv ms ∧ ∀ B, (∀ n ∈ d.weights Tryd.prog 24, n ≤ B) → ms.length * 32 ≤ B := by
  obtain ⟨cs, rfl, hsz⟩ := okWide_struct Tryd.underlying24 hval
  obtain ⟨fuel, hf0⟩ := h
  rw [cellsRing] at hsz
  obtain ⟨xs, n', _, hy, hcl, hxl, hf⟩ := DataW.trod_struct Tryd.underlying24 hf0
  obtain ⟨l⟩ := cs
  match l, hsz, xs, hxl with
  | [c0, c1, c2, c3], _, [y0, y1, y2, y3], _ =>
    have f0 := hf 0 { name := "Parts", type := 3, offset := 0, embedded := false, tag := "", pkgPath := "", byteOffset := 0 } rfl
    rw [cellsInt] at f0
    have f1 := hf 1 { name := "Copies", type := 3, offset := 1, embedded := false, tag := "", pkgPath := "", byteOffset := 8 } rfl
    rw [cellsInt] at f1
    have f2 := hf 2 { name := "Spots", type := 3, offset := 2, embedded := false, tag := "", pkgPath := "", byteOffset := 16 } rfl
    rw [cellsInt] at f2
    have f3 := hf 3 { name := "Members", type := 22, offset := 3, embedded := false, tag := "", pkgPath := "", byteOffset := 24 } rfl
    rw [cellsMembers] at f3
    replace f0 : DataW.trod enc Tryd.prog W 0 (fun _ => true) true n' 3 [c0] = some y0 := f0
    replace f1 : DataW.trod enc Tryd.prog W 0 (fun _ => true) true n' 3 [c1] = some y1 := f1
    replace f2 : DataW.trod enc Tryd.prog W 0 (fun _ => true) true n' 3 [c2] = some y2 := f2
    replace f3 : DataW.trod enc Tryd.prog W 0 (fun _ => true) true n' 22 [c3] = some y3 := f3
    obtain ⟨z0, rfl, hz0, hz1⟩ := trod_num f0
    obtain ⟨z1, rfl, _, _⟩ := trod_num f1
    obtain ⟨z2, rfl, _, _⟩ := trod_num f2
    obtain ⟨ms, hms, hw⟩ := trod_members f3
    refine ⟨z0, z1, z2, c3, ms, rfl, ⟨hz0, hz1⟩, hms, fun B hB => hw B fun n hn => hB n ?_⟩
    have e := congrArg (·.1) hy
    simp at e
    subst e
    simp only [DataW.weights, Tryd.underlying24]
    exact DataW.weights_mem_each (j := 3) rfl rfl n hn
end
end Go.Proofs.YtmgobekdlgogmaaDoor
