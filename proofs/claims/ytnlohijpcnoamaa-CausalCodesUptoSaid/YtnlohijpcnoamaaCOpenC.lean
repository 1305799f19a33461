/- A context that is handed in, opened. -/
import Derived.Test.YtnlohijpcnoamaaCOpen
import Derived.Test.YtnlohijpcnoamaaCCan
namespace Go.Proofs.Ytnlohijpcnoamaa
open Go.ChangeShapes Go.WideShapes Go.ChangeAt Go.RowKit

section
variable {H : Type} {enc : TypeId × Value → H}
theorem cellsMarks : Try.prog.cellsOf 22 = 1 := by kernel_rfl
theorem cellsDots : Try.prog.cellsOf 23 = 1 := by kernel_rfl
theorem cellsCtx : Try.prog.cellsOf 25 = 2 := by kernel_rfl
set_option maxRecDepth 100000 in
theorem open_ctx {W : World} {base : Nat} {v : Value} {d : DataW H} {p : List MemPlace} (hval : Value.okWide Try.prog W .any base 25 v) (h : DataW.Trod enc Try.prog W 0 (fun _ => true) true 25 v d p) :
    ∃ ms ds : List DotA, RdC W v ms ds ∧ ms.length + ds.length + 2 ≤ Rows.uptoBulk d := by
  obtain ⟨cs, rfl, hsz⟩ := okWide_struct Try.underlying25 hval
  obtain ⟨fuel, hf0⟩ := h
  rw [cellsCtx] at hsz
  obtain ⟨xs, n', _, hy, hcl, hxl, hf⟩ := DataW.trod_struct Try.underlying25 hf0
  obtain ⟨l⟩ := cs
  match l, hsz, xs, hxl with
  | [c0, c1], _, [y0, y1], _ =>
    have f0 := hf 0 { name := "Marks", type := 22, offset := 0, embedded := false, tag := "", pkgPath := "", byteOffset := 0 } rfl
    rw [cellsMarks] at f0
    have f1 := hf 1 { name := "Cloud", type := 23, offset := 1, embedded := false, tag := "", pkgPath := "", byteOffset := 24 } rfl
    rw [cellsDots] at f1
    replace f0 : DataW.trod enc Try.prog W 0 (fun _ => true) true n' 22 [c0] = some y0 := f0
    replace f1 : DataW.trod enc Try.prog W 0 (fun _ => true) true n' 23 [c1] = some y1 := f1
    obtain ⟨ms, hm, hm2⟩ := trod_marks f0
    obtain ⟨ds, hd, hd2⟩ := trod_dots f1
    have hD : d = .agg [y0.1, y1.1] := by
      have := congrArg Prod.fst hy
      simpa using this
    rw [hD]
    simp only [Rows.uptoBulk, Rows.uptoBulkAll]
    exact ⟨ms, ds, ⟨_, _, rfl, hm, hd⟩, by omega⟩
end
end Go.Proofs.Ytnlohijpcnoamaa
