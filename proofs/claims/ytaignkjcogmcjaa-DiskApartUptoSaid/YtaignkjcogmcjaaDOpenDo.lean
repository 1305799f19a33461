/- A step that came in by value. -/
import Derived.Test.YtaignkjcogmcjaaDDos
namespace Go.Proofs.Ytaignkjcogmcjaa
open Go.ChangeShapes Go.WideShapes Go.ChangeAt Go.RowKit Go.Deep
open Go.Lib (byteCells byteCells_length)

section
variable {H : Type} {enc : TypeId × Value → H}
set_option maxRecDepth 100000 in
theorem open_do {W : World} {base : Nat} {v : Value} {d : DataW H} {p : List MemPlace} (hval : Value.okWide Try.prog W .any base 34 v) (h : DataW.Trod enc Try.prog W 0 (fun _ => true) true 34 v d p) (hbk : Rows.uptoBulk d ≤ 1048576) :
    ∃ (o : DoA) (J1 : Option Addr) (c1 : Nat) (J2 : Option Addr) (c2 : Nat), v = .agg #[.int .i64 o.op, .string o.nm, .string o.ot, .slice J1 o.bs.length c1, .slice J2 o.ts.length c2] ∧ DoIn W o (.slice J1 o.bs.length c1) (.slice J2 o.ts.length c2) := by
  obtain ⟨cs, rfl, hsz⟩ := okWide_struct Try.underlying34 hval
  obtain ⟨fuel, hf0⟩ := h
  rw [cellsDo] at hsz
  obtain ⟨xs, n', _, hy, hcl, hxl, hf⟩ := DataW.trod_struct Try.underlying34 hf0
  obtain ⟨l⟩ := cs
  match l, hsz, xs, hxl with
  | [c0, c1, c2, c3, c4], _, [y0, y1, y2, y3, y4], _ =>
    have f0 := hf 0 { name := "Op", type := 3, offset := 0, embedded := false, tag := "", pkgPath := "", byteOffset := 0 } rfl
    rw [cellsInt] at f0
    have f1 := hf 1 { name := "Name", type := 9, offset := 1, embedded := false, tag := "", pkgPath := "", byteOffset := 8 } rfl
    rw [cellsStr] at f1
    have f2 := hf 2 { name := "Other", type := 9, offset := 2, embedded := false, tag := "", pkgPath := "", byteOffset := 24 } rfl
    rw [cellsStr] at f2
    have f3 := hf 3 { name := "Bytes", type := 31, offset := 3, embedded := false, tag := "", pkgPath := "", byteOffset := 40 } rfl
    rw [cellsBytes] at f3
    have f4 := hf 4 { name := "Tears", type := 32, offset := 4, embedded := false, tag := "", pkgPath := "", byteOffset := 64 } rfl
    rw [cellsTears] at f4
    replace f0 : DataW.trod enc Try.prog W 0 (fun _ => true) true n' 3 [c0] = some y0 := f0
    replace f1 : DataW.trod enc Try.prog W 0 (fun _ => true) true n' 9 [c1] = some y1 := f1
    replace f2 : DataW.trod enc Try.prog W 0 (fun _ => true) true n' 9 [c2] = some y2 := f2
    replace f3 : DataW.trod enc Try.prog W 0 (fun _ => true) true n' 31 [c3] = some y3 := f3
    replace f4 : DataW.trod enc Try.prog W 0 (fun _ => true) true n' 32 [c4] = some y4 := f4
    obtain ⟨op, rfl, ho1, ho2⟩ := trod_num f0
    obtain ⟨s, rfl, hs, hs2⟩ := trod_str f1
    obtain ⟨s', rfl, hs', hs2'⟩ := trod_str f2
    obtain ⟨J, js, cj, rfl, hj, hj2⟩ := trod_bytes f3
    obtain ⟨ts, hrt, htl, hto⟩ := trod_tears f4
    have hD : d = .agg [y0.1, y1.1, y2.1, y3.1, y4.1] := by
      have := congrArg Prod.fst hy
      simpa using this
    rw [hD] at hbk
    simp only [Rows.uptoBulk, Rows.uptoBulkAll] at hbk
    have hrt0 := hrt
    obtain ⟨At, ct, et, _, _⟩ := hrt0
    subst et
    exact ⟨⟨op, s, s', js, ts⟩, J, cj, At, ct, rfl, hj, hrt, ho1, ho2, hs2, hs2', by simp only; omega, by simp only; omega, fun t ht => (hto t ht).2.2.1, fun t ht => (hto t ht).2.2.2.2, fun t ht => by have := (hto t ht).2.1; omega⟩
end
end Go.Proofs.Ytaignkjcogmcjaa
