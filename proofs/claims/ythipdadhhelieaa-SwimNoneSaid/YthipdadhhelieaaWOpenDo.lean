/- A step of a script that came in. -/
import Derived.Test.YthipdadhhelieaaWOpen
namespace Go.Proofs.Ythipdadhhelieaa
open Go.ChangeShapes Go.WideShapes Go.ChangeAt Go.RowKit Go.Deep

section
variable {H : Type} {enc : TypeId × Value → H}
theorem cellsDo : Try.prog.cellsOf 33 = 8 := by kernel_rfl
theorem cellsPeers : Try.prog.cellsOf 31 = 1 := by kernel_rfl
theorem trod_peers {W : World} {fuel : Nat} {v : Value} {y : DataW H × List MemPlace} (h : DataW.trod enc Try.prog W 0 (fun _ => true) true fuel 31 [v] = some y) : ∃ A l c, v = .slice A l c := by
  rcases open_slice Try.underlying31 h with ⟨hcs, hx⟩ | ⟨a, len, cap, m, n, D, Pl, hcs, _⟩
  · simp at hcs
    exact ⟨_, _, _, hcs⟩
  · simp at hcs
    exact ⟨_, _, _, hcs⟩
set_option maxRecDepth 100000 in
theorem open_do {W : World} {base : Nat} {v : Value} {d : DataW H} {p : List MemPlace} (hval : Value.okWide Try.prog W .any base 33 v) (h : DataW.Trod enc Try.prog W 0 (fun _ => true) true 33 v d p) :
    ∃ (op now : Int) (A : Option Addr) (l c : Nat) (k f r o n : Int), v = .agg #[.int .i64 op, .int .i64 now, .slice A l c, .int .i64 k, .int .i64 f, .int .i64 r, .int .i64 o, .int .i64 n] := by
  obtain ⟨cs, rfl, hsz⟩ := okWide_struct Try.underlying33 hval
  obtain ⟨fuel, hf0⟩ := h
  rw [cellsDo] at hsz
  obtain ⟨xs, n', _, hy, hcl, hxl, hf⟩ := DataW.trod_struct Try.underlying33 hf0
  obtain ⟨l⟩ := cs
  match l, hsz, xs, hxl with
  | [c0, c1, c2, c3, c4, c5, c6, c7], _, [y0, y1, y2, y3, y4, y5, y6, y7], _ =>
    have f0 := hf 0 { name := "Op", type := 3, offset := 0, embedded := false, tag := "", pkgPath := "", byteOffset := 0 } rfl
    rw [cellsInt] at f0
    have f1 := hf 1 { name := "Now", type := 3, offset := 1, embedded := false, tag := "", pkgPath := "", byteOffset := 8 } rfl
    rw [cellsInt] at f1
    have f2 := hf 2 { name := "Peers", type := 31, offset := 2, embedded := false, tag := "", pkgPath := "", byteOffset := 16 } rfl
    rw [cellsPeers] at f2
    have f3 := hf 3 { name := "Kind", type := 3, offset := 3, embedded := false, tag := "", pkgPath := "", byteOffset := 40 } rfl
    rw [cellsInt] at f3
    have f4 := hf 4 { name := "From", type := 3, offset := 4, embedded := false, tag := "", pkgPath := "", byteOffset := 48 } rfl
    rw [cellsInt] at f4
    have f5 := hf 5 { name := "Req", type := 3, offset := 5, embedded := false, tag := "", pkgPath := "", byteOffset := 56 } rfl
    rw [cellsInt] at f5
    have f6 := hf 6 { name := "Owner", type := 3, offset := 6, embedded := false, tag := "", pkgPath := "", byteOffset := 64 } rfl
    rw [cellsInt] at f6
    have f7 := hf 7 { name := "N", type := 3, offset := 7, embedded := false, tag := "", pkgPath := "", byteOffset := 72 } rfl
    rw [cellsInt] at f7
    replace f0 : DataW.trod enc Try.prog W 0 (fun _ => true) true n' 3 [c0] = some y0 := f0
    replace f1 : DataW.trod enc Try.prog W 0 (fun _ => true) true n' 3 [c1] = some y1 := f1
    replace f2 : DataW.trod enc Try.prog W 0 (fun _ => true) true n' 31 [c2] = some y2 := f2
    replace f3 : DataW.trod enc Try.prog W 0 (fun _ => true) true n' 3 [c3] = some y3 := f3
    replace f4 : DataW.trod enc Try.prog W 0 (fun _ => true) true n' 3 [c4] = some y4 := f4
    replace f5 : DataW.trod enc Try.prog W 0 (fun _ => true) true n' 3 [c5] = some y5 := f5
    replace f6 : DataW.trod enc Try.prog W 0 (fun _ => true) true n' 3 [c6] = some y6 := f6
    replace f7 : DataW.trod enc Try.prog W 0 (fun _ => true) true n' 3 [c7] = some y7 := f7
    obtain ⟨z0, rfl, _, _⟩ := trod_num f0
    obtain ⟨z1, rfl, _, _⟩ := trod_num f1
    obtain ⟨A, l, c, rfl⟩ := trod_peers f2
    obtain ⟨z3, rfl, _, _⟩ := trod_num f3
    obtain ⟨z4, rfl, _, _⟩ := trod_num f4
    obtain ⟨z5, rfl, _, _⟩ := trod_num f5
    obtain ⟨z6, rfl, _, _⟩ := trod_num f6
    obtain ⟨z7, rfl, _, _⟩ := trod_num f7
    exact ⟨z0, z1, A, l, c, z3, z4, z5, z6, z7, rfl⟩
end
end Go.Proofs.Ythipdadhhelieaa
