/- Words that came in. -/
import Derived.Test.YtaihkehbpppngaaTSpread
import Derived.Test.YtaihkehbpppngaaTOpen
import Derived.JoinedCond
import Derived.Carry
namespace Go.Proofs.Ytaihkehbpppngaa
open Go.ChangeShapes Go.WideShapes Go.ChangeAt Go.RowKit Go.Deep

section
variable {H : Type} {enc : TypeId × Value → H}
set_option maxRecDepth 100000 in
theorem open_words {W : World} {base : Nat} {v : Value} {d : DataW H} {p : List MemPlace} (hval : Value.okWide Try.prog W .any base 32 v) (h : DataW.Trod enc Try.prog W 0 (fun _ => true) true 32 v d p) :
    ∃ xs : List Nat, RdW uV W v xs ∧ xs.length + 1 ≤ Rows.uptoBulk d := by
  obtain ⟨a1, len, cap, rfl⟩ := okWide_slice Try.underlying32 hval
  obtain ⟨fuel, hf⟩ := h
  rcases open_ints Try.underlying32 Try.underlying22 cellsU64 hf with ⟨hcs, hx⟩ | ⟨a, len', cap', zs, hcs, _, hl, hm, hz, hx, hcell, hwz⟩
  · simp [Value.cells] at hcs
    obtain ⟨rfl, rfl, rfl⟩ := hcs
    simp only [Prod.mk.injEq] at hx
    obtain ⟨rfl, rfl⟩ := hx
    exact ⟨[], ⟨none, 0, rfl, Nat.le_refl _, fun j d hd => by simp at hd⟩, by simp [Rows.uptoBulk]⟩
  · simp [Value.cells] at hcs
    obtain ⟨rfl, rfl, rfl⟩ := hcs
    simp only [Prod.mk.injEq] at hx
    obtain ⟨rfl, rfl⟩ := hx
    simp only [if_true] at hz
    have hlen : ((zs.take len).map Int.toNat).length = len := by simp; omega
    refine ⟨(zs.take len).map Int.toNat, ⟨some a, cap, by rw [hlen], by rw [hlen]; exact hl, fun j x hj => ?_⟩, ?_⟩
    · have hj1 : j < len := by
        have := (List.getElem?_eq_some_iff.1 hj).1
        rw [hlen] at this
        exact this
      have hcj := hcell j (by omega)
      have hblk := World.block_lt_of_cell? W _ hcj
      rw [add_block] at hblk
      refine ⟨a, rfl, hblk, hcj.trans ?_⟩
      have e : zs.getD j 0 = zs[j]'(by omega) := by simp [List.getD, List.getElem?_eq_getElem (show j < zs.length by omega)]
      have hw := hwz (zs[j]'(by omega)) (List.getElem_mem _)
      have hb : 0 ≤ zs[j]'(by omega) ∧ zs[j]'(by omega) ≤ 18446744073709551615 := by simpa [Lit.wf, IntKind.min, IntKind.max, IntKind.signed, IntKind.bits] using hw
      have hxx : x = (zs[j]'(by omega)).toNat := by
        rw [List.getElem?_map, List.getElem?_take] at hj
        rw [if_pos hj1, List.getElem?_eq_getElem (show j < zs.length by omega)] at hj
        simpa using hj.symm
      rw [e, hxx]
      unfold uV
      rw [Int.toNat_of_nonneg hb.1]
    · have h1 := bulk_len (lits (H := H) IntKind.u64 (zs.take len))
      simp only [Rows.uptoBulk]
      rw [hlen]
      simp only [lits, List.length_map, List.length_take] at h1 ⊢
      omega
end
end Go.Proofs.Ytaihkehbpppngaa
