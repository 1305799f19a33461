/- What is written of a context is read back, and what is read is written back: lists of bytes only. -/
import Derived.Test.YtnlohijpcnoamaaKForm
import Derived.Test.YtnlohijpcnoamaaKSource2
import Derived.Test.YtnlohijpcnoamaaKEncode
namespace Go.Proofs.Ytnlohijpcnoamaa
open Go.RowKit

/-- So many dots, read behind one another. -/
def dotsS (bs : List UInt8) : Nat → Nat → Int → List DotA × Nat × Int
  | 0, p, y => ([], p, y)
  | k + 1, p, y => let r := dotsS bs k p y; let d := dotS bs r.2.1 r.2.2; (r.1 ++ [d.1], d.2.1, d.2.2)
/-- A context's marks and dots, how far the reading goes, the first error. -/
def readS (bs : List UInt8) (p : Nat) (y : Int) : List DotA × List DotA × Nat × Int :=
  let m := lenS bs 64 p y
  let ms := dotsS bs m.1.toNat m.2.1 m.2.2
  let n := lenS bs 64 ms.2.1 ms.2.2
  let ds := dotsS bs n.1.toNat n.2.1 n.2.2
  (ms.1, ds.1, ds.2.1, ds.2.2)

theorem numS_num {bs : List UInt8} {p n : Nat} {rest : List UInt8} (h : bs.drop p = num n ++ rest) (hn : n ≤ 9223372036854775807) : numS bs p 0 = ((n : Int), p + (num n).length, 0) ∧ bs.drop (p + (num n).length) = rest := by
  refine ⟨?_, ?_⟩
  · unfold numS; rw [if_pos rfl, h, uint_num n rest hn]
  · rw [← List.drop_drop, h, List.drop_left]
theorem lenS_num {bs : List UInt8} {p n : Nat} {rest : List UInt8} (h : bs.drop p = num n ++ rest) (hn : n ≤ 64) : lenS bs 64 p 0 = ((n : Int), p + (num n).length, 0) := by
  unfold lenS
  rw [(numS_num h (by omega)).1, if_neg (by simp; omega)]

/-- A dot that a form of bytes can hold. -/
def Fit (d : DotA) : Prop := (0 ≤ d.1 ∧ d.1 ≤ 9223372036854775807) ∧ (0 ≤ d.2.1 ∧ d.2.1 ≤ 9223372036854775807) ∧ 0 ≤ d.2.2 ∧ d.2.2 ≤ 9223372036854775807
theorem fit_of_may {d : DotA} (h : mayB d = true) : Fit d := by
  simp [mayB] at h; unfold Fit; omega

theorem nums_dotN (d : DotA) : nums (dotN d) = num d.1.toNat ++ (num d.2.1.toNat ++ num d.2.2.toNat) := by simp [nums, dotN]

theorem dotS_num {bs : List UInt8} {p : Nat} {d : DotA} {rest : List UInt8} (h : bs.drop p = nums (dotN d) ++ rest) (hd : Fit d) : dotS bs p 0 = (d, p + (nums (dotN d)).length, 0) ∧ bs.drop (p + (nums (dotN d)).length) = rest := by
  obtain ⟨⟨a1, a2⟩, ⟨b1, b2⟩, c1, c2⟩ := hd
  rw [nums_dotN, List.append_assoc, List.append_assoc] at h
  obtain ⟨e1, f1⟩ := numS_num h (by omega)
  obtain ⟨e2, f2⟩ := numS_num f1 (by omega)
  obtain ⟨e3, f3⟩ := numS_num f2 (by omega)
  have hl : p + (nums (dotN d)).length = p + (num d.1.toNat).length + (num d.2.1.toNat).length + (num d.2.2.toNat).length := by
    rw [nums_dotN, List.length_append, List.length_append]; omega
  refine ⟨?_, by rw [hl]; exact f3⟩
  unfold dotS
  simp only [e1, e2, e3, hl]
  rw [Int.toNat_of_nonneg a1, Int.toNat_of_nonneg b1, Int.toNat_of_nonneg c1]

theorem dotsN_snoc (ds : List DotA) (d : DotA) : dotsN (ds ++ [d]) = dotsN ds ++ dotN d := by simp [dotsN]

theorem dotsS_take {bs : List UInt8} {p : Nat} {ds : List DotA} {rest : List UInt8} (h : bs.drop p = nums (dotsN ds) ++ rest) (hd : ∀ d ∈ ds, Fit d) (k : Nat) (hk : k ≤ ds.length) :
    dotsS bs k p 0 = (ds.take k, p + (nums (dotsN (ds.take k))).length, 0) ∧ bs.drop (p + (nums (dotsN (ds.take k))).length) = nums (dotsN (ds.drop k)) ++ rest := by
  induction k with
  | zero => exact ⟨by simp [dotsS, nums, dotsN], by simpa [nums, dotsN] using h⟩
  | succ k ih =>
    obtain ⟨e, f⟩ := ih (by omega)
    have hx : ds[k]? = some (ds[k]'(by omega)) := List.getElem?_eq_getElem _
    obtain ⟨x, hx2⟩ : ∃ x, ds[k]'(by omega) = x := ⟨_, rfl⟩
    rw [hx2] at hx
    have hdr : ds.drop k = x :: ds.drop (k + 1) := by rw [List.drop_eq_getElem_cons (by omega), hx2]
    rw [hdr, show dotsN (x :: ds.drop (k + 1)) = dotN x ++ dotsN (ds.drop (k + 1)) from rfl, nums_append, List.append_assoc] at f
    obtain ⟨e2, f2⟩ := dotS_num f (hd x (List.mem_of_getElem? hx))
    have ht : ds.take (k + 1) = ds.take k ++ [x] := by rw [List.take_add_one, hx]; rfl
    have hl : p + (nums (dotsN (ds.take (k + 1)))).length = p + (nums (dotsN (ds.take k))).length + (nums (dotN x)).length := by rw [ht, dotsN_snoc, nums_append, List.length_append]; omega
    refine ⟨?_, by rw [hl]; exact f2⟩
    rw [hl, ht]
    unfold dotsS
    simp only [e, e2]

theorem dotsS_code {bs : List UInt8} {p : Nat} {ds : List DotA} {rest : List UInt8} (h : bs.drop p = nums (dotsN ds) ++ rest) (hd : ∀ d ∈ ds, Fit d) :
    dotsS bs ds.length p 0 = (ds, p + (nums (dotsN ds)).length, 0) ∧ bs.drop (p + (nums (dotsN ds)).length) = rest := by
  have := dotsS_take h hd ds.length (Nat.le_refl _)
  rw [List.take_length, List.drop_length] at this
  exact ⟨this.1, by simpa [nums, dotsN] using this.2⟩

/-- What is written is read back, whatever lies behind it. -/
theorem readS_code {bs : List UInt8} {p : Nat} {ms ds : List DotA} {rest : List UInt8} (h : bs.drop p = codeC ms ds ++ rest) (hm : ∀ d ∈ ms, Fit d) (hd : ∀ d ∈ ds, Fit d) (hlm : ms.length ≤ 64) (hld : ds.length ≤ 64) :
    readS bs p 0 = (ms, ds, p + (codeC ms ds).length, 0) := by
  unfold codeC at h
  rw [List.append_assoc, List.append_assoc, List.append_assoc] at h
  have e1 := lenS_num h hlm
  have f1 := (numS_num h (by omega)).2
  obtain ⟨e2, f2⟩ := dotsS_code f1 hm
  have e3 := lenS_num f2 hld
  have f3 := (numS_num f2 (by omega)).2
  obtain ⟨e4, f4⟩ := dotsS_code f3 hd
  have hl : p + (codeC ms ds).length = p + (num ms.length).length + (nums (dotsN ms)).length + (num ds.length).length + (nums (dotsN ds)).length := by
    unfold codeC; rw [List.length_append, List.length_append, List.length_append]; omega
  unfold readS
  simp only [e1, Int.toNat_natCast, e2, e3, e4, hl]
end Go.Proofs.Ytnlohijpcnoamaa
