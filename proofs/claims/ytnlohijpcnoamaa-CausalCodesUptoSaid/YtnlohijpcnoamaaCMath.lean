/- Marks put among marks, dots among dots, and how they settle: no program. -/
import Derived.Test.YtnlohijpcnoamaaCIns
namespace Go.Proofs.Ytnlohijpcnoamaa
open Go.RowKit

theorem markOf_cons (x : DotA) (r : List DotA) (a : ActA) : markOf (x :: r) a = if actOf x = a then x.2.2 else markOf r a := by
  unfold markOf
  by_cases h : actOf x = a
  · simp [h]
  · simp [h]
theorem markOf_nil (a : ActA) : markOf [] a = 0 := rfl
theorem markOf_absent {ms : List DotA} {a : ActA} (h : ∀ x ∈ ms, actOf x ≠ a) : markOf ms a = 0 :=
  markOf_none fun _ x hx => h x (List.mem_of_getElem? hx)
/-- The actors rise. -/
def RiseM (ms : List DotA) : Prop := ms.Pairwise fun a b => ltA (actOf a) (actOf b)
theorem okM_iff {ms : List DotA} : OkM ms ↔ (∀ m ∈ ms, mayB m = true) ∧ RiseM ms := by
  constructor
  · intro h
    refine ⟨fun m hm => ?_, ?_⟩
    · obtain ⟨j, hj⟩ := List.getElem?_of_mem hm
      exact h.1 j m hj
    · unfold RiseM
      rw [List.pairwise_iff_getElem]
      intro i j hi hj hij
      exact h.lt' hij (List.getElem?_eq_getElem hi) (List.getElem?_eq_getElem hj)
  · rintro ⟨h1, h2⟩
    refine ⟨fun j d hd => h1 d (List.mem_of_getElem? hd), fun j a b ha hb => cmpA_lt.2 ?_⟩
    obtain ⟨hi, rfl⟩ := List.getElem?_eq_some_iff.1 ha
    obtain ⟨hj, rfl⟩ := List.getElem?_eq_some_iff.1 hb
    exact (List.pairwise_iff_getElem.1 h2) j (j + 1) hi hj (by omega)

theorem bel_zero {m x : DotA} : belB (m.1, m.2.1, 0) (x.1, x.2.1, 0) = true ↔ ltA (actOf m) (actOf x) := by
  unfold belB ltA actOf
  simp only
  by_cases h1 : m.1 = x.1
  · by_cases h2 : m.2.1 = x.2.1
    · simp [h1, h2]
    · simp [h1, h2]
  · simp [h1]
theorem ltA_tri (a b : ActA) : a = b ∨ ltA a b ∨ ltA b a := by
  unfold ltA
  by_cases h1 : a.1 = b.1
  · by_cases h2 : a.2 = b.2
    · exact .inl (Prod.ext h1 h2)
    · omega
  · omega

theorem setL_true {m : DotA} : ∀ {l : List DotA}, (∀ x ∈ l, ltA (actOf m) (actOf x)) → setL m l true = l
  | [], _ => rfl
  | x :: r, h => by
    unfold setL
    rw [if_neg (Ne.symm (ltA_ne (h x List.mem_cons_self)))]
    simp only [Bool.not_true, Bool.false_and, Bool.false_eq_true, if_false]
    rw [setL_true fun y hy => h y (List.mem_cons_of_mem _ hy)]
theorem setL_eq {m x : DotA} {r : List DotA} (hs : RiseM (x :: r)) (h : actOf x = actOf m) : setL m (x :: r) false = (x.1, x.2.1, max x.2.2 m.2.2) :: r := by
  unfold setL
  rw [if_pos h, setL_true fun y hy => by rw [← h]; exact (List.pairwise_cons.1 hs).1 y hy]
theorem setL_lt {m x : DotA} {r : List DotA} (hs : RiseM (x :: r)) (h : ltA (actOf m) (actOf x)) : setL m (x :: r) false = m :: x :: r := by
  unfold setL
  rw [if_neg (Ne.symm (ltA_ne h)), if_pos (by simp only [Bool.not_false, Bool.true_and]; exact bel_zero.2 h), setL_true fun y hy => ltA_trans h ((List.pairwise_cons.1 hs).1 y hy)]
theorem setL_gt {m x : DotA} {r : List DotA} (h : ltA (actOf x) (actOf m)) : setL m (x :: r) false = x :: setL m r false := by
  have hn : ¬ ltA (actOf m) (actOf x) := fun k => ltA_irrefl _ (ltA_trans h k)
  conv => lhs; unfold setL
  rw [if_neg (ltA_ne h), if_neg (by simp only [Bool.not_false, Bool.true_and]; exact fun k => hn (bel_zero.1 k))]
theorem setL_mem {m : DotA} : ∀ {l : List DotA}, RiseM l → ∀ y ∈ setL m l false, actOf y = actOf m ∨ ∃ x ∈ l, actOf y = actOf x
  | [], _, y, hy => by
    simp [setL] at hy
    exact .inl (by rw [hy])
  | x :: r, hs, y, hy => by
    rcases ltA_tri (actOf x) (actOf m) with h | h | h
    · rw [setL_eq hs h] at hy
      rcases List.mem_cons.1 hy with rfl | hy
      · exact .inl h
      · exact .inr ⟨y, List.mem_cons_of_mem _ hy, rfl⟩
    · rw [setL_gt h] at hy
      rcases List.mem_cons.1 hy with rfl | hy
      · exact .inr ⟨y, List.mem_cons_self, rfl⟩
      · rcases setL_mem (List.pairwise_cons.1 hs).2 y hy with h1 | ⟨z, hz, h1⟩
        · exact .inl h1
        · exact .inr ⟨z, List.mem_cons_of_mem _ hz, h1⟩
    · rw [setL_lt hs h] at hy
      rcases List.mem_cons.1 hy with rfl | hy
      · exact .inl rfl
      · exact .inr ⟨y, hy, rfl⟩
theorem setL_rise {m : DotA} : ∀ {l : List DotA}, RiseM l → RiseM (setL m l false)
  | [], _ => by simp [setL, RiseM]
  | x :: r, hs => by
    have h0 := List.pairwise_cons.1 hs
    rcases ltA_tri (actOf x) (actOf m) with h | h | h
    · rw [setL_eq hs h]
      exact List.pairwise_cons.2 ⟨fun y hy => h0.1 y hy, h0.2⟩
    · rw [setL_gt h]
      refine List.pairwise_cons.2 ⟨fun y hy => ?_, setL_rise h0.2⟩
      rcases setL_mem h0.2 y hy with h1 | ⟨z, hz, h1⟩
      · rw [h1]; exact h
      · rw [h1]; exact h0.1 z hz
    · rw [setL_lt hs h]
      refine List.pairwise_cons.2 ⟨fun y hy => ?_, hs⟩
      rcases List.mem_cons.1 hy with rfl | hy
      · exact h
      · exact ltA_trans h (h0.1 y hy)
theorem setL_may {m : DotA} (hm : mayB m = true) : ∀ {l : List DotA}, RiseM l → (∀ x ∈ l, mayB x = true) → ∀ y ∈ setL m l false, mayB y = true
  | [], _, _, y, hy => by
    simp [setL] at hy
    rw [hy]; exact hm
  | x :: r, hs, hl, y, hy => by
    have h0 := List.pairwise_cons.1 hs
    have hx := hl x List.mem_cons_self
    rcases ltA_tri (actOf x) (actOf m) with h | h | h
    · rw [setL_eq hs h] at hy
      rcases List.mem_cons.1 hy with rfl | hy
      · have a := mayB_le hx
        have b := mayB_le hm
        unfold mayB
        simp only [Bool.and_eq_true, decide_eq_true_eq]
        omega
      · exact hl y (List.mem_cons_of_mem _ hy)
    · rw [setL_gt h] at hy
      rcases List.mem_cons.1 hy with rfl | hy
      · exact hx
      · exact setL_may hm h0.2 (fun z hz => hl z (List.mem_cons_of_mem _ hz)) y hy
    · rw [setL_lt hs h] at hy
      rcases List.mem_cons.1 hy with rfl | hy
      · exact hm
      · exact hl y hy
theorem markOf_setL {m : DotA} (hm : 0 ≤ m.2.2) (a : ActA) : ∀ {l : List DotA}, RiseM l → markOf (setL m l false) a = if actOf m = a then max (markOf l a) m.2.2 else markOf l a
  | [], _ => by
    have e : setL m [] false = [m] := by simp [setL]
    rw [e, markOf_cons, markOf_nil]
    split
    · omega
    · rfl
  | x :: r, hs => by
    have h0 := List.pairwise_cons.1 hs
    rcases ltA_tri (actOf x) (actOf m) with h | h | h
    · rw [setL_eq hs h, markOf_cons, markOf_cons, ← h]
      show (if actOf x = a then _ else _) = _
      by_cases e : actOf x = a
      · simp only [if_pos e]
      · simp only [if_neg e]
    · rw [setL_gt h, markOf_cons, markOf_cons, markOf_setL hm a h0.2]
      by_cases e : actOf x = a
      · have : actOf m ≠ a := fun e2 => ltA_ne h (e.trans e2.symm)
        simp only [if_pos e, if_neg this]
      · simp only [if_neg e]
    · rw [setL_lt hs h, markOf_cons]
      by_cases e : actOf m = a
      · have h1 : markOf (x :: r) a = 0 := markOf_absent fun y hy => by
          rw [← e]
          rcases List.mem_cons.1 hy with rfl | hy
          · exact Ne.symm (ltA_ne h)
          · exact Ne.symm (ltA_ne (ltA_trans h (h0.1 y hy)))
        rw [if_pos e, if_pos e, h1]; omega
      · rw [if_neg e, if_neg e]
theorem setL_ok {m : DotA} {l : List DotA} (h : OkM l) (hm : mayB m = true) : OkM (setL m l false) := by
  obtain ⟨h1, h2⟩ := okM_iff.1 h
  exact okM_iff.2 ⟨setL_may hm h2 h1, setL_rise h2⟩

/-! ### dots -/
def RiseD (ds : List DotA) : Prop := ds.Pairwise fun a b => belB a b = true
theorem belB_iff {a b : DotA} : belB a b = true ↔ a.1 < b.1 ∨ (a.1 = b.1 ∧ (a.2.1 < b.2.1 ∨ (a.2.1 = b.2.1 ∧ a.2.2 < b.2.2))) := by
  unfold belB
  by_cases h1 : a.1 = b.1
  · by_cases h2 : a.2.1 = b.2.1
    · simp [h1, h2]
    · simp [h1, h2]
  · simp [h1]
theorem belB_trans {a b c : DotA} (h : belB a b = true) (k : belB b c = true) : belB a c = true := by rw [belB_iff] at *; omega
theorem belB_irrefl (a : DotA) : belB a a = false := by
  cases h : belB a a with
  | false => rfl
  | true => rw [belB_iff] at h; omega
theorem belB_ne {a b : DotA} (h : belB a b = true) : a ≠ b := fun e => by rw [e, belB_irrefl] at h; cases h
theorem belB_tri (a b : DotA) : a = b ∨ belB a b = true ∨ belB b a = true := by
  rw [belB_iff, belB_iff]
  obtain ⟨a1, a2, a3⟩ := a
  obtain ⟨b1, b2, b3⟩ := b
  simp only [Prod.mk.injEq]
  omega
theorem insL_true {d : DotA} : ∀ l : List DotA, insL d l true = l
  | [] => rfl
  | x :: r => by unfold insL; simp [insL_true r]
theorem insL_eq {d x : DotA} {r : List DotA} (h : x = d) : insL d (x :: r) false = x :: r := by
  unfold insL
  rw [show (false || decide (x = d)) = true by simpa using h]
  simp [insL_true]
theorem insL_lt {d x : DotA} {r : List DotA} (h : belB d x = true) : insL d (x :: r) false = d :: x :: r := by
  have hne : decide (x = d) = false := by simpa using Ne.symm (belB_ne h)
  unfold insL
  rw [hne, h]
  simp [insL_true]
theorem insL_gt {d x : DotA} {r : List DotA} (h : belB x d = true) : insL d (x :: r) false = x :: insL d r false := by
  have hne : decide (x = d) = false := by simpa using belB_ne h
  have hb : belB d x = false := by
    cases e : belB d x with
    | false => rfl
    | true => have := belB_trans h e; rw [belB_irrefl] at this; cases this
  conv => lhs; unfold insL
  rw [hne, hb]
  simp
theorem insL_mem {d y : DotA} : ∀ {l : List DotA}, y ∈ insL d l false ↔ y = d ∨ y ∈ l
  | [] => by simp [insL]
  | x :: r => by
    rcases belB_tri x d with h | h | h
    · rw [insL_eq h]
      constructor
      · exact .inr
      · rintro (rfl | h2)
        · rw [h]; exact List.mem_cons_self
        · exact h2
    · rw [insL_gt h, List.mem_cons, insL_mem (l := r), List.mem_cons]
      constructor
      · rintro (a | a | a)
        · exact .inr (.inl a)
        · exact .inl a
        · exact .inr (.inr a)
      · rintro (a | a | a)
        · exact .inr (.inl a)
        · exact .inl a
        · exact .inr (.inr a)
    · rw [insL_lt h, List.mem_cons]
theorem insL_rise {d : DotA} : ∀ {l : List DotA}, RiseD l → RiseD (insL d l false)
  | [], _ => by simp [insL, RiseD]
  | x :: r, hs => by
    have h0 := List.pairwise_cons.1 hs
    rcases belB_tri x d with h | h | h
    · rw [insL_eq h]; exact hs
    · rw [insL_gt h]
      refine List.pairwise_cons.2 ⟨fun y hy => ?_, insL_rise h0.2⟩
      rcases insL_mem.1 hy with rfl | hy
      · exact h
      · exact h0.1 y hy
    · rw [insL_lt h]
      refine List.pairwise_cons.2 ⟨fun y hy => ?_, hs⟩
      rcases List.mem_cons.1 hy with rfl | hy
      · exact h
      · exact belB_trans h (h0.1 y hy)

/-! ### a pass of the settling -/
structure Pass (ms0 ds ms lf : List DotA) (k : Nat) (ag : Bool) : Prop where
  ok : OkM ms
  sub : lf.Sublist (ds.take k)
  still : ag = false → ms = ms0 ∧ ∀ d ∈ lf, markOf ms0 (actOf d) + 1 < d.2.2
  less : ag = true → lf.length < k
  same : ∀ x : DotA, 1 ≤ x.2.2 → (InC ms (lf ++ ds.drop k) x ↔ InC ms0 ds x)
  len : ms.length + lf.length ≤ ms0.length + k
theorem Pass.start {ms0 ds : List DotA} (h : OkM ms0) : Pass ms0 ds ms0 [] 0 false :=
  ⟨h, by simp, fun _ => ⟨rfl, by simp⟩, (fun e => by cases e), fun x _ => by simp, by simp⟩
theorem drop_at {ds : List DotA} {k : Nat} {d : DotA} (h : ds[k]? = some d) : ds.drop k = d :: ds.drop (k + 1) := by
  obtain ⟨hi, he⟩ := List.getElem?_eq_some_iff.1 h
  rw [List.drop_eq_getElem_cons hi, he]
theorem take_at {ds : List DotA} {k : Nat} {d : DotA} (h : ds[k]? = some d) : ds.take (k + 1) = ds.take k ++ [d] := by
  rw [List.take_add_one, h]; rfl
theorem Pass.drop {ms0 ds ms lf : List DotA} {k : Nat} {ag : Bool} {d : DotA} (h : Pass ms0 ds ms lf k ag) (hd : ds[k]? = some d) (hle : d.2.2 ≤ markOf ms (actOf d)) : Pass ms0 ds ms lf (k + 1) ag := by
  refine ⟨h.ok, by rw [take_at hd]; exact h.sub.trans (List.sublist_append_left _ _), h.still, fun e => by have := h.less e; omega, fun x hx => ?_, by have := h.len; omega⟩
  rw [← h.same x hx, drop_at hd]
  unfold InC
  simp only [List.mem_append, List.mem_cons]
  constructor
  · rintro (a | a | a)
    · exact .inl a
    · exact .inr (.inl a)
    · exact .inr (.inr (.inr a))
  · rintro (a | a | a | a)
    · exact .inl a
    · exact .inr (.inl a)
    · subst a; exact .inl ⟨hx, hle⟩
    · exact .inr (.inr a)
theorem Pass.keep {ms0 ds ms lf : List DotA} {k : Nat} {ag : Bool} {d : DotA} (h : Pass ms0 ds ms lf k ag) (hd : ds[k]? = some d) (hgt : markOf ms (actOf d) + 1 < d.2.2) : Pass ms0 ds ms (lf ++ [d]) (k + 1) ag := by
  refine ⟨h.ok, by rw [take_at hd]; exact h.sub.append (List.Sublist.refl _), fun e => ?_, fun e => by have := h.less e; simp; omega, fun x hx => ?_, by have := h.len; simp; omega⟩
  · obtain ⟨e1, e2⟩ := h.still e
    refine ⟨e1, fun y hy => ?_⟩
    rcases List.mem_append.1 hy with hy | hy
    · exact e2 y hy
    · simp at hy
      rw [hy, ← e1]; exact hgt
  · rw [← h.same x hx, drop_at hd]
    unfold InC
    simp only [List.mem_append, List.mem_cons, List.not_mem_nil, or_false]
    constructor
    · rintro (a | (a | a) | a)
      · exact .inl a
      · exact .inr (.inl a)
      · exact .inr (.inr (.inl a))
      · exact .inr (.inr (.inr a))
    · rintro (a | a | a | a)
      · exact .inl a
      · exact .inr (.inl (.inl a))
      · exact .inr (.inl (.inr a))
      · exact .inr (.inr a)
theorem Pass.set {ms0 ds ms lf : List DotA} {k : Nat} {ag : Bool} {d : DotA} (h : Pass ms0 ds ms lf k ag) (hd : ds[k]? = some d) (hm : mayB d = true) (he : d.2.2 = markOf ms (actOf d) + 1) : Pass ms0 ds (setL d ms false) lf (k + 1) true := by
  have hmk := markOf_le h.ok
  have hr := (okM_iff.1 h.ok).2
  have hd0 := mayB_le hm
  refine ⟨setL_ok h.ok hm, by rw [take_at hd]; exact h.sub.trans (List.sublist_append_left _ _), (fun e => by cases e), fun _ => ?_, fun x hx => ?_, ?_⟩
  · have h1 := h.sub.length_le
    have h2 : (ds.take k).length ≤ k := List.length_take_le _ _
    omega
  · rw [← h.same x hx, drop_at hd]
    unfold InC
    rw [markOf_setL (by omega) _ hr]
    simp only [List.mem_append, List.mem_cons]
    have hxd : x = d ↔ actOf d = actOf x ∧ x.2.2 = d.2.2 := by
      constructor
      · intro e; rw [e]; exact ⟨rfl, rfl⟩
      · rintro ⟨e1, e2⟩
        obtain ⟨x1, x2, x3⟩ := x
        obtain ⟨d1, d2, d3⟩ := d
        simp only [actOf, Prod.mk.injEq] at e1 e2 ⊢
        omega
    by_cases ha : actOf d = actOf x
    · rw [if_pos ha]
      rw [ha] at he
      constructor
      · rintro (a | a | a)
        · by_cases hc : x.2.2 ≤ markOf ms (actOf x)
          · exact .inl ⟨hx, hc⟩
          · exact .inr (.inr (.inl (hxd.2 ⟨ha, by omega⟩)))
        · exact .inr (.inl a)
        · exact .inr (.inr (.inr a))
      · rintro (a | a | a | a)
        · exact .inl ⟨hx, by omega⟩
        · exact .inr (.inl a)
        · have := (hxd.1 a).2
          exact .inl ⟨hx, by omega⟩
        · exact .inr (.inr a)
    · rw [if_neg ha]
      constructor
      · rintro (a | a | a)
        · exact .inl a
        · exact .inr (.inl a)
        · exact .inr (.inr (.inr a))
      · rintro (a | a | a | a)
        · exact .inl a
        · exact .inr (.inl a)
        · exact absurd (hxd.1 a).1 ha
        · exact .inr (.inr a)
  · have h1 := setL_len d ms false
    have h2 := h.len
    omega
end Go.Proofs.Ytnlohijpcnoamaa
