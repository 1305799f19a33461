/- Lists of files that rise by their names: no program. -/
import Derived.Test.YtakmndfcelghfaaGreatDoorDHeap
namespace Go.Proofs.YtakmndfcelghfaaGreatDoor
open Go.RowKit

theorem bb_trans {a b c : List UInt8} (h1 : bytesBefore a b = true) (h2 : bytesBefore b c = true) : bytesBefore a c = true :=
  WideShapes.before_trans (a := .string a) (b := .string b) (c := .string c) h1 h2
theorem bb_irrefl : ∀ a : List UInt8, bytesBefore a a = false
  | [] => rfl
  | x :: r => by
    simp only [bytesBefore, bb_irrefl r, Bool.and_false, Bool.or_false, decide_eq_false_iff_not]
    exact UInt8.lt_irrefl x
theorem bb_asymm {a b : List UInt8} (h : bytesBefore a b = true) : bytesBefore b a = false := by
  cases h2 : bytesBefore b a with
  | false => rfl
  | true => have := bb_trans h h2; rw [bb_irrefl] at this; cases this
theorem bb_ne {a b : List UInt8} (h : bytesBefore a b = true) : a ≠ b := fun e => by rw [e, bb_irrefl] at h; cases h
theorem bb_total : ∀ {a b : List UInt8}, a ≠ b → bytesBefore a b = false → bytesBefore b a = true
  | [], [], h, _ => absurd rfl h
  | [], _ :: _, _, h => by simp [bytesBefore] at h
  | _ :: _, [], _, _ => rfl
  | x :: r, y :: s, h, h2 => by
    simp only [bytesBefore, Bool.or_eq_false_iff, decide_eq_false_iff_not, Bool.and_eq_false_iff, beq_eq_false_iff_ne] at h2
    simp only [bytesBefore, Bool.or_eq_true, decide_eq_true_eq, Bool.and_eq_true, beq_iff_eq]
    by_cases hxy : x = y
    · subst hxy
      refine .inr ⟨rfl, bb_total (fun e => h (by rw [e])) ?_⟩
      rcases h2.2 with h3 | h3
      · exact absurd rfl h3
      · exact h3
    · refine .inl ?_
      have h3 := h2.1
      rw [UInt8.lt_iff_toNat_lt] at h3 ⊢
      have h4 : x.toNat ≠ y.toNat := fun e => hxy (UInt8.toNat_inj.1 e)
      omega

/-- What is written of a file, and how much of it is synced, are others. -/
def setF (fs : List FileA) (n : List UInt8) (y : List UInt8 × Nat) : List FileA := fs.map fun f => if f.1 = n then (n, y) else f

theorem setF_names (fs : List FileA) (n : List UInt8) (y : List UInt8 × Nat) : (setF fs n y).map (·.1) = fs.map (·.1) := by
  unfold setF
  rw [List.map_map]
  refine List.map_congr_left fun f _ => ?_
  show (if f.1 = n then (n, y) else f).1 = f.1
  split
  · rename_i h; exact h.symm
  · rfl
theorem setF_length (fs : List FileA) (n : List UInt8) (y : List UInt8 × Nat) : (setF fs n y).length = fs.length := by unfold setF; simp
theorem sorted_names {fs gs : List FileA} (h : fs.map (·.1) = gs.map (·.1)) (hs : Sorted gs) : Sorted fs := by
  have e : ∀ l : List FileA, Sorted l ↔ (l.map (·.1)).Pairwise fun a b => bytesBefore a b = true := fun l => by unfold Sorted; rw [List.pairwise_map]
  rw [e, h, ← e]; exact hs
theorem mapD_names {fs gs : List FileA} (bl : List UInt8 → Nat) (h : fs.map (·.1) = gs.map (·.1)) : mapD bl fs = mapD bl gs := by
  unfold mapD
  have e : ∀ l : List FileA, l.map (fun f => (Lit.string f.1, (.lit (.int .i64 (bl f.1 : Int)) : DataW Unit))) = (l.map (·.1)).map fun n => (Lit.string n, .lit (.int .i64 (bl n : Int))) := fun l => by rw [List.map_map]; rfl
  rw [e, e, h]
theorem setF_sorted {fs : List FileA} {n : List UInt8} {y : List UInt8 × Nat} (h : Sorted fs) : Sorted (setF fs n y) := sorted_names (setF_names fs n y) h
theorem mem_setF {fs : List FileA} {n : List UInt8} {y : List UInt8 × Nat} {f : FileA} (h : f ∈ setF fs n y) : f = (n, y) ∨ (f ∈ fs ∧ f.1 ≠ n) := by
  unfold setF at h
  obtain ⟨g, hg, rfl⟩ := List.mem_map.1 h
  split
  · exact .inl rfl
  · rename_i hn; exact .inr ⟨hg, hn⟩
theorem sorted_unique {fs : List FileA} (h : Sorted fs) {f g : FileA} (hf : f ∈ fs) (hg : g ∈ fs) (e : f.1 = g.1) : f = g := by
  induction fs with
  | nil => cases hf
  | cons x r ih =>
    have h1 := List.pairwise_cons.1 h
    rcases List.mem_cons.1 hf with ef | hf'
    · rcases List.mem_cons.1 hg with eg | hg'
      · rw [ef, eg]
      · rw [ef] at e; exact absurd e (bb_ne (h1.1 g hg'))
    · rcases List.mem_cons.1 hg with eg | hg'
      · rw [eg] at e; exact absurd e.symm (bb_ne (h1.1 f hf'))
      · exact ih h1.2 hf' hg'
theorem used_cons (f : FileA) (fs : List FileA) : used (f :: fs) = f.2.1.length + used fs := by unfold used; simp
theorem setF_gone {fs : List FileA} {n : List UInt8} {y : List UInt8 × Nat} (h : ∀ f ∈ fs, f.1 ≠ n) : setF fs n y = fs := by
  unfold setF
  conv => rhs; rw [← List.map_id fs]
  refine List.map_congr_left fun f hf => ?_
  rw [if_neg (h f hf)]; rfl
theorem used_setF {fs : List FileA} (h : Sorted fs) {n : List UInt8} {x : List UInt8 × Nat} (y : List UInt8 × Nat) (hl : look fs n = some x) : used (setF fs n y) + x.1.length = used fs + y.1.length := by
  induction fs with
  | nil => cases hl
  | cons f r ih =>
    have h1 := List.pairwise_cons.1 h
    by_cases hn : f.1 = n
    · have e : x = f.2 := by
        have : look (f :: r) n = some f.2 := by unfold look; simp [hn]
        rw [this] at hl; injection hl with hl; exact hl.symm
      have e2 : setF (f :: r) n y = (n, y) :: r := by
        show (if f.1 = n then (n, y) else f) :: setF r n y = _
        rw [if_pos hn, setF_gone fun g hg => fun eg => bb_ne (h1.1 g hg) (hn.trans eg.symm)]
      rw [e2, used_cons, used_cons, e]; simp only; omega
    · have e : look (f :: r) n = look r n := by unfold look; simp [hn]
      rw [e] at hl
      have e2 : setF (f :: r) n y = f :: setF r n y := by
        show (if f.1 = n then (n, y) else f) :: setF r n y = _
        rw [if_neg hn]
      have := ih h1.2 hl
      rw [e2, used_cons, used_cons]; omega
theorem strike_gone {fs : List FileA} {n : List UInt8} (h : ∀ f ∈ fs, f.1 ≠ n) : strike fs n = fs := by
  unfold strike
  rw [List.filter_eq_self]
  intro f hf
  simpa using h f hf
theorem place_setF {fs : List FileA} (h : Sorted fs) {n : List UInt8} {x : List UInt8 × Nat} (y : List UInt8 × Nat) (hl : look fs n = some x) : place fs n y = setF fs n y := by
  induction fs with
  | nil => cases hl
  | cons f r ih =>
    have h1 := List.pairwise_cons.1 h
    by_cases hn : f.1 = n
    · have hr : ∀ g ∈ r, g.1 ≠ n := fun g hg eg => bb_ne (h1.1 g hg) (hn.trans eg.symm)
      have e2 : setF (f :: r) n y = (n, y) :: r := by
        show (if f.1 = n then (n, y) else f) :: setF r n y = _
        rw [if_pos hn, setF_gone hr]
      have e3 : strike (f :: r) n = r := by
        unfold strike
        rw [List.filter_cons_of_neg (by simp [hn])]
        exact strike_gone hr
      unfold place
      rw [e2, e3]
      cases r with
      | nil => rfl
      | cons g s =>
        have : bytesBefore n g.1 = true := by rw [← hn]; exact h1.1 g (List.mem_cons_self)
        simp [insF, this]
    · have e : look (f :: r) n = look r n := by unfold look; simp [hn]
      rw [e] at hl
      have e2 : setF (f :: r) n y = f :: setF r n y := by
        show (if f.1 = n then (n, y) else f) :: setF r n y = _
        rw [if_neg hn]
      have e3 : strike (f :: r) n = f :: strike r n := by
        unfold strike
        rw [List.filter_cons_of_pos (by simp [hn])]
      have hb : bytesBefore n f.1 = false := by
        have := h1.1 _ (look_some hl)
        exact bb_asymm this
      unfold place
      rw [e2, e3]
      show (if bytesBefore n f.1 then _ else f :: insF (n, y) (strike r n)) = _
      rw [hb, if_neg (by simp)]
      have := ih h1.2 hl
      unfold place at this
      rw [this]

theorem mem_insF {x f : FileA} : ∀ {fs : List FileA}, f ∈ insF x fs ↔ f = x ∨ f ∈ fs
  | [] => by simp [insF]
  | y :: r => by
    unfold insF
    split
    · simp
    · simp only [List.mem_cons, mem_insF (fs := r)]
      constructor
      · rintro (h | h | h)
        · exact .inr (.inl h)
        · exact .inl h
        · exact .inr (.inr h)
      · rintro (h | h | h)
        · exact .inr (.inl h)
        · exact .inl h
        · exact .inr (.inr h)
theorem insF_sorted {x : FileA} : ∀ {fs : List FileA}, Sorted fs → (∀ f ∈ fs, f.1 ≠ x.1) → Sorted (insF x fs)
  | [], _, _ => by unfold insF Sorted; simp
  | y :: r, h, hne => by
    have h1 := List.pairwise_cons.1 h
    unfold insF
    split
    · rename_i hb
      refine List.pairwise_cons.2 ⟨fun g hg => ?_, h⟩
      rcases List.mem_cons.1 hg with rfl | hg
      · exact hb
      · exact bb_trans hb (h1.1 g hg)
    · rename_i hb
      have hyx : bytesBefore y.1 x.1 = true := bb_total (fun e => hne y List.mem_cons_self e.symm) (by simpa using hb)
      refine List.pairwise_cons.2 ⟨fun g hg => ?_, insF_sorted h1.2 fun f hf => hne f (List.mem_cons_of_mem _ hf)⟩
      rcases mem_insF.1 hg with rfl | hg
      · exact hyx
      · exact h1.1 g hg
theorem insF_length (x : FileA) : ∀ fs : List FileA, (insF x fs).length = fs.length + 1
  | [] => rfl
  | y :: r => by
    unfold insF
    split
    · rfl
    · simp [insF_length x r]
theorem used_insF (x : FileA) : ∀ fs : List FileA, used (insF x fs) = x.2.1.length + used fs
  | [] => by unfold insF; rw [used_cons]
  | y :: r => by
    unfold insF
    split
    · rw [used_cons]
    · rw [used_cons, used_insF x r, used_cons]; omega
theorem strike_sorted {fs : List FileA} {n : List UInt8} (h : Sorted fs) : Sorted (strike fs n) := h.filter _
theorem mem_strike {fs : List FileA} {n : List UInt8} {f : FileA} (h : f ∈ strike fs n) : f ∈ fs ∧ f.1 ≠ n := by
  have := List.mem_filter.1 h
  exact ⟨this.1, by simpa using this.2⟩
theorem strike_used (fs : List FileA) (n : List UInt8) : used (strike fs n) ≤ used fs := by
  induction fs with
  | nil => exact Nat.le_refl _
  | cons f r ih =>
    by_cases hn : f.1 = n
    · have e3 : strike (f :: r) n = strike r n := by unfold strike; rw [List.filter_cons_of_neg (by simp [hn])]
      rw [e3, used_cons]; omega
    · have e3 : strike (f :: r) n = f :: strike r n := by unfold strike; rw [List.filter_cons_of_pos (by simp [hn])]
      rw [e3, used_cons, used_cons]; omega
theorem strike_length (fs : List FileA) (n : List UInt8) : (strike fs n).length ≤ fs.length := List.length_filter_le _ _
theorem used_mem {fs : List FileA} {f : FileA} (h : f ∈ fs) : f.2.1.length ≤ used fs := by
  induction fs with
  | nil => cases h
  | cons x r ih =>
    rw [used_cons]
    rcases List.mem_cons.1 h with rfl | h
    · omega
    · have := ih h; omega
theorem place_gone {fs : List FileA} {n : List UInt8} (y : List UInt8 × Nat) (h : look fs n = none) : place fs n y = insF (n, y) fs := by
  unfold place
  rw [strike_gone (look_none h)]

/-- What a call answers of a file, by its name. -/
def ans {α : Type} (fs : List FileA) (n : List UInt8) (bad gone : α) (here : List UInt8 × Nat → α) : α :=
  if canS n = false then bad else match look fs n with | none => gone | some x => here x
theorem ans_bad {α : Type} {fs : List FileA} {n : List UInt8} {bad gone : α} {here : List UInt8 × Nat → α} (h : canS n = false) : ans fs n bad gone here = bad := by unfold ans; rw [if_pos h]
theorem ans_gone {α : Type} {fs : List FileA} {n : List UInt8} {bad gone : α} {here : List UInt8 × Nat → α} (h : canS n = true) (hl : look fs n = none) : ans fs n bad gone here = gone := by unfold ans; rw [if_neg (by simp [h]), hl]
theorem ans_here {α : Type} {fs : List FileA} {n : List UInt8} {bad gone : α} {here : List UInt8 × Nat → α} {x : List UInt8 × Nat} (h : canS n = true) (hl : look fs n = some x) : ans fs n bad gone here = here x := by unfold ans; rw [if_neg (by simp [h]), hl]
end Go.Proofs.YtakmndfcelghfaaGreatDoor
