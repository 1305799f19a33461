/- Which node is next, and that each gets its turn: lists of eight marks. -/
namespace Go.Proofs.Ythipdadhhelieaa

/-- The first marked place from s + i on, round, within so many; 8: none. -/
def nxF (L : List Bool) (s : Nat) : Nat → Nat → Nat
  | _, 0 => 8
  | i, f + 1 => if L.getD ((s + i) % 8) false then (s + i) % 8 else nxF L s (i + 1) f
def nx (L : List Bool) (s : Nat) : Nat := nxF L s 0 8
/-- Where one starts, behind so many turns. -/
def sq (L : List Bool) (s : Nat) : Nat → Nat
  | 0 => s
  | j + 1 => nx L (sq L s j) + 1
def cnt (L : List Bool) : Nat := L.countP id
def okL (L : List Bool) (s : Nat) : Bool := (List.range (cnt L)).all fun j => decide (nx L (sq L s j) < 8) && L.getD (nx L (sq L s j)) false && (List.range j).all fun i => nx L (sq L s i) != nx L (sq L s j)

theorem all8 {p : List Bool → Prop} (h : ∀ b0 b1 b2 b3 b4 b5 b6 b7 : Bool, p [b0, b1, b2, b3, b4, b5, b6, b7]) (L : List Bool) (hl : L.length = 8) : p L := by
  match L, hl with
  | [b0, b1, b2, b3, b4, b5, b6, b7], _ => exact h b0 b1 b2 b3 b4 b5 b6 b7
set_option maxRecDepth 100000 in
theorem okL_fin : ∀ b0 b1 b2 b3 b4 b5 b6 b7 : Bool, ∀ s : Fin 9, okL [b0, b1, b2, b3, b4, b5, b6, b7] s = true := by decide +kernel
theorem okL_all (L : List Bool) (hl : L.length = 8) (s : Nat) (hs : s ≤ 8) : okL L s = true :=
  all8 (p := fun L => okL L s = true) (fun b0 b1 b2 b3 b4 b5 b6 b7 => okL_fin b0 b1 b2 b3 b4 b5 b6 b7 ⟨s, by omega⟩) L hl
theorem turn_ok {L : List Bool} (hl : L.length = 8) {s : Nat} (hs : s ≤ 8) {j : Nat} (hj : j < cnt L) :
    nx L (sq L s j) < 8 ∧ L.getD (nx L (sq L s j)) false = true ∧ ∀ i, i < j → nx L (sq L s i) ≠ nx L (sq L s j) := by
  have h := okL_all L hl s hs
  unfold okL at h
  rw [List.all_eq_true] at h
  have h := h j (List.mem_range.2 hj)
  simp only [Bool.and_eq_true, decide_eq_true_eq, List.all_eq_true, List.mem_range, bne_iff_ne, ne_eq] at h
  exact ⟨h.1.1, h.1.2, h.2⟩
theorem nx_le (L : List Bool) (s : Nat) : nx L s ≤ 8 := by
  have : ∀ f i, nxF L s i f ≤ 8 := by
    intro f
    induction f with
    | zero => intro i; exact Nat.le_refl _
    | succ f ih =>
      intro i
      unfold nxF
      split
      · omega
      · exact ih _
  exact this 8 0
theorem sq_le {L : List Bool} (hl : L.length = 8) {s : Nat} (hs : s ≤ 8) : ∀ {j : Nat}, j ≤ cnt L → sq L s j ≤ 8
  | 0, _ => hs
  | j + 1, h => by
    have := (turn_ok hl hs (show j < cnt L by omega)).1
    show nx L (sq L s j) + 1 ≤ 8
    omega
set_option maxRecDepth 100000 in
theorem cnt_fin : ∀ b0 b1 b2 b3 b4 b5 b6 b7 : Bool, ∀ i : Fin 8, cnt ([b0, b1, b2, b3, b4, b5, b6, b7].set i true) = (if [b0, b1, b2, b3, b4, b5, b6, b7].getD i false then cnt [b0, b1, b2, b3, b4, b5, b6, b7] else cnt [b0, b1, b2, b3, b4, b5, b6, b7] + 1) := by decide +kernel
theorem cnt_set (L : List Bool) (hl : L.length = 8) (i : Nat) (hi : i < 8) : cnt (L.set i true) = if L.getD i false then cnt L else cnt L + 1 :=
  all8 (p := fun L => cnt (L.set i true) = if L.getD i false then cnt L else cnt L + 1) (fun b0 b1 b2 b3 b4 b5 b6 b7 => cnt_fin b0 b1 b2 b3 b4 b5 b6 b7 ⟨i, hi⟩) L hl
set_option maxRecDepth 100000 in
theorem none_fin : ∀ b0 b1 b2 b3 b4 b5 b6 b7 : Bool, ∀ s : Fin 9, decide (nx [b0, b1, b2, b3, b4, b5, b6, b7] s < 8) = decide (0 < cnt [b0, b1, b2, b3, b4, b5, b6, b7]) := by decide +kernel
theorem nx_none (L : List Bool) (hl : L.length = 8) (s : Nat) (hs : s ≤ 8) : decide (nx L s < 8) = decide (0 < cnt L) :=
  all8 (p := fun L => decide (nx L s < 8) = decide (0 < cnt L)) (fun b0 b1 b2 b3 b4 b5 b6 b7 => none_fin b0 b1 b2 b3 b4 b5 b6 b7 ⟨s, by omega⟩) L hl
theorem cnt_le (L : List Bool) (hl : L.length = 8) : cnt L ≤ 8 := by unfold cnt; have := List.countP_le_length (p := id) (l := L); omega

/-- The nodes among some numbers that are not one's own. -/
def mk1 (self : Int) (L : List Bool) (n : Int) : List Bool := if 0 ≤ n ∧ n < 8 ∧ n ≠ self then L.set n.toNat true else L
def marks (self : Int) (l : List Int) : List Bool := l.foldl (mk1 self) (List.replicate 8 false)
theorem mk1_len (self : Int) (L : List Bool) (n : Int) : (mk1 self L n).length = L.length := by unfold mk1; split <;> simp
theorem fold_len (self : Int) : ∀ (l : List Int) (L : List Bool), (l.foldl (mk1 self) L).length = L.length
  | [], _ => rfl
  | n :: l, L => (fold_len self l _).trans (mk1_len self L n)
theorem marks_len (self : Int) (l : List Int) : (marks self l).length = 8 := by unfold marks; rw [fold_len]; rfl
theorem marks_snoc (self : Int) (l : List Int) (n : Int) : marks self (l ++ [n]) = mk1 self (marks self l) n := by unfold marks; rw [List.foldl_append]; rfl
theorem fold_at (self : Int) : ∀ (l : List Int) (L : List Bool), L.length = 8 → ∀ i : Nat, i < 8 → (l.foldl (mk1 self) L).getD i false = (L.getD i false || (!decide ((i : Int) = self) && l.contains (i : Int)))
  | [], L, _, i, _ => by simp
  | n :: l, L, hl, i, hi => by
    rw [List.foldl_cons, fold_at self l _ (by rw [mk1_len]; exact hl) i hi]
    have e : (mk1 self L n).getD i false = (L.getD i false || (!decide ((i : Int) = self) && decide ((i : Int) = n))) := by
      unfold mk1
      by_cases h : 0 ≤ n ∧ n < 8 ∧ n ≠ self
      · rw [if_pos h]
        by_cases hin : (i : Int) = n
        · have : n.toNat = i := by omega
          rw [this]
          simp [List.getD, hl, hi, hin]
          right; exact h.2.2
        · have : n.toNat ≠ i := by omega
          simp [List.getD, this, hin]
      · rw [if_neg h]
        by_cases hin : (i : Int) = n
        · have : (i : Int) = self := by
            apply Classical.byContradiction
            intro hne
            exact h ⟨by omega, by omega, by omega⟩
          simp [this]
        · simp [hin]
    rw [e]
    have c : (n :: l).contains (i : Int) = (decide ((i : Int) = n) || l.contains (i : Int)) := by
      rw [List.contains_cons]
      congr 1
    rw [c]
    cases L.getD i false <;> cases decide ((i : Int) = self) <;> cases decide ((i : Int) = n) <;> cases l.contains (i : Int) <;> rfl
theorem marks_at (self : Int) (l : List Int) (i : Nat) (hi : i < 8) : (marks self l).getD i false = (!decide ((i : Int) = self) && l.contains (i : Int)) := by
  unfold marks
  rw [fold_at self l _ rfl i hi]
  have : (List.replicate 8 false).getD i false = false := by
    rcases (by omega : i = 0 ∨ i = 1 ∨ i = 2 ∨ i = 3 ∨ i = 4 ∨ i = 5 ∨ i = 6 ∨ i = 7) with rfl | rfl | rfl | rfl | rfl | rfl | rfl | rfl <;> rfl
  rw [this]
  rfl
end Go.Proofs.Ythipdadhhelieaa
