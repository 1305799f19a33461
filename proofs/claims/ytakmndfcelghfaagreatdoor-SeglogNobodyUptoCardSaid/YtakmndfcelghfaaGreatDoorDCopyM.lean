/- A disk copied: the mathematics, and what one round leaves. -/
import Derived.Test.YtakmndfcelghfaaGreatDoorDAppend2
namespace Go.Proofs.YtakmndfcelghfaaGreatDoor
open Go.RowKit
open Go.Lib (byteCells byteCells_length)

/-- The files that are no more to come. -/
def doneF (fs : List FileA) (left : Lit → Bool) : List FileA := fs.filter fun f => !left (.string f.1)
theorem doneF_cons (f : FileA) (r : List FileA) (left : Lit → Bool) : doneF (f :: r) left = if left (.string f.1) = true then doneF r left else f :: doneF r left := by
  unfold doneF
  rw [List.filter_cons]
  by_cases h : left (.string f.1) = true <;> simp [h]
theorem doneF_start {fs : List FileA} {left : Lit → Bool} (h : ∀ f ∈ fs, left (.string f.1) = true) : doneF fs left = [] := by
  unfold doneF
  rw [List.filter_eq_nil_iff]
  intro f hf
  simp [h f hf]
theorem doneF_end {fs : List FileA} {left : Lit → Bool} (h : ∀ kl, left kl = false) : doneF fs left = fs := by
  unfold doneF
  rw [List.filter_eq_self]
  intro f _
  simp [h]
theorem doneF_same {fs : List FileA} {left left' : Lit → Bool} (h : ∀ f ∈ fs, left (.string f.1) = left' (.string f.1)) : doneF fs left = doneF fs left' := by
  unfold doneF
  exact List.filter_congr fun f hf => by rw [h f hf]
theorem insF_head {x : FileA} : ∀ {l : List FileA}, (∀ g ∈ l, bytesBefore x.1 g.1 = true) → insF x l = x :: l
  | [], _ => rfl
  | y :: r, h => by unfold insF; rw [if_pos (h y List.mem_cons_self)]
theorem mem_doneF {fs : List FileA} {left : Lit → Bool} {f : FileA} (h : f ∈ doneF fs left) : f ∈ fs ∧ left (.string f.1) = false := by
  have := List.mem_filter.1 h
  exact ⟨this.1, by simpa using this.2⟩
theorem doneF_sorted {fs : List FileA} {left : Lit → Bool} (h : Sorted fs) : Sorted (doneF fs left) := h.filter _
theorem doneF_look {fs : List FileA} {left : Lit → Bool} {n : List UInt8} (h : left (.string n) = true) : look (doneF fs left) n = none := by
  cases e : look (doneF fs left) n with
  | none => rfl
  | some x =>
    have := (mem_doneF (look_some e)).2
    simp only at this
    rw [h] at this
    cases this
theorem doneF_step {n : List UInt8} {x : List UInt8 × Nat} {left : Lit → Bool} (hleft : left (.string n) = true) : ∀ {fs : List FileA}, Sorted fs → look fs n = some x →
    doneF fs (fun z => left z && !z.sameKey (.string n)) = insF (n, x) (doneF fs left)
  | [], _, hl => by cases hl
  | f :: r, hs, hl => by
    have h1 := List.pairwise_cons.1 hs
    rw [doneF_cons, doneF_cons]
    by_cases hn : f.1 = n
    · have e : x = f.2 := by
        have : look (f :: r) n = some f.2 := by unfold look; simp [hn]
        rw [this] at hl; injection hl with hl; exact hl.symm
      have e2 : doneF r (fun z => left z && !z.sameKey (.string n)) = doneF r left := doneF_same fun g hg => by
        have hne : (g.1 == n) = false := by
          rw [beq_eq_false_iff_ne]
          exact fun eg => bb_ne (h1.1 g hg) (hn.trans eg.symm)
        simp [sameKey_str, hne]
      subst hn
      subst e
      have e3 : ¬ ((left (.string f.1) && !(Lit.string f.1).sameKey (.string f.1)) = true) := by rw [sameKey_str]; simp
      have e4 : insF (f.1, f.2) (doneF r left) = (f.1, f.2) :: doneF r left := insF_head fun g hg => h1.1 g (mem_doneF hg).1
      rw [if_neg e3, e2, if_pos hleft, e4]
    · have e : look (f :: r) n = look r n := by unfold look; simp [hn]
      rw [e] at hl
      have hne : (f.1 == n) = false := by simpa using hn
      have e3 : (left (.string f.1) && !(Lit.string f.1).sameKey (.string n)) = left (.string f.1) := by rw [sameKey_str, hne]; simp
      have ih := doneF_step hleft h1.2 hl
      simp only [e3, ih]
      by_cases hf : left (.string f.1) = true
      · simp [hf]
      · rw [if_neg hf, if_neg hf]
        have hb : bytesBefore n f.1 = false := bb_asymm (h1.1 _ (look_some hl))
        show _ = if bytesBefore n f.1 then _ else _
        rw [if_neg (by rw [hb]; simp)]
theorem doneF_used {fs : List FileA} (left : Lit → Bool) : used (doneF fs left) ≤ used fs := by
  induction fs with
  | nil => exact Nat.le_refl _
  | cons f r ih =>
    rw [doneF_cons]
    split
    · rw [used_cons]; omega
    · rw [used_cons, used_cons]; omega
theorem doneF_length {fs : List FileA} (left : Lit → Bool) : (doneF fs left).length ≤ fs.length := List.length_filter_le _ _
theorem doneF_room {fs : List FileA} {n : List UInt8} {x : List UInt8 × Nat} {left : Lit → Bool} (hs : Sorted fs) (hl : look fs n = some x) (hleft : left (.string n) = true) :
    used (doneF fs left) + x.1.length ≤ used fs ∧ (doneF fs left).length + 1 ≤ fs.length := by
  have h1 := doneF_step hleft hs hl
  have h2 := doneF_used (fs := fs) (fun z => left z && !z.sameKey (.string n))
  have h3 := doneF_length (fs := fs) (fun z => left z && !z.sameKey (.string n))
  rw [h1] at h2 h3
  rw [used_insF] at h2
  rw [insF_length] at h3
  simp only at h2
  omega

/-- One file more in the new disk. -/
theorem copy_step {w1 w2 w4 : World} {tag' : Nat → Option Tag} {c m cc : Nat} {room : Int} {bl : List UInt8 → Nat} {gs : List FileA} {n : List UInt8} {x : List UInt8 × Nat} {g : Nat} {v : Value} (h : Holds w1 tag' c room gs)
    (g1 : w1.heap[c]? = some (.cells #[.int .i64 room, .map (some m)] 42 (0, 0))) (g3 : tag' m = some .map) (g5 : ∀ f ∈ gs, FileAt w1 tag' bl f) (hl : look gs n = none)
    (k0 : w2.heap[g]? = some (.cells #[v, .int .i64 (x.2 : Int)] 168 (0, 0))) (ho : Own w2 w1.heap.size v x.1) (hg : w1.heap.size ≤ g) (hvg : v.ownBlock ≠ some g) (hb : Below w1.heap.size w1 w2) (hx : x.2 ≤ x.1.length)
    (h4 : w4.ownsMap Tryz.prog 9 ptrElem m cc (mapD (upd bl n g) (insF (n, x) gs))) (hg4 : w2.grownBy w4 (some m)) (hfit : (used gs : Int) + x.1.length ≤ room) (hfew : gs.length < 64) :
    ∃ tag'', Holds w4 tag'' c room (insF (n, x) gs) ∧ (∀ k, tag'' k ≠ none → tag' k ≠ none ∨ w1.heap.size ≤ k) ∧ ∀ k, k < w1.heap.size → tag' k = none → tag'' k = none ∧ w4.heap[k]? = w1.heap[k]? := by
  have mlt := h.tags m (by rw [g3]; simp)
  have z2 := hb.size
  have z4 := hg4.size
  have glt : g < w2.heap.size := (Array.getElem?_eq_some_iff.1 k0).1
  have vlt := fun b (e : v.ownBlock = some b) => ho.lt b e
  have same : ∀ k, k < w1.heap.size → tag' k ≠ some .map → w4.heap[k]? = w1.heap[k]? := fun k hk hm =>
    (hg4.block k (by omega) (fun e => by injection e with e; rw [e] at hm; exact hm g3)).trans (hb.block k hk)
  refine ⟨fun k => if some k = v.ownBlock then some (.bytes n) else if k = g then some (.file n) else tag' k, ?_, fun k hk => ?_, fun k hk hn => ⟨?_, same k hk (by rw [hn]; simp)⟩⟩
  · refine h.newfile (m := m) (v := v) g1 ?_ h4 g5 hl ?_ ?_ (fun b hb => by show (if some b = _ then _ else _) = _; rw [if_pos hb.symm]) hx ?_ (fun k hk t0 t1 => ⟨same k hk t1, ?_⟩) (fun k hk => ?_) hfit hfew
    · rw [if_neg (fun e => by have := vlt m e.symm; omega), if_neg (by omega)]; exact g3
    · exact (hg4.block g glt (by simp; omega)).trans k0
    · exact (ho.base_le (Nat.zero_le _)).same fun b hb => hg4.block b (vlt b hb).2 (by have := vlt b hb; simp; omega)
    · rw [if_neg (fun e => hvg e.symm), if_pos rfl]
    · rw [if_neg (fun e => by have := vlt k e.symm; omega), if_neg (by omega)]
    · by_cases e : some k = v.ownBlock
      · have := vlt k e.symm; omega
      · rw [if_neg e] at hk
        by_cases e2 : k = g
        · omega
        · rw [if_neg e2] at hk
          have := h.tags k hk
          omega
  · by_cases e : some k = v.ownBlock
    · exact .inr (vlt k e.symm).1
    · dsimp only at hk
      rw [if_neg e] at hk
      by_cases e2 : k = g
      · exact .inr (by omega)
      · rw [if_neg e2] at hk
        exact .inl hk
  · show (if some k = v.ownBlock then _ else _) = _
    rw [if_neg (fun e => by have := vlt k e.symm; omega), if_neg (by omega)]
    exact hn
end Go.Proofs.YtakmndfcelghfaaGreatDoor
