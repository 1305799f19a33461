/- gather: what its loop keeps in memory; the spans sorted. -/
import Derived.Test.YtfplblhmeohhmaaCGatherW
import Derived.Test.YtfplblhmeohhmaaCRow
import Derived.Test.YtfplblhmeohhmaaCComp
namespace Go.Proofs.Ytfplblhmeohhmaa
open Go.RowKit Go.Sort Go.BigFrame
open Go.Lib (byteCells byteCells_length)

theorem ownS_shape {T : TypeId} {w : World} {base : Nat} {v : Value} {ss : List SpanA} {g : Nat} (h : OwnS T w base v ss) (hg : _root_.Go.Value.ownBlock v = some g) : ∃ c, v = .slice (some ⟨g, 0, none⟩) ss.length c ∧ base ≤ g ∧ g < w.heap.size ∧ ss.length ≤ c := by
  have hl := World.ownsRow.lt h g hg
  rcases h.2 with ⟨rfl, _⟩ | ⟨g', cap, cur, rfl, _, _, hc, _⟩
  · cases hg
  · injection hg with hg
    subst hg
    exact ⟨cap, rfl, hl.1, hl.2, hc⟩
/-- What the sort leaves. -/
def SortPost (base g n c : Nat) (ss : List SpanA) (w : World) (e : Ending) (w' : World) : Prop :=
  e = .returned (.tuple #[]) ∧ ∃ ss' : List SpanA, ss'.Perm ss ∧ (ss'.Pairwise fun a b => ¬ ltS b a) ∧ RdS w' (.slice (some ⟨g, 0, none⟩) n c) ss' ∧ Below base w w' ∧ w.heap.size ≤ w'.heap.size ∧ ∀ k, k < w.heap.size → k ≠ g → w'.heap[k]? = w.heap[k]?
theorem sortWorld_block {w : World} {g m k : Nat} {d : Array SpanA} {os : Array Obj} (hk : k < w.heap.size) (hne : k ≠ g) : (sortWorldK encS 4 w g 0 m d os).heap[k]? = w.heap[k]? := by
  have h3 := below_regrown (putRowK encS 4 (Sort.ahead w m) g 0 d) (putRowK encS 4 (Sort.ahead w m) g 0 d).drawn os
  have hz : (putRowK encS 4 (Sort.ahead w m) g 0 d).heap.size = w.heap.size := by simp [putRowK, putRow, mapBlock, Sort.ahead]
  have e1 := h3.block k (by rw [hz]; exact hk)
  have e2 : (putRowK encS 4 (Sort.ahead w m) g 0 d).heap[k]? = w.heap[k]? := by
    unfold putRowK putRow mapBlock
    simp only
    rw [Array.getElem?_modify, if_neg (Ne.symm hne)]
    rfl
  exact e1.trans e2
theorem sortWorld_size {w : World} {g m : Nat} {d : Array SpanA} {os : Array Obj} : w.heap.size ≤ (sortWorldK encS 4 w g 0 m d os).heap.size := by
  unfold sortWorldK
  simp only [grow, Array.size_append]
  have hz : (putRowK encS 4 (Sort.ahead w m) g 0 d).heap.size = w.heap.size := by simp [putRowK, putRow, mapBlock, Sort.ahead]
  omega
theorem sortS_any (base g n c : Nat) (ss : List SpanA) (w : World) (h : OwnS 156 w base (.slice (some ⟨g, 0, none⟩) n c) ss) (hn : n = ss.length) (hbase : base ≤ w.heap.size) (hl : n ≤ 2097152) :
    Calls Try.prog 145 #[.slice (some ⟨g, 0, none⟩) n c, .func (.func 146) #[] #[]] w (SortPost base g n c ss w) := by
  have hlt := World.ownsRow.lt h g rfl
  have hc : n ≤ c := by
    rcases h.2 with ⟨e, _⟩ | ⟨g', cap, cur, e, _, _, hc, _⟩
    · cases e
    · injection e with e1 e2 e3
      omega
  have hH := OwnS.holds h
  have es : ss.toArray.size = n := by rw [hn]; simp
  have hs := sort_any g 0 c ss.toArray w hH hlt.2 (by rw [es]; omega)
  have es' : (Value.slice (some ⟨g, 0, none⟩) ss.toArray.size c) = .slice (some ⟨g, 0, none⟩) n c := by rw [es]
  rw [es'] at hs
  refine hs.mono ?_
  rintro e w' ⟨rfl, d', m, os, hp, hso, rfl⟩
  obtain ⟨h1, h2⟩ := sorted_list hp hso
  refine ⟨rfl, d'.toList, by simpa using h1, h2, ?_, below_sorted hlt.1 hbase, sortWorld_size, fun k hk hne => sortWorld_block hk hne⟩
  have := sorted_rd (c := c) (m := m) (os := os) hH hlt.2 hp.1 (by rw [es]; exact hc)
  rwa [es'] at this
theorem RdS.length {w : World} {A : Option Addr} {n c : Nat} {ss : List SpanA} (h : RdS w (.slice A n c) ss) : ss.length = n := by
  obtain ⟨A', c', e, _⟩ := h
  injection e with _ e _
  exact e.symm

/-- The context that gather fills, in memory. -/
structure GS (g3 : Nat) (W : World) (mv dv : Value) (ms ds : List DotA) (wr : World) : Prop where
  row : wr.heap[g3]? = some (.cells #[mv, dv] 48 (0, 0))
  om : OwnD 55 wr (g3 + 1) mv ms
  od : OwnD 44 wr (g3 + 1) dv ds
  ap : ∀ g, _root_.Go.Value.ownBlock mv = some g → _root_.Go.Value.ownBlock dv ≠ some g
  bel : Below g3 W wr
theorem GS.lt {g3 : Nat} {W wr : World} {mv dv : Value} {ms ds : List DotA} (h : GS g3 W mv dv ms ds wr) : g3 < wr.heap.size := (Array.getElem?_eq_some_iff.1 h.row).1
theorem GS.grow {g3 : Nat} {W wr w2 : World} {mv dv : Value} {ms ds : List DotA} (h : GS g3 W mv dv ms ds wr) (hb : Below wr.heap.size wr w2) : GS g3 W mv dv ms ds w2 :=
  ⟨(hb.block g3 h.lt).trans h.row, h.om.below hb, h.od.below hb, h.ap, h.bel.trans (hb.mono (Nat.le_of_lt h.lt))⟩
theorem GS.mcell {g3 : Nat} {W wr : World} {mv dv : Value} {ms ds : List DotA} (h : GS g3 W mv dv ms ds wr) : wr.cell? ⟨g3, 0, none⟩ = some mv := cell_of_row wr _ 0 _ _ (0, 0) h.row
theorem GS.dcell {g3 : Nat} {W wr : World} {mv dv : Value} {ms ds : List DotA} (h : GS g3 W mv dv ms ds wr) : wr.cell? ⟨g3, 1, none⟩ = some dv := cell_of_row wr _ 1 _ _ (0, 0) h.row
/-- The dots' row has turned, or lies elsewhere now. -/
theorem GS.dots {g3 : Nat} {W w2 w5 : World} {mv dv v5 : Value} {ms ds ds5 : List DotA} (h : GS g3 W mv dv ms ds w2) (ho : OwnD 44 w5 (g3 + 1) v5 ds5) (hg : w2.grownBy w5 (_root_.Go.Value.ownBlock dv))
    (ht : _root_.Go.Value.ownBlock v5 = _root_.Go.Value.ownBlock dv ∨ ∃ g, _root_.Go.Value.ownBlock v5 = some g ∧ w2.heap.size ≤ g) :
    GS g3 W mv v5 ms ds5 (w5.setCell ⟨g3, 1, none⟩ v5) ∧ w5.cell? ⟨g3, 1, none⟩ = some dv ∧ w5.frozen? ⟨g3, 1, none⟩ = false := by
  have hro := World.ownsRow.lt h.od
  have hrm := World.ownsRow.lt h.om
  have r5 := (hg.block g3 h.lt (fun e => by have := (hro g3 e.symm).1; omega)).trans h.row
  have b5 := h.bel.grown hg (Nat.le_of_lt h.lt) (fun g e => by have := (hro g e).1; omega)
  have m5 : OwnD 55 w5 (g3 + 1) mv ms := ownD_of_block h.om fun g e => hg.block g (hrm g e).2 (fun e' => h.ap g e e'.symm)
  have ap : Apart g3 v5 := fun g e => by have := (World.ownsRow.lt ho g e).1; omega
  have apm : Apart g3 mv := fun g e => by have := (hrm g e).1; omega
  refine ⟨⟨Joins.block_setCell r5 (i := 1) v5, m5.setOther apm _, ho.setOther ap _, fun g e e' => ?_, b5.setCell (Nat.le_refl _) _⟩, cell_of_row w5 _ 1 _ _ (0, 0) r5, frozen_of_row w5 _ 1 _ _ r5⟩
  rcases ht with h1 | ⟨g', h1, h2⟩
  · exact h.ap g e (h1 ▸ e')
  · have h3 := (hrm g e).2
    rw [h1] at e'
    injection e' with e'
    omega
/-- The marks' row likewise. -/
theorem GS.marks {g3 : Nat} {W w2 w5 : World} {mv dv v5 : Value} {ms ds ms5 : List DotA} (h : GS g3 W mv dv ms ds w2) (ho : OwnD 55 w5 (g3 + 1) v5 ms5) (hg : w2.grownBy w5 (_root_.Go.Value.ownBlock mv))
    (ht : _root_.Go.Value.ownBlock v5 = _root_.Go.Value.ownBlock mv ∨ ∃ g, _root_.Go.Value.ownBlock v5 = some g ∧ w2.heap.size ≤ g) :
    GS g3 W v5 dv ms5 ds (w5.setCell ⟨g3, 0, none⟩ v5) ∧ w5.cell? ⟨g3, 0, none⟩ = some mv ∧ w5.frozen? ⟨g3, 0, none⟩ = false := by
  have hro := World.ownsRow.lt h.om
  have hrm := World.ownsRow.lt h.od
  have r5 := (hg.block g3 h.lt (fun e => by have := (hro g3 e.symm).1; omega)).trans h.row
  have b5 := h.bel.grown hg (Nat.le_of_lt h.lt) (fun g e => by have := (hro g e).1; omega)
  have m5 : OwnD 44 w5 (g3 + 1) dv ds := ownD_of_block h.od fun g e => hg.block g (hrm g e).2 (fun e' => h.ap g e'.symm e)
  have ap : Apart g3 v5 := fun g e => by have := (World.ownsRow.lt ho g e).1; omega
  have apm : Apart g3 dv := fun g e => by have := (hrm g e).1; omega
  refine ⟨⟨Joins.block_setCell r5 (i := 0) v5, ho.setOther ap _, m5.setOther apm _, fun g e e' => ?_, b5.setCell (Nat.le_refl _) _⟩, cell_of_row w5 _ 0 _ _ (0, 0) r5, frozen_of_row w5 _ 0 _ _ r5⟩
  rcases ht with h1 | ⟨g', h1, h2⟩
  · exact h.ap g (h1 ▸ e) e'
  · have h3 := (hrm g e').2
    rw [h1] at e
    injection e with e
    omega
theorem dcells_last (r : List DotA) (z : DotA) (c : Int) : dcells (r ++ [(z.1, z.2.1, c)]) = (dcells (r ++ [z])).set (r.length * 3 + 2) (.int .i64 c) := by
  rw [dcells_snoc, dcells_snoc, List.set_append, if_neg (by rw [dcells_length]; omega), dcells_length, show r.length * 3 + 2 - r.length * 3 = 2 by omega]
  rfl
/-- The last mark's count is another one. -/
theorem GS.last {g3 gm n c : Nat} {W w2 : World} {dv : Value} {r ds : List DotA} {z : DotA} (k : Int) (h : GS g3 W (.slice (some ⟨gm, 0, none⟩) n c) dv (r ++ [z]) ds w2) :
    GS g3 W (.slice (some ⟨gm, 0, none⟩) n c) dv (r ++ [(z.1, z.2.1, k)]) ds (w2.setCell ⟨gm, r.length * 3 + 2, none⟩ (.int .i64 k)) ∧ w2.cell? ⟨gm, r.length * 3 + 2, none⟩ = some (.int .i64 z.2.2) ∧ w2.frozen? ⟨gm, r.length * 3 + 2, none⟩ = false := by
  have hn : n = (r ++ [z]).length := by
    obtain ⟨A, c', e⟩ := ownD_slice h.om
    injection e
  subst hn
  have hm := World.ownsRow.lt h.om gm rfl
  have hrd := World.ownsRow.lt h.od
  have s := World.ownsRow.stored h.om (r.length * 3 + 2) (.int .i64 k)
  have ap : Apart gm dv := fun g e e' => h.ap gm rfl (e' ▸ e)
  refine ⟨⟨?_, ?_, h.od.setOther ap _, h.ap, h.bel.setCell (show g3 ≤ gm by omega) _⟩, ?_, World.ownsRow.frozenAt h.om _⟩
  · exact (s.2.block g3 h.lt (by simp; omega)).trans h.row
  · unfold OwnD
    rw [dcells_last]
    simp only [List.length_append, List.length_cons, List.length_nil] at s ⊢
    exact s.1
  · rw [World.ownsRow.cellAt h.om _ (by simp; omega), dcells_snoc, List.getElem?_append_right (by rw [dcells_length]; omega), dcells_length, show r.length * 3 + 2 - r.length * 3 = 2 by omega]
    rfl
/-- A row of spans reads, one of them. -/
theorem RdS.one {w : World} {ad : Addr} {n c k : Nat} {ss : List SpanA} {x : SpanA} (h : RdS w (.slice (some ad) n c) ss) (hx : ss[k]? = some x) : ad.block < w.heap.size ∧ SpanAt w (ad.add (k * 4)) x := by
  obtain ⟨A, c', e, _, hr⟩ := h
  injection e with e1 _ _
  subst e1
  obtain ⟨ad', e, h0, h1⟩ := hr k x hx
  injection e with e
  subst e
  exact ⟨h0, h1⟩
end Go.Proofs.Ytfplblhmeohhmaa
