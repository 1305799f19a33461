/- Two tables side by side. -/
import Derived.Test.YthipdadhhelieaaWNewOne
namespace Go.Proofs.Ythipdadhhelieaa
open Go.RowKit Go.Sort Go.BigFrame

/-- What does not turn: where the tables lie. -/
structure Fx (lo g0 g1 bx B : Nat) : Prop where
  l0 : lo ≤ g0
  l1 : lo ≤ g1
  ne : g0 ≠ g1
  x0 : bx ≠ g0
  x1 : bx ≠ g1
  b0 : g0 < B
  b1 : g1 < B
structure Sw (w0 wr : World) (g0 g1 bx B : Nat) (nw v : Value) (all : List PeerA) (ta tb : TabA) : Prop where
  bel : Below w0.heap.size w0 wr
  a : TabAt wr g0 ta
  b : TabAt wr g1 tb
  own : OwnD 38 wr B v all
  cell : wr.cell? ⟨bx, 0, none⟩ = some nw
section
variable {w0 wr : World} {g0 g1 bx B : Nat} {nw v : Value} {all : List PeerA} {ta tb : TabA}
theorem Sw.below (h : Sw w0 wr g0 g1 bx B nw v all ta tb) {V : World} (hb : Below wr.heap.size wr V) : Sw w0 V g0 g1 bx B nw v all ta tb :=
  ⟨h.bel.trans (hb.mono h.bel.size), h.a.below hb h.a.lt, h.b.below hb h.b.lt, h.own.below hb, (hb.cell (p := ⟨bx, 0, none⟩) (World.block_lt_of_cell? wr _ h.cell)).trans h.cell⟩
theorem Sw.turnA (h : Sw w0 wr g0 g1 bx B nw v all ta tb) (hf : Fx w0.heap.size g0 g1 bx B) {V : World} {T : TabA} (ht : TabAt V g0 T) (hg : Turns g0 wr.heap.size wr V) : Sw w0 V g0 g1 bx B nw v all T tb :=
  ⟨((Turns.of h.bel).trans (hg.mono h.bel.size)).below hf.l0, ht, h.b.keep (hg.block g1 h.b.lt (fun e => hf.ne e.symm)),
   ownD_of_block h.own fun g e => hg.block g (World.ownsRow.lt h.own g e).2 (by have := (World.ownsRow.lt h.own g e).1; have := hf.b0; omega),
   (World.cell?_of_block (hg.block bx (World.block_lt_of_cell? wr _ h.cell) hf.x0)).trans h.cell⟩
theorem Sw.turnB (h : Sw w0 wr g0 g1 bx B nw v all ta tb) (hf : Fx w0.heap.size g0 g1 bx B) {V : World} {T : TabA} (ht : TabAt V g1 T) (hg : Turns g1 wr.heap.size wr V) : Sw w0 V g0 g1 bx B nw v all ta T :=
  ⟨((Turns.of h.bel).trans (hg.mono h.bel.size)).below hf.l1, h.a.keep (hg.block g0 h.a.lt hf.ne), ht,
   ownD_of_block h.own fun g e => hg.block g (World.ownsRow.lt h.own g e).2 (by have := (World.ownsRow.lt h.own g e).1; have := hf.b1; omega),
   (World.cell?_of_block (hg.block bx (World.block_lt_of_cell? wr _ h.cell) hf.x1)).trans h.cell⟩
end

/-- A table that began as t0 and heard these rumours of nodes from the third on. -/
structure Inv (t0 t : TabA) (L : List PeerA) : Prop where
  self : t.self = t0.self
  two : ∀ j, j < 2 → t.val j = t0.val j
  kn : ∀ j, 2 ≤ j → j < 8 → Kn L j (t.val j)
theorem Inv.step {t0 t T : TabA} {L : List PeerA} {p : PeerA} (h : Inv t0 t L) (hs : Step t p T) : Inv t0 T (L ++ [p]) :=
  ⟨hs.self.trans h.self, fun j hj => (hs.two j hj).trans (h.two j hj), fun j h2 h8 => hs.kn L j h2 h8 (h.kn j h2 h8)⟩
theorem val_knows {t : TabA} {k : Nat} {x : PeerA} (h : t.val k = some x) : t.knows k = true := by
  unfold TabA.val at h
  by_cases hk : t.knows k = true
  · exact hk
  · rw [if_neg hk] at h; cases h
theorem val_begin (t : TabA) (h : ∀ j, 2 ≤ j → j < 8 → t.val j = none) : Inv t t [] := ⟨rfl, fun _ _ => rfl, fun j h2 h8 => by rw [h j h2 h8]; exact kn_nil j⟩
theorem inv_T1 : Inv T1 T1 [] := val_begin T1 fun j h2 h8 => by
  rcases (by omega : j = 2 ∨ j = 3 ∨ j = 4 ∨ j = 5 ∨ j = 6 ∨ j = 7) with rfl | rfl | rfl | rfl | rfl | rfl <;> decide
theorem inv_U1 : Inv U1 U1 [] := val_begin U1 fun j h2 h8 => by
  rcases (by omega : j = 2 ∨ j = 3 ∨ j = 4 ∨ j = 5 ∨ j = 6 ∨ j = 7) with rfl | rfl | rfl | rfl | rfl | rfl <;> decide
theorem peers_two (t : TabA) : t.peers 2 = (match t.val 0 with | some x => [x] | none => []) ++ (match t.val 1 with | some x => [x] | none => []) := by
  have e : ∀ k, t.peers (k + 1) = t.peers k ++ (match t.val k with | some x => [x] | none => []) := by
    intro k
    rw [peers_succ]
    unfold TabA.val
    by_cases h : t.knows k = true
    · rw [if_pos h, if_pos h]
    · rw [if_neg h, if_neg h]
  rw [e 1, e 0]
  rfl
theorem others_two {t0 t : TabA} {L : List PeerA} (h : Inv t0 t L) : ∀ y ∈ t.others, 2 ≤ y.1 := by
  intro y hy
  unfold TabA.others at hy
  obtain ⟨j, hj, hv⟩ := List.mem_filterMap.1 hy
  have hj6 := List.mem_range.1 hj
  have hK := h.kn (j + 2) (by omega) (by omega)
  rw [hv] at hK
  have := hK.2.2.1
  omega
theorem filterMap_same {α β : Type} {f g : α → Option β} (l : List α) (h : ∀ j ∈ l, f j = g j) : l.filterMap f = l.filterMap g := by
  induction l with
  | nil => rfl
  | cons x r ih =>
    rw [List.filterMap_cons, List.filterMap_cons, h x (List.mem_cons_self ..), ih fun j hj => h j (List.mem_cons_of_mem _ hj)]
theorem others_eq {t0 t u0 u : TabA} {L M : List PeerA} (h : Inv t0 t L) (k : Inv u0 u M) (hm : ∀ y, y ∈ L ↔ y ∈ M) : t.others = u.others := by
  unfold TabA.others
  refine filterMap_same _ fun j hj => ?_
  have hj6 := List.mem_range.1 hj
  exact kn_unique (h.kn (j + 2) (by omega) (by omega)) (k.kn (j + 2) (by omega) (by omega)) hm
theorem peersA {t : TabA} {L : List PeerA} (h : Inv T1 t L) : t.peers 8 = (0, 0, 1) :: t.others := by
  rw [peers_others, peers_two, h.two 0 (by decide), h.two 1 (by decide)]
  rfl
theorem peersB {t : TabA} {L : List PeerA} (h : Inv U1 t L) : t.peers 8 = (1, 0, 1) :: t.others := by
  rw [peers_others, peers_two, h.two 0 (by decide), h.two 1 (by decide)]
  rfl
theorem knowsA {t : TabA} {L : List PeerA} (h : Inv T1 t L) : t.self = ((0 : Nat) : Int) ∧ t.knows 0 = true := ⟨h.self, val_knows (x := (0, 0, 1)) (by rw [h.two 0 (by decide)]; decide)⟩
theorem knowsB {t : TabA} {L : List PeerA} (h : Inv U1 t L) : t.self = ((1 : Nat) : Int) ∧ t.knows 1 = true := ⟨h.self, val_knows (x := (1, 0, 1)) (by rw [h.two 1 (by decide)]; decide)⟩

/-- The rumours of nodes from the third on. -/
def selP (l : List PeerA) : List PeerA := l.filter fun p => decide (p.1 > 1)
theorem selP_take {l : List PeerA} {k : Nat} {d : PeerA} (h : l[k]? = some d) : selP (l.take (k + 1)) = selP (l.take k) ++ (if decide (d.1 > 1) = true then [d] else []) := by
  unfold selP
  rw [List.take_add_one, h, List.filter_append]
  congr 1
  by_cases e : d.1 > 1
  · simp [e]
  · simp [e]
theorem selP_two {l : List PeerA} {y : PeerA} (h : y ∈ selP l) : 2 ≤ y.1 := by
  have := (List.mem_filter.1 h).2
  simp at this
  omega
theorem selP_len (l : List PeerA) : (selP l).length ≤ l.length := List.length_filter_le _ _
end Go.Proofs.Ythipdadhhelieaa
