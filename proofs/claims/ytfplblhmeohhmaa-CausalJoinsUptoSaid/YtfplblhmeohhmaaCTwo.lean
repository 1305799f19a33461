/- Two rows that a call builds by appends, in whatever order. -/
import Derived.Test.YtfplblhmeohhmaaCJoin
import Derived.Deep.RegionLaw
namespace Go.Proofs.Ytfplblhmeohhmaa
open Go.RowKit Go.Sort Go.BigFrame
open Go.Lib (byteCells byteCells_length)

/-- A row of one's own, or a slice without room. -/
def OwnE (T : TypeId) (w : World) (base : Nat) (v : Value) (xs : List DotA) (r : Option Nat) : Prop :=
  (OwnD T w base v xs ∧ r = _root_.Go.Value.ownBlock v) ∨ (xs = [] ∧ r = none ∧ ∃ g, v = .slice (some ⟨g, 0, none⟩) 0 0)
theorem OwnE.rd {T : TypeId} {w : World} {base : Nat} {v : Value} {xs : List DotA} {r : Option Nat} (h : OwnE T w base v xs r) : RdD w v xs := by
  rcases h with ⟨h, _⟩ | ⟨rfl, _, g, rfl⟩
  · exact h.rd
  · exact ⟨some ⟨g, 0, none⟩, 0, rfl, Nat.le_refl _, fun j d hd => by simp at hd⟩
theorem OwnE.lt {T : TypeId} {w : World} {base : Nat} {v : Value} {xs : List DotA} {r : Option Nat} (h : OwnE T w base v xs r) {g : Nat} (hr : r = some g) : base ≤ g ∧ g < w.heap.size := by
  rcases h with ⟨h, e⟩ | ⟨_, e, _⟩
  · exact World.ownsRow.lt h g (e ▸ hr)
  · rw [e] at hr; cases hr
theorem OwnE.keep {T : TypeId} {w w' : World} {base : Nat} {v : Value} {xs : List DotA} {r : Option Nat} (h : OwnE T w base v xs r) (hs : ∀ g, r = some g → w'.heap[g]? = w.heap[g]?) : OwnE T w' base v xs r := by
  rcases h with ⟨h, e⟩ | ⟨e1, e2, g, e3⟩
  · exact .inl ⟨ownD_of_block h fun g eg => hs g (e ▸ eg), e⟩
  · exact .inr ⟨e1, e2, g, e3⟩
/-- The row r has turned, blocks have come: nothing else. -/
def Grown2 (w w' : World) (r : Option Nat) : Prop := w.grownBy w' r
theorem run_append_empty {T ST : TypeId} (ht : Try.prog.underlying ST = some (.slice T)) (hT : (Try.prog.info? T).map (fun i => (i.zero, i.size, i.bytes)) = some (some (.agg #[.int .i64 0, .int .i64 0, .int .i64 0]), 3, 24))
    (w : World) (ty : TypeId) (g : Nat) (a : Addr) (n c : Nat) (hn : n ≠ 0) (hn2 : n ≤ 1099511627776) :
    (Builtin.append_ #[ST, ST] ty #[.slice (some ⟨g, 0, none⟩) 0 0, .slice (some a) n c]).run Try.prog w = (Builtin.append_ #[ST, ST] ty #[.slice none 0 0, .slice (some a) n c]).run Try.prog w := by
  obtain ⟨i0, hi0, hz0, hz1, hz2⟩ := info_parts hT
  have hb : ¬ (281474976710656 < Builtin.nextslicecap n 0 * i0.bytes) := Nat.not_lt.2 (growslice_fits (by omega) (by rw [hz2]; omega))
  simp [Builtin.append_, run_underlying ht, sizeOf, typeInfo, hi0, Builtin.lenOf, Builtin.firstCells, loadCells, loadCellsFrom, hn, hb]
theorem run_append_e {T ST : TypeId} (ht : Try.prog.underlying ST = some (.slice T)) (hT : (Try.prog.info? T).map (fun i => (i.zero, i.size, i.bytes)) = some (some (.agg #[.int .i64 0, .int .i64 0, .int .i64 0]), 3, 24))
    (w : World) (ty : TypeId) {base hi : Nat} {v : Value} {xs ys : List DotA} {r : Option Nat} (hown : OwnE T w base v xs r) {A : Option Addr} {c : Nat} (hr : RdDA w hi A ys)
    (hm : xs.length + ys.length ≤ 1099511627776) (hbase : base ≤ w.heap.size) :
    ∃ A' n' c' w' r', (Builtin.append_ #[ST, ST] ty #[v, .slice A ys.length c]).run Try.prog w = .ok (.slice A' n' c') w' ∧ OwnE T w' base (.slice A' n' c') (xs ++ ys) r' ∧ w.grownBy w' r ∧ (r' = r ∨ r' = none ∨ r' = some w.heap.size) := by
  rcases hown with ⟨h, e⟩ | ⟨rfl, rfl, g, rfl⟩
  · obtain ⟨v', w', h1, h2, h3, h4⟩ := run_append_dots ht hT w ty h (c := c) hr hm hbase
    obtain ⟨A', c', rfl⟩ := ownD_slice h2
    exact ⟨A', _, c', w', _, h1, .inl ⟨h2, rfl⟩, e ▸ h3, by rw [e]; exact h4.elim .inl fun k => .inr (.inr k)⟩
  · obtain ⟨i0, hi0, hz0, hz1, hz2⟩ := info_parts hT
    by_cases h0 : ys = []
    · subst h0
      refine ⟨some ⟨g, 0, none⟩, 0, 0, w, none, ?_, .inr ⟨rfl, rfl, g, rfl⟩, World.grownBy.refl w _, .inl rfl⟩
      cases A <;> simp [Builtin.append_, run_underlying ht, sizeOf, typeInfo, hi0, Builtin.lenOf, Builtin.firstCells, storeCells, loadCells, loadCellsFrom]
    · obtain ⟨y, hy⟩ : ∃ y, ys[0]? = some y := ⟨ys[0]'(List.length_pos_iff.2 h0), List.getElem?_eq_getElem _⟩
      obtain ⟨ad, rfl, _, _⟩ := hr 0 y hy
      have hl0 : ys.length ≠ 0 := fun e => h0 (List.length_eq_zero_iff.1 e)
      obtain ⟨v', w', h1, h2, h3, h4⟩ := run_append_dots ht hT w ty (ownD_nil T w base) (c := c) hr (by simpa using hm) hbase
      obtain ⟨A', c', rfl⟩ := ownD_slice h2
      refine ⟨A', _, c', w', _, (run_append_empty ht hT w ty g ad _ c hl0 (by simp at hm; omega)).trans h1, .inl ⟨h2, rfl⟩, h3, ?_⟩
      rcases h4 with h4 | h4
      · exact .inl h4
      · exact .inr (.inr h4)
/-- Two rows. -/
structure P2 (w0 w : World) (vM vD : Value) (xs ys : List DotA) (rM rD : Option Nat) : Prop where
  bel : Below w0.heap.size w0 w
  om : OwnE 55 w w0.heap.size vM xs rM
  od : OwnE 44 w w0.heap.size vD ys rD
  ap : ∀ g, rM = some g → rD ≠ some g
theorem P2.start (w : World) : P2 w w (.slice none 0 0) (.slice none 0 0) [] [] none none := ⟨Below.refl _ _, .inl ⟨ownD_nil _ _ _, rfl⟩, .inl ⟨ownD_nil _ _ _, rfl⟩, fun g e => by cases e⟩
theorem P2.grow {w0 w w' : World} {vM vD : Value} {xs ys : List DotA} {rM rD : Option Nat} (h : P2 w0 w vM vD xs ys rM rD) (hb : Below w.heap.size w w') : P2 w0 w' vM vD xs ys rM rD :=
  ⟨below_next h.bel hb, h.om.keep fun g e => hb.block g (h.om.lt e).2, h.od.keep fun g e => hb.block g (h.od.lt e).2, h.ap⟩
theorem P2.emptyM {w0 w : World} {vM vD : Value} {ys : List DotA} {rD : Option Nat} (h : P2 w0 w vM vD [] ys none rD) {g : Nat} : P2 w0 w (.slice (some ⟨g, 0, none⟩) 0 0) vD [] ys none rD := ⟨h.bel, .inr ⟨rfl, rfl, g, rfl⟩, h.od, fun g e => by cases e⟩
theorem P2.emptyD {w0 w : World} {vM vD : Value} {xs : List DotA} {rM : Option Nat} (h : P2 w0 w vM vD xs [] rM none) {g : Nat} : P2 w0 w vM (.slice (some ⟨g, 0, none⟩) 0 0) xs [] rM none := ⟨h.bel, h.om, .inr ⟨rfl, rfl, g, rfl⟩, fun _ _ e => by cases e⟩
theorem P2.nextM {w0 w w' : World} {vM vD v' : Value} {xs ys xs' : List DotA} {rM rD r' : Option Nat} (h : P2 w0 w vM vD xs ys rM rD) (ho : OwnE 55 w' w0.heap.size v' xs' r') (hg : w.grownBy w' rM) (hr : r' = rM ∨ r' = none ∨ r' = some w.heap.size) : P2 w0 w' v' vD xs' ys r' rD := by
  refine ⟨h.bel.grown hg h.bel.size fun g e => (h.om.lt e).1, ho, h.od.keep fun g e => hg.block g (h.od.lt e).2 (fun e' => h.ap g e'.symm e), fun g e e' => ?_⟩
  rcases hr with rfl | rfl | rfl
  · exact h.ap g e e'
  · cases e
  · injection e with e
    have := (h.od.lt e').2
    omega
theorem P2.nextD {w0 w w' : World} {vM vD v' : Value} {xs ys ys' : List DotA} {rM rD r' : Option Nat} (h : P2 w0 w vM vD xs ys rM rD) (ho : OwnE 44 w' w0.heap.size v' ys' r') (hg : w.grownBy w' rD) (hr : r' = rD ∨ r' = none ∨ r' = some w.heap.size) : P2 w0 w' vM v' xs ys' rM r' := by
  refine ⟨h.bel.grown hg h.bel.size fun g e => (h.od.lt e).1, h.om.keep fun g e => hg.block g (h.om.lt e).2 (fun e' => h.ap g e e'.symm), ho, fun g e e' => ?_⟩
  rcases hr with rfl | rfl | rfl
  · exact h.ap g e e'
  · cases e'
  · injection e' with e'
    have := (h.om.lt e).2
    omega
theorem step_append_M {ops : Array Oper} {o : Oper} {a : Act} {K : Act → World → Prop} {Q : Exit → Act → World → Prop} {E : Prop} (w : World) (hgd : o.guard = none) (s x : Operand)
    (ho : o.op = .call { callee := .builtin .append, args := #[s, x], argTypes := #[41, 41] }) {w0 : World} {vM vD : Value} {xs ys zs : List DotA} {rM rD : Option Nat} {A : Option Addr} {m c hi : Nat} (hs : a.eval s = vM) (hx : a.eval x = .slice A m c)
    (hp : P2 w0 w vM vD xs ys rM rD) (hr : RdDA w hi A zs) (hm : m = zs.length) (hl : xs.length + zs.length ≤ 1099511627776)
    (h : ∀ A1 n1 c1 w' r', P2 w0 w' (.slice A1 n1 c1) vD (xs ++ zs) ys r' rD → K (a.put o.dst (.slice A1 n1 c1)) w') :
    if Region.wanted o (yielded ops a.tmps) = true then Oper.wp Try.prog o a w K Q else E := by
  have hw : Region.wanted o (yielded ops a.tmps) = true := by simp [Region.wanted, hgd]
  rw [if_pos hw]
  subst hm
  obtain ⟨A', n', c', w', r', hrun, h2, h3, h4⟩ := run_append_e Try.underlying41 infoMark w o.type hp.om (c := c) hr hl hp.bel.size
  unfold Oper.wp execOp
  simp only [ho, resolve, invoke, builtin, Sem.run_bind, Sem.run_pure, Result.andThen_ok, List.map_toArray, List.map_cons, List.map_nil, hs, hx, hrun]
  exact h A' n' c' w' r' (hp.nextM h2 h3 h4)
theorem step_append_D {ops : Array Oper} {o : Oper} {a : Act} {K : Act → World → Prop} {Q : Exit → Act → World → Prop} {E : Prop} (w : World) (hgd : o.guard = none) (s x : Operand)
    (ho : o.op = .call { callee := .builtin .append, args := #[s, x], argTypes := #[42, 42] }) {w0 : World} {vM vD : Value} {xs ys zs : List DotA} {rM rD : Option Nat} {A : Option Addr} {m c hi : Nat} (hs : a.eval s = vD) (hx : a.eval x = .slice A m c)
    (hp : P2 w0 w vM vD xs ys rM rD) (hr : RdDA w hi A zs) (hm : m = zs.length) (hl : ys.length + zs.length ≤ 1099511627776)
    (h : ∀ A1 n1 c1 w' r', P2 w0 w' vM (.slice A1 n1 c1) xs (ys ++ zs) rM r' → K (a.put o.dst (.slice A1 n1 c1)) w') :
    if Region.wanted o (yielded ops a.tmps) = true then Oper.wp Try.prog o a w K Q else E := by
  have hw : Region.wanted o (yielded ops a.tmps) = true := by simp [Region.wanted, hgd]
  rw [if_pos hw]
  subst hm
  obtain ⟨A', n', c', w', r', hrun, h2, h3, h4⟩ := run_append_e Try.underlying42 infoDot w o.type hp.od (c := c) hr hl hp.bel.size
  unfold Oper.wp execOp
  simp only [ho, resolve, invoke, builtin, Sem.run_bind, Sem.run_pure, Result.andThen_ok, List.map_toArray, List.map_cons, List.map_nil, hs, hx, hrun]
  exact h A' n' c' w' r' (hp.nextD h2 h3 h4)
end Go.Proofs.Ytfplblhmeohhmaa
