/- Spans: a slice of the call's own, and one appended. -/
import Derived.Test.YtfplblhmeohhmaaCWrong
namespace Go.Proofs.Ytfplblhmeohhmaa
open Go.RowKit Go.Sort Go.BigFrame
open Go.Lib (byteCells byteCells_length)

theorem infoSpan : (Try.prog.info? 156).map (fun i => (i.zero, i.size, i.bytes)) = some (some (.agg #[.int .i64 0, .int .i64 0, .int .i64 0, .int .i64 0]), 4, 32) := by kernel_rfl
/-- The cells of dots, one behind the other. -/
def scells (ds : List SpanA) : List Value := ds.flatMap fun d => encS d
theorem scells_cons (d : SpanA) (ds : List SpanA) : scells (d :: ds) = .int .i64 d.1 :: .int .i64 d.2.1 :: .int .i64 d.2.2.1 :: .int .i64 d.2.2.2 :: scells ds := rfl
theorem scells_append (a b : List SpanA) : scells (a ++ b) = scells a ++ scells b := by unfold scells; rw [List.flatMap_append]
theorem scells_snoc (ds : List SpanA) (d : SpanA) : scells (ds ++ [d]) = scells ds ++ encS d := scells_append ds [d]
theorem scells_length : ∀ ds : List SpanA, (scells ds).length = ds.length * 4
  | [] => rfl
  | d :: r => by rw [scells_cons]; simp only [List.length_cons, scells_length r]; omega
theorem scells_at : ∀ (ds : List SpanA) (j : Nat) (d : SpanA), ds[j]? = some d → (scells ds)[j * 4]? = some (.int .i64 d.1) ∧ (scells ds)[j * 4 + 1]? = some (.int .i64 d.2.1) ∧ (scells ds)[j * 4 + 2]? = some (.int .i64 d.2.2.1) ∧ (scells ds)[j * 4 + 3]? = some (.int .i64 d.2.2.2)
  | [], _, _, h => by simp at h
  | x :: r, 0, d, h => by
    have e : x = d := by simpa using h
    subst e
    exact ⟨rfl, rfl, rfl, rfl⟩
  | x :: r, j + 1, d, h => by
    have := scells_at r j d (by simpa using h)
    rw [scells_cons, show (j + 1) * 4 = j * 4 + 4 by omega]
    simpa using this
/-- A slice of the call's own that holds these dots. -/
def OwnS (T : TypeId) (w : World) (base : Nat) (v : Value) (ds : List SpanA) : Prop := w.ownsRow base T 4 v ds.length (scells ds)
theorem OwnS.rd {T : TypeId} {w : World} {base : Nat} {v : Value} {ds : List SpanA} (h : OwnS T w base v ds) : RdS w v ds := by
  rcases h.2 with ⟨rfl, hn⟩ | ⟨g, cap, cur, rfl, hb, hg, hc, _⟩
  · have : ds = [] := List.length_eq_zero_iff.1 hn
    subst this
    exact ⟨none, 0, rfl, Nat.le_refl _, fun j d hd => by simp at hd⟩
  · refine ⟨_, cap, rfl, hc, fun j d hd => ⟨⟨g, 0, none⟩, rfl, (World.ownsRow.lt h g rfl).2, ?_⟩⟩
    obtain ⟨a0, a1, a2, a3⟩ := scells_at ds j d hd
    have c0 := World.ownsRow.cells h (g := g) rfl _ _ a0
    have c1 := World.ownsRow.cells h (g := g) rfl _ _ a1
    have c2 := World.ownsRow.cells h (g := g) rfl _ _ a2
    have c3 := World.ownsRow.cells h (g := g) rfl _ _ a3
    have e : ∀ k, (⟨g, 0, none⟩ : Addr).add k = ⟨g, k, none⟩ := fun k => by unfold Addr.add; split <;> simp_all
    rw [e] at c0 c1 c2 c3
    rw [e]
    exact ⟨c0, c1, c2, c3⟩
theorem OwnS.below {T : TypeId} {w w' : World} {base : Nat} {v : Value} {ds : List SpanA} (h : OwnS T w base v ds) (hb : Below w.heap.size w w') : OwnS T w' base v ds := by
  refine World.ownsRow.kept (row := none) h ⟨hb.os, hb.tape, hb.output, hb.size, fun k hk _ => hb.block k hk⟩ ?_
  cases v.ownBlock <;> simp
theorem ownS_nil (T : TypeId) (w : World) (base : Nat) : OwnS T w base (.slice none 0 0) [] := World.ownsRow_nil w base T 4
theorem OwnS.base_le {T : TypeId} {w : World} {lo base : Nat} {v : Value} {ds : List SpanA} (h : OwnS T w base v ds) (hb : lo ≤ base) : OwnS T w lo v ds := by
  refine ⟨h.1, ?_⟩
  rcases h.2 with hn | ⟨g, cap, cur, hv, hg, r⟩
  · exact .inl hn
  · exact .inr ⟨g, cap, cur, hv, by omega, r⟩

theorem run_append_span {T ST : TypeId} (ht : Try.prog.underlying ST = some (.slice T)) (hT : (Try.prog.info? T).map (fun i => (i.zero, i.size, i.bytes)) = some (some (.agg #[.int .i64 0, .int .i64 0, .int .i64 0, .int .i64 0]), 4, 32))
    (w : World) (ty : TypeId) {base : Nat} {v : Value} {ds : List SpanA} (d : SpanA) (hown : OwnS T w base v ds) (hl : ds.length ≤ 1099511627776) (hbase : base ≤ w.heap.size) :
    ∃ v' w', (Builtin.append_ #[ST, ST] ty #[v, .slice (some ⟨w.heap.size, 0, none⟩) 1 1]).run Try.prog (w.alloc (.cells #[.int .i64 d.1, .int .i64 d.2.1, .int .i64 d.2.2.1, .int .i64 d.2.2.2] T)) = .ok v' w' ∧ OwnS T w' base v' (ds ++ [d]) ∧ w.grownBy w' v.ownBlock ∧
      (v'.ownBlock = v.ownBlock ∨ ∃ g, v'.ownBlock = some g ∧ w.heap.size ≤ g) := by
  obtain ⟨i0, hi0, hz0, hz1, hz2⟩ := info_parts hT
  have hb : Below w.heap.size w (w.alloc (.cells #[.int .i64 d.1, .int .i64 d.2.1, .int .i64 d.2.2.1, .int .i64 d.2.2.2] T)) := (Below.refl _ _).alloc (Nat.le_refl _) _
  obtain ⟨v', w', a1, a2, a3, _, a5⟩ := run_append_own_at (P := Try.prog) (w.alloc (.cells #[.int .i64 d.1, .int .i64 d.2.1, .int .i64 d.2.2.1, .int .i64 d.2.2.2] T)) base ST ty T i0 _ 4 32 ht hi0 hz0 hz1 hz2 rfl (by decide)
    v ds.length (scells ds) (OwnS.below hown hb) ⟨w.heap.size, 0, none⟩ 1 1 (encS d) rfl (fun j u hu => by
      have e : (⟨w.heap.size, 0, none⟩ : Addr).add j = ⟨w.heap.size, j, none⟩ := by unfold Addr.add; split <;> simp_all
      rw [e, box_cell]
      simpa [encS] using hu) (by simp [Value.oneCell', encS]) (by unfold maxLen; omega) (by omega) (by simp; omega)
  refine ⟨v', w', a1, ?_, ⟨a3.os, a3.tape, a3.output, Nat.le_trans (by simp) a3.size, fun k hk hne => (a3.block k (by simp; omega) hne).trans (hb.block k hk)⟩, ?_⟩
  · unfold OwnS
    rw [scells_snoc, List.length_append]
    exact a2
  · rcases a5 with h | h
    · exact .inl h
    · exact .inr ⟨_, h, by simp⟩

theorem wpList_append_span {T ST : TypeId} (ht : Try.prog.underlying ST = some (.slice T)) (hT : (Try.prog.info? T).map (fun i => (i.zero, i.size, i.bytes)) = some (some (.agg #[.int .i64 0, .int .i64 0, .int .i64 0, .int .i64 0]), 4, 32))
    {ops : Array Oper} {rest : List Oper} {o : Oper} {a : Act} {Q : Exit → Act → World → Prop} (w : World) (hgd : o.guard = none) (s x : Operand)
    (ho : o.op = .call { callee := .builtin .append, args := #[s, x], argTypes := #[ST, ST] })
    {base : Nat} {v : Value} {ds : List SpanA} (d : SpanA) (hs : a.eval s = v) (hx : a.eval x = .slice (some ⟨w.heap.size, 0, none⟩) 1 1) (hown : OwnS T w base v ds) (hl : ds.length ≤ 1099511627776) (hbase : base ≤ w.heap.size)
    (h : ∀ v' w', OwnS T w' base v' (ds ++ [d]) → w.grownBy w' v.ownBlock → (v'.ownBlock = v.ownBlock ∨ ∃ g, v'.ownBlock = some g ∧ w.heap.size ≤ g) → wpList Try.prog ops Q rest (a.put o.dst v') w') :
    wpList Try.prog ops Q (o :: rest) a (w.alloc (.cells #[.int .i64 d.1, .int .i64 d.2.1, .int .i64 d.2.2.1, .int .i64 d.2.2.2] T)) := by
  refine wpList_plain hgd fun K hK => ?_
  obtain ⟨v', w', hrun, h2, h3, h4⟩ := run_append_span ht hT w o.type d hown hl hbase
  unfold Oper.wp execOp
  simp only [ho, resolve, invoke, builtin, Sem.run_bind, Sem.run_pure, Result.andThen_ok, List.map_toArray, List.map_cons, List.map_nil, hs, hx, hrun]
  exact hK _ _ (h v' w' h2 h3 h4)

end Go.Proofs.Ytfplblhmeohhmaa
