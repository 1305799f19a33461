/- A call changes no file but those that it names: the mathematics; and one list of names behind another. -/
import Derived.Test.YtaignkjcogmcjaaDPair
namespace Go.Proofs.Ytaignkjcogmcjaa
open Go.RowKit
open Go.Lib (byteCells byteCells_length)

theorem app_apart {room : Int} {fs : List FileA} {m b n : List UInt8} (h : m ≠ n) : look (appF room fs m b) n = look fs n := by
  unfold appF ans
  split
  · rfl
  · cases hl : look fs m with
    | none =>
      simp only
      split
      · exact look_insF_ne h _
      · rfl
    | some x =>
      simp only
      split
      · rw [look_setF, if_neg (Ne.symm h)]
      · rfl
theorem call_apart {room : Int} {fs : List FileA} {o : DoA} {n : List UInt8} (h5 : opN o.op ≤ 5) (h1 : o.nm.data.toList ≠ n) (h2 : opN o.op = 4 → o.ot.data.toList ≠ n) : look (callF room fs o) n = look fs n := by
  have h8 := op_lt o.op
  unfold callF
  match hk : opN o.op, h8 with
  | 0, _ => exact app_apart h1
  | 1, _ => exact app_apart h1
  | 2, _ => exact app_apart h1
  | 3, _ =>
    simp only
    unfold syncF ans
    split
    · rfl
    · cases hl : look fs o.nm.data.toList with
      | none => rfl
      | some x => simp only; rw [look_setF, if_neg (Ne.symm h1)]
  | 4, _ =>
    simp only
    unfold renF
    split
    · cases hl : look fs o.nm.data.toList with
      | none => rfl
      | some x =>
        simp only
        unfold place
        rw [look_insF_ne (h2 hk), look_strike_ne (h2 hk), look_strike_ne h1]
    · rfl
  | 5, _ =>
    simp only
    unfold remF ans
    split
    · rfl
    · cases hl : look fs o.nm.data.toList with
      | none => rfl
      | some x => simp only; rw [look_strike_ne h1]
  | 6, _ => omega
  | 7, _ => omega

theorem Pair.grown {w w' w2 : World} {r1 r2 : Int} {d1 d2 : Nat} {t1 t2 : Nat → Option Tag} {f1 f2 : List FileA} (h : Pair w r1 d1 t1 f1 r2 d2 t2 f2 w') {B : Nat} (h1 : ∀ k, t1 k ≠ none → k < B) (h2 : ∀ k, t2 k ≠ none → k < B) (hw : w.heap.size ≤ B) (hB : B ≤ w'.heap.size)
    {row : Option Nat} (hg : w'.grownBy w2 row) (hr : ∀ g, row = some g → B ≤ g) : Pair w r1 d1 t1 f1 r2 d2 t2 f2 w2 := by
  have hs : ∀ k, k < B → w2.heap[k]? = w'.heap[k]? := fun k hk => hg.block k (by omega) (fun e => by have := hr k e.symm; omega)
  have hb : Below w.heap.size w w2 := h.below.grown hg (Nat.le_trans hw hB) (fun g e => Nat.le_trans hw (hr g e))
  exact ⟨⟨h.one.1.same hg.size fun k hk => hs k (h1 k hk), hb, h.one.2.2⟩, ⟨h.two.1.same hg.size fun k hk => hs k (h2 k hk), hb, h.two.2.2⟩, h.apart⟩

theorem infoStr : (Try.prog.info? 9).map (fun i => (i.zero, i.size, i.bytes)) = some (some (.string .empty), 1, 16) := by kernel_rfl

theorem names_one (fs : List FileA) : ∀ u ∈ names fs, u.oneCell' = true := by
  intro u hu
  unfold names at hu
  obtain ⟨f, _, rfl⟩ := List.mem_map.1 hu
  rfl

/-- append of a list of names onto one of the call's own. -/
theorem run_append_names (w : World) (ty : TypeId) {b1 b2 : Nat} {v1 v2 : Value} {fs gs : List FileA} (h1 : w.ownsRow b1 9 1 v1 fs.length (names fs)) (h2 : w.ownsRow b2 9 1 v2 gs.length (names gs)) (hl : fs.length + gs.length ≤ 1048576) (hbase : b1 ≤ w.heap.size) :
    ∃ v' w', (Builtin.append_ #[55, 55] ty #[v1, v2]).run Try.prog w = .ok v' w' ∧ w'.ownsRow b1 9 1 v' (fs.length + gs.length) (names fs ++ names gs) ∧ w.grownBy w' v1.ownBlock := by
  obtain ⟨i0, hi0, hz0, hz1, hz2⟩ := info_parts infoStr
  by_cases h0 : gs.length = 0
  · have e : gs = [] := List.length_eq_zero_iff.1 h0
    subst e
    refine ⟨v1, w, ?_, by simpa [names] using h1, World.grownBy.refl w _⟩
    have f2 : ∃ A c, v2 = .slice A 0 c := by
      rcases h2.2 with ⟨rfl, _⟩ | ⟨g, cap, cur, rfl, _⟩
      · exact ⟨none, 0, rfl⟩
      · exact ⟨_, cap, rfl⟩
    obtain ⟨A, c, rfl⟩ := f2
    rcases h1.2 with ⟨rfl, _⟩ | ⟨g, cap, cur, rfl, _, _, hnc, _⟩
    · cases A <;> simp [Builtin.append_, run_underlying Try.underlying55, sizeOf, typeInfo, hi0, Builtin.lenOf, Builtin.firstCells, loadCells, loadCellsFrom]
    · cases A <;> simp [Builtin.append_, run_underlying Try.underlying55, sizeOf, typeInfo, hi0, Builtin.lenOf, Builtin.firstCells, hnc, storeCells, loadCells, loadCellsFrom]
  · obtain ⟨g2, c2, rfl, _, _⟩ := World.ownsRow.form h2 (by omega)
    obtain ⟨v', w', a1, a2, a3, _, a5⟩ := run_append_own_at (P := Try.prog) w b1 55 ty 9 i0 (.string .empty) 1 16 Try.underlying55 hi0 hz0 hz1 hz2 rfl (by decide)
      v1 fs.length (names fs) h1 ⟨g2, 0, none⟩ gs.length c2 (names gs) (by rw [names_length]; omega) (fun j u hu => World.ownsRow.cells h2 (g := g2) rfl j u hu) (names_one gs) (by unfold maxLen; omega) (by omega) hbase
    exact ⟨v', w', a1, a2, a3⟩
theorem wpList_append_names {ops : Array Oper} {rest : List Oper} {o : Oper} {a : Act} {Q : Exit → Act → World → Prop} (w : World) (hgd : o.guard = none) (s x : Operand)
    (ho : o.op = .call { callee := .builtin .append, args := #[s, x], argTypes := #[55, 55] })
    {b1 b2 : Nat} {v1 v2 : Value} {fs gs : List FileA} (hs : a.eval s = v1) (hx : a.eval x = v2) (h1 : w.ownsRow b1 9 1 v1 fs.length (names fs)) (h2 : w.ownsRow b2 9 1 v2 gs.length (names gs)) (hl : fs.length + gs.length ≤ 1048576) (hbase : b1 ≤ w.heap.size)
    (h : ∀ v' w', w'.ownsRow b1 9 1 v' (fs.length + gs.length) (names fs ++ names gs) → w.grownBy w' v1.ownBlock → wpList Try.prog ops Q rest (a.put o.dst v') w') : wpList Try.prog ops Q (o :: rest) a w := by
  refine wpList_plain hgd fun K hK => ?_
  obtain ⟨v', w', hrun, h3, h4⟩ := run_append_names w o.type h1 h2 hl hbase
  unfold Oper.wp execOp
  simp only [ho, resolve, invoke, builtin, Sem.run_bind, Sem.run_pure, Result.andThen_ok, List.map_toArray, List.map_cons, List.map_nil, hs, hx, hrun]
  exact hK _ _ (h v' w' h3 h4)
end Go.Proofs.Ytaignkjcogmcjaa
