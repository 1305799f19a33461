/- Rows of pings, of messages, of rumours: appended, and kept while a table turns. -/
import Derived.Test.YthipdadhhelieaaWNewAny
namespace Go.Proofs.Ythipdadhhelieaa
open Go.RowKit Go.Sort Go.BigFrame

theorem run_append_rows {ST T : TypeId} (ht : Try.prog.underlying ST = some (.slice T)) {z : Value} {size bytes : Nat} (hT : (Try.prog.info? T).map (fun i => (i.zero, i.size, i.bytes)) = some (some z, size, bytes)) (hzs : z.cells.size = size ∧ 0 < size ∧ bytes ≤ 65536)
    (w : World) (ty : TypeId) {base basex : Nat} {v x : Value} {n m : Nat} {xs ys : List Value} (hv : w.ownsRow base T size v n xs) (hx : w.ownsRow basex T size x m ys) (h1 : ∀ u ∈ ys, u.oneCell' = true) (h63 : n + m ≤ 65536) (hbase : base ≤ w.heap.size) :
    ∃ v' w', (Builtin.append_ #[ST, ST] ty #[v, x]).run Try.prog w = .ok v' w' ∧ w'.ownsRow base T size v' (n + m) (xs ++ ys) ∧ w.grownBy w' v.ownBlock ∧ (v'.ownBlock = v.ownBlock ∨ v'.ownBlock = some w.heap.size) := by
  obtain ⟨i, hi, hz0, hz1, hz2⟩ := info_parts hT
  obtain ⟨hzs, hsz, hby⟩ := hzs
  have hbb : (n + m) * bytes ≤ 65536 * 65536 := Nat.mul_le_mul h63 hby
  rcases hx.2 with ⟨rfl, rfl⟩ | ⟨g, cap, cur, rfl, _⟩
  · have hy : ys = [] := by
      have := hx.1
      simpa using this
    subst hy
    exact ⟨v, w, run_append_owned_none (P := Try.prog) w base ST ty T i size ht hi v n xs hv, by simpa using hv, World.grownBy.refl w _, .inl rfl⟩
  · obtain ⟨v', w', hrun, h2, h3, _, h5⟩ := run_append_own_at (P := Try.prog) w base ST ty T i z size bytes ht hi hz0 hz1 hz2 hzs hsz v n xs hv ⟨g, 0, none⟩ m cap ys hx.1 (fun j u hu => World.ownsRow.cells hx rfl j u hu) h1 (by simp only [maxLen]; omega) (by omega) hbase
    exact ⟨v', w', hrun, h2, h3, h5⟩
theorem wpList_append_rows {ST T : TypeId} (ht : Try.prog.underlying ST = some (.slice T)) {z : Value} {size bytes : Nat} (hT : (Try.prog.info? T).map (fun i => (i.zero, i.size, i.bytes)) = some (some z, size, bytes)) (hzs : z.cells.size = size ∧ 0 < size ∧ bytes ≤ 65536)
    {ops : Array Oper} {rest : List Oper} {o : Oper} {a : Act} {Q : Exit → Act → World → Prop} (w : World) (hgd : o.guard = none) (s x : Operand)
    (ho : o.op = .call { callee := .builtin .append, args := #[s, x], argTypes := #[ST, ST] })
    {base basex : Nat} {v u : Value} {n m : Nat} {xs ys : List Value} (hs : a.eval s = v) (hu : a.eval x = u) (hv : w.ownsRow base T size v n xs) (hx : w.ownsRow basex T size u m ys) (h1 : ∀ u ∈ ys, u.oneCell' = true) (h63 : n + m ≤ 65536) (hbase : base ≤ w.heap.size)
    (h : ∀ v' w', w'.ownsRow base T size v' (n + m) (xs ++ ys) → w.grownBy w' v.ownBlock → (v'.ownBlock = v.ownBlock ∨ v'.ownBlock = some w.heap.size) → wpList Try.prog ops Q rest (a.put o.dst v') w') :
    wpList Try.prog ops Q (o :: rest) a w := by
  refine wpList_plain hgd fun K hK => ?_
  obtain ⟨v', w', hrun, h2, h3, h5⟩ := run_append_rows ht hT hzs w o.type hv hx h1 h63 hbase
  unfold Oper.wp execOp
  simp only [ho, resolve, invoke, builtin, Sem.run_bind, Sem.run_pure, Result.andThen_ok, List.map_toArray, List.map_cons, List.map_nil, hs, hu, hrun]
  exact hK _ _ (h v' w' h2 h3 h5)

/-- Two rows of unlike elements lie in two blocks. -/
theorem rows_apart {w : World} {b1 b2 : Nat} {T1 T2 : TypeId} {s1 s2 : Nat} {v1 v2 : Value} {n1 n2 : Nat} {x1 x2 : List Value} (hne : T1 ≠ T2) (h1 : w.ownsRow b1 T1 s1 v1 n1 x1) (h2 : w.ownsRow b2 T2 s2 v2 n2 x2) : v1.ownBlock = none ∨ v1.ownBlock ≠ v2.ownBlock := by
  rcases h1.2 with ⟨rfl, _⟩ | ⟨g1, c1, cur1, rfl, _, hg1, _⟩
  · exact .inl rfl
  · rcases h2.2 with ⟨rfl, _⟩ | ⟨g2, c2, cur2, rfl, _, hg2, _⟩
    · exact .inr (by simp [Value.ownBlock])
    · refine .inr fun e => hne ?_
      simp [Value.ownBlock] at e
      subst e
      rw [hg1] at hg2
      injection hg2 with e
      injection e
theorem row_turn {w w' : World} {g base : Nat} {T : TypeId} {s : Nat} {v : Value} {n : Nat} {xs : List Value} (h : w.ownsRow base T s v n xs) (ht : Turns g w.heap.size w w') (hg : g < base) : w'.ownsRow base T s v n xs := by
  refine World.ownsRow.kept (row := some g) h ⟨ht.os, ht.tape, ht.output, ht.size, fun b hb hne => ht.block b hb (fun e => hne (by rw [e]))⟩ ?_
  cases hv : v.ownBlock with
  | none => exact .inl rfl
  | some k => exact .inr (fun e => by injection e with e; have := (World.ownsRow.lt h k hv).1; omega)
theorem row_below {w w' : World} {base : Nat} {T : TypeId} {s : Nat} {v : Value} {n : Nat} {xs : List Value} (h : w.ownsRow base T s v n xs) (hb : Below w.heap.size w w') : w'.ownsRow base T s v n xs := by
  refine World.ownsRow.kept (row := none) h ⟨hb.os, hb.tape, hb.output, hb.size, fun k hk _ => hb.block k hk⟩ ?_
  cases v.ownBlock <;> simp
theorem row_base {w : World} {lo base : Nat} {T : TypeId} {s : Nat} {v : Value} {n : Nat} {xs : List Value} (h : w.ownsRow base T s v n xs) (hb : lo ≤ base) : w.ownsRow lo T s v n xs := by
  refine ⟨h.1, ?_⟩
  rcases h.2 with hn | ⟨g, cap, cur, hv, hg, r⟩
  · exact .inl hn
  · exact .inr ⟨g, cap, cur, hv, by omega, r⟩
/-- Where a row grew, the table and all that is below the rows stays. -/
theorem turns_grown {g B : Nat} {a w w' : World} {T : TypeId} {s : Nat} {v : Value} {n : Nat} {xs : List Value} (h : Turns g B a w) (hB : B ≤ a.heap.size) (hr : w.ownsRow B T s v n xs) (hg : w.grownBy w' v.ownBlock) : Turns g B a w' :=
  h.trans ⟨hg.os, hg.tape, hg.output, hg.size, fun b hb _ => hg.block b (Nat.lt_of_lt_of_le hb (Nat.le_trans hB h.size)) (fun e => by have := (World.ownsRow.lt hr b e.symm).1; omega)⟩

theorem Turns.drewN {g B : Nat} {a w : World} (h : Turns g B a w) (n : Nat) : Turns g B a (w.drewN n) := ⟨h.os, h.tape, h.output, h.size, h.block⟩
theorem Turns.undrewN {g B n : Nat} {a w : World} (h : Turns g B (a.drewN n) w) : Turns g B a w := ⟨h.os, h.tape, h.output, h.size, h.block⟩
theorem row_slice {w : World} {base : Nat} {T : TypeId} {s : Nat} {v : Value} {n : Nat} {xs : List Value} (h : w.ownsRow base T s v n xs) : ∃ A c, v = .slice A n c := by
  rcases h.2 with ⟨rfl, h0⟩ | ⟨g, cap, cur, rfl, _⟩
  · exact ⟨none, 0, by rw [h0]⟩
  · exact ⟨_, _, rfl⟩

abbrev pingV (p : PingA) : Value := .agg #[.int .i64 p.1, .int .i64 p.2.1, .int .i64 p.2.2.1, .bool p.2.2.2]
def pcells1 (p : PingA) : List Value := [.int .i64 p.1, .int .i64 p.2.1, .int .i64 p.2.2.1, .bool p.2.2.2]
def pcells (ps : List PingA) : List Value := ps.flatMap pcells1
theorem pcells_append (a b : List PingA) : pcells (a ++ b) = pcells a ++ pcells b := by unfold pcells; rw [List.flatMap_append]
theorem pcells_snoc (ps : List PingA) (p : PingA) : pcells (ps ++ [p]) = pcells ps ++ pcells1 p := pcells_append ps [p]
theorem pcells_length : ∀ ps : List PingA, (pcells ps).length = ps.length * 4
  | [] => rfl
  | p :: r => by
    have := pcells_length r
    unfold pcells at this ⊢
    rw [List.flatMap_cons, List.length_append, this, List.length_cons]
    simp only [pcells1, List.length_cons, List.length_nil]
    omega
theorem pcells_at : ∀ (ps : List PingA) (j : Nat) (p : PingA), ps[j]? = some p → (pcells ps)[j * 4]? = some (.int .i64 p.1) ∧ (pcells ps)[j * 4 + 1]? = some (.int .i64 p.2.1) ∧ (pcells ps)[j * 4 + 2]? = some (.int .i64 p.2.2.1) ∧ (pcells ps)[j * 4 + 3]? = some (.bool p.2.2.2)
  | [], j, p, h => by simp at h
  | q :: r, 0, p, h => by
    simp at h
    subst h
    exact ⟨rfl, rfl, rfl, rfl⟩
  | q :: r, j + 1, p, h => by
    have := pcells_at r j p (by simpa using h)
    have e : pcells (q :: r) = .int .i64 q.1 :: .int .i64 q.2.1 :: .int .i64 q.2.2.1 :: .bool q.2.2.2 :: pcells r := rfl
    rw [e, show (j + 1) * 4 = j * 4 + 4 by omega]
    simpa using this
theorem pcells_one (ps : List PingA) : ∀ u ∈ pcells ps, u.oneCell' = true := fun u hu => by
  unfold pcells at hu
  rw [List.mem_flatMap] at hu
  obtain ⟨p, _, hp⟩ := hu
  simp [pcells1] at hp
  rcases hp with rfl | rfl | rfl | rfl <;> rfl
/-- A slice of the program's own that holds these pings. -/
def OwnG (w : World) (base : Nat) (v : Value) (ps : List PingA) : Prop := w.ownsRow base 67 4 v ps.length (pcells ps)
theorem OwnG.at_ {w : World} {base : Nat} {v : Value} {ps : List PingA} (h : OwnG w base v ps) {j : Nat} {p : PingA} (hp : ps[j]? = some p) :
    ∃ b c, v = .slice (some ⟨b, 0, none⟩) ps.length c ∧ base ≤ b ∧ b < w.heap.size ∧ w.cell? ⟨b, j * 4, none⟩ = some (.int .i64 p.1) ∧ w.cell? ⟨b, j * 4 + 1, none⟩ = some (.int .i64 p.2.1) ∧ w.cell? ⟨b, j * 4 + 2, none⟩ = some (.int .i64 p.2.2.1) ∧ w.cell? ⟨b, j * 4 + 3, none⟩ = some (.bool p.2.2.2) := by
  rcases h.2 with ⟨rfl, hn⟩ | ⟨b, cap, cur, rfl, hb, hg, hc, _⟩
  · have : ps = [] := List.length_eq_zero_iff.1 hn
    subst this
    simp at hp
  · obtain ⟨a0, a1, a2, a3⟩ := pcells_at ps j p hp
    have c0 := World.ownsRow.cells h (g := b) rfl _ _ a0
    have c1 := World.ownsRow.cells h (g := b) rfl _ _ a1
    have c2 := World.ownsRow.cells h (g := b) rfl _ _ a2
    have c3 := World.ownsRow.cells h (g := b) rfl _ _ a3
    have e : ∀ k, (⟨b, 0, none⟩ : Addr).add k = ⟨b, k, none⟩ := fun k => by unfold Addr.add; split <;> simp_all
    rw [e] at c0 c1 c2 c3
    exact ⟨b, cap, rfl, hb, (World.ownsRow.lt h b rfl).2, c0, c1, c2, c3⟩
theorem OwnG.slice {w : World} {base : Nat} {v : Value} {ps : List PingA} (h : OwnG w base v ps) : ∃ A c, v = .slice A ps.length c := by
  rcases h.2 with ⟨rfl, h0⟩ | ⟨g, cap, cur, rfl, _⟩
  · exact ⟨none, 0, by rw [h0]⟩
  · exact ⟨_, _, rfl⟩
theorem ownG_nil (w : World) (base : Nat) : OwnG w base (.slice none 0 0) [] := World.ownsRow_nil w base _ 4
/-- A slice of the program's own that holds so many messages. -/
def OwnM (w : World) (base : Nat) (v : Value) (n : Nat) : Prop := ∃ xs, w.ownsRow base 56 17 v n xs ∧ ∀ u ∈ xs, u.oneCell' = true
theorem ownM_nil (w : World) (base : Nat) : OwnM w base (.slice none 0 0) 0 := ⟨[], World.ownsRow_nil w base _ 17, fun u hu => by simp at hu⟩
end Go.Proofs.Ythipdadhhelieaa
