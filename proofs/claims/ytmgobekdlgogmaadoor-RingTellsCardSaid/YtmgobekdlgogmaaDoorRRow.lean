/- Rows of members of a call's own: a member appended, a slice appended; slices.Clone. -/
import Derived.Test.YtmgobekdlgogmaaDoorRRefNew
import Derived.Laws.OwnMore
import Derived.Lib.SliceRun
import Derived.Maps.AppendAt
namespace Go.Proofs.YtmgobekdlgogmaaDoor
open Go.RowKit Go.Sort Go.BigFrame
open Go.Lib (byteCells byteCells_length)

theorem add_addR (a : Addr) (m n : Nat) : (a.add m).add n = a.add (m + n) := by
  unfold Addr.add
  by_cases hm : m = 0 <;> by_cases hn : n = 0 <;> simp [hm, hn, Nat.add_assoc]
theorem mcells_append (a b : List MemA) : mcells (a ++ b) = mcells a ++ mcells b := by unfold mcells; rw [List.flatMap_append]
theorem infoMember : (Tryd.prog.info? 40).map (fun i => (i.zero, i.size, i.bytes)) = some (some (.agg #[.int .i64 0, .int .i64 0, .int .i64 0, .int .i64 0]), 4, 32) := by kernel_rfl

set_option maxRecDepth 100000 in
/-- append onto a row of the call's own, from a slice that reads as members (nil, empty or not). -/
theorem run_append_members {T ST : TypeId} (ht : Tryd.prog.underlying ST = some (.slice T)) (hT : (Tryd.prog.info? T).map (fun i => (i.zero, i.size, i.bytes)) = some (some (.agg #[.int .i64 0, .int .i64 0, .int .i64 0, .int .i64 0]), 4, 32))
    (w : World) (ty : TypeId) {base hi : Nat} {v : Value} {xs ys : List MemA} (hown : OwnM T w base v xs) {A : Option Addr} {c : Nat} (hr : RdMA w hi A ys)
    (hm : xs.length + ys.length ≤ 4398046511104) (hbase : base ≤ w.heap.size) :
    ∃ v' w', (Builtin.append_ #[ST, ST] ty #[v, .slice A ys.length c]).run Tryd.prog w = .ok v' w' ∧ OwnM T w' base v' (xs ++ ys) ∧ w.grownBy w' v.ownBlock ∧
      (v'.ownBlock = v.ownBlock ∨ v'.ownBlock = some w.heap.size) := by
  obtain ⟨i0, hi0, hz0, hz1, hz2⟩ := info_parts hT
  by_cases h0 : ys = []
  · subst h0
    refine ⟨v, w, ?_, by simpa using hown, World.grownBy.refl w _, .inl rfl⟩
    rcases hown.2 with ⟨rfl, _⟩ | ⟨g, cap, cur, rfl, _, _, hnc, _⟩
    · cases A <;> simp [Builtin.append_, run_underlying ht, sizeOf, typeInfo, hi0, Builtin.lenOf, Builtin.firstCells, loadCells, loadCellsFrom]
    · cases A <;> simp [Builtin.append_, run_underlying ht, sizeOf, typeInfo, hi0, Builtin.lenOf, Builtin.firstCells, hnc, storeCells, loadCells, loadCellsFrom]
  · obtain ⟨y, hy⟩ : ∃ y, ys[0]? = some y := ⟨ys[0]'(List.length_pos_iff.2 h0), List.getElem?_eq_getElem _⟩
    obtain ⟨ad, rfl, _, _⟩ := hr 0 y hy
    obtain ⟨v', w', h1, h2, h3, _, h5⟩ := run_append_own_at (P := Tryd.prog) w base ST ty T i0 _ 4 32 ht hi0 hz0 hz1 hz2 rfl (by decide)
      v xs.length (mcells xs) hown ad ys.length c (mcells ys) (mcells_length ys) (fun j u hu => by
        have hj : j < ys.length * 4 := by
          have := (List.getElem?_eq_some_iff.1 hu).1
          rwa [mcells_length] at this
        obtain ⟨d, hd⟩ : ∃ d, ys[j / 4]? = some d := ⟨ys[j / 4]'(by omega), List.getElem?_eq_getElem _⟩
        obtain ⟨ad', e', _, p0, p1, p2, p3⟩ := hr (j / 4) d hd
        injection e' with e'
        subst e'
        obtain ⟨a0, a1, a2, a3⟩ := mcells_at ys (j / 4) d hd
        have hm3 : j % 4 < 4 := Nat.mod_lt _ (by decide)
        have hj3 : j = j / 4 * 4 + j % 4 := by omega
        generalize j % 4 = r at hm3 hj3
        generalize j / 4 = q at *
        subst hj3
        have pp : ∀ i, 0 < i → ad.add (q * 4 + i) = ⟨(ad.add (q * 4)).block, (ad.add (q * 4)).off + i, none⟩ := fun i hi => by
          rw [← add_addR, add_litR _ i hi]
        rcases (by omega : r = 0 ∨ r = 1 ∨ r = 2 ∨ r = 3) with rfl | rfl | rfl | rfl
        · rw [Nat.add_zero] at hu ⊢
          rw [a0] at hu
          rw [p0]; exact hu
        · rw [a1] at hu
          rw [pp 1 (by omega), p1]; exact hu
        · rw [a2] at hu
          rw [pp 2 (by omega), p2]; exact hu
        · rw [a3] at hu
          rw [pp 3 (by omega), p3]; exact hu)
      (fun u hu => by
        unfold mcells at hu
        rw [List.mem_flatMap] at hu
        obtain ⟨d, _, hd⟩ := hu
        simp at hd
        rcases hd with rfl | rfl | rfl | rfl <;> rfl) (by simp only [maxLen]; omega) (by omega) hbase
    refine ⟨v', w', h1, ?_, h3, h5⟩
    unfold OwnM
    rw [List.length_append, mcells_append]
    exact h2
theorem wpList_append_members {T ST : TypeId} (ht : Tryd.prog.underlying ST = some (.slice T)) (hT : (Tryd.prog.info? T).map (fun i => (i.zero, i.size, i.bytes)) = some (some (.agg #[.int .i64 0, .int .i64 0, .int .i64 0, .int .i64 0]), 4, 32))
    {ops : Array Oper} {rest : List Oper} {o : Oper} {a : Act} {Q : Exit → Act → World → Prop} (w : World) (hgd : o.guard = none) (s x : Operand)
    (ho : o.op = .call { callee := .builtin .append, args := #[s, x], argTypes := #[ST, ST] })
    {base hi : Nat} {v : Value} {xs ys : List MemA} (hs : a.eval s = v) (hown : OwnM T w base v xs) {A : Option Addr} {m c : Nat} (hx : a.eval x = .slice A m c) (hm : m = ys.length) (hr : RdMA w hi A ys)
    (hl : xs.length + ys.length ≤ 4398046511104) (hbase : base ≤ w.heap.size)
    (h : ∀ v' w', OwnM T w' base v' (xs ++ ys) → w.grownBy w' v.ownBlock → (v'.ownBlock = v.ownBlock ∨ v'.ownBlock = some w.heap.size) → wpList Tryd.prog ops Q rest (a.put o.dst v') w') : wpList Tryd.prog ops Q (o :: rest) a w := by
  subst hm
  refine wpList_plain hgd fun K hK => ?_
  obtain ⟨v', w', hrun, h2, h3, h4⟩ := run_append_members ht hT w o.type hown (c := c) hr hl hbase
  unfold Oper.wp execOp
  simp only [ho, resolve, invoke, builtin, Sem.run_bind, Sem.run_pure, Result.andThen_ok, List.map_toArray, List.map_cons, List.map_nil, hs, hx, hrun]
  exact hK _ _ (h v' w' h2 h3 h4)

/-- A slice of the call's own that holds these. -/
def GivesM (ds : List MemA) (w : World) (e : Ending) (w' : World) : Prop := ∃ v, e = .returned v ∧ OwnM 40 w' w.heap.size v ds ∧ Below w.heap.size w w'

set_option maxRecDepth 100000 in
set_option maxHeartbeats 1600000 in
theorem cloneMember_any (v : Value) (ds : List MemA) (w : World) (h : RdM w v ds) (hl : ds.length ≤ 4398046511104) : Calls Tryd.prog 34 #[v] w (GivesM ds w) := by
  obtain ⟨A, c, rfl, hc, hx⟩ := h
  obtain ⟨n, hn⟩ : ∃ n, Hid (n = ds.length) := ⟨_, Lib.hid rfl⟩
  rw [← hn.out] at hl hc ⊢
  have he := fun u => Lib.run_eql_slice_nil (P := Tryd.prog) u 22 40 A n c 0 0 Tryd.underlying22
  cases A with
  | none =>
    have hb : Hid (ds = []) := Lib.hid (by
      match ds, hx with
      | [], _ => rfl
      | x :: r, hx => obtain ⟨ad, e, _⟩ := hx 0 x rfl; cases e)
    have he : ∀ u : World, (binOp .eql 22 (.slice none n c) (.slice none 0 0)).run Tryd.prog u = .ok (.bool true) u := fun u => he u
    clear hx
    go_enter Tryd.func34, Tryd.ntmps34
    go_wp2
    go_ret
    exact ⟨_, rfl, by rw [hb.out]; exact ownM_nil _ _ _, Below.refl _ _⟩
  | some ad =>
    have he : ∀ u : World, (binOp .eql 22 (.slice (some ad) n c) (.slice none 0 0)).run Tryd.prog u = .ok (.bool false) u := fun u => he u
    have hown0 : OwnM 40 (w.alloc (.cells #[] 40)) w.heap.size (.slice (some ⟨w.heap.size, 0, none⟩) 0 0) [] := World.ownsRow_made w #[] 0 (Nat.le_refl _) (by decide) (by simp)
    have hx' := hx.below (below_allocR (o := .cells #[] 40) (Below.refl w.heap.size w)) (Nat.le_refl _)
    have HX := Lib.hid hx'
    have HO := Lib.hid hown0
    clear hx hx' hown0
    go_enter Tryd.func34, Tryd.ntmps34
    go_wp2_with (at_builtin; refine wpList_append_members Tryd.underlying22 infoMember _ rfl (.tmp 5) (.tmp 6) rfl rfl HO.out rfl hn.out HX.out ?_ ?_ ?_)
    case _ => have := hn.out; simp; omega
    case _ => simp
    intro v1 w1 hown1 hg1 hat1
    go_wp2
    go_ret
    exact ⟨_, rfl, by simpa using hown1, (below_allocR (Below.refl _ _)).grown hg1 (by simp) (by simp [Value.ownBlock])⟩
end Go.Proofs.YtmgobekdlgogmaaDoor
