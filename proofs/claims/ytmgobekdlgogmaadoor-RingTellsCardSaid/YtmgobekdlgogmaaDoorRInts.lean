/- Rows of numbers of a call's own; slices.Equal at numbers. -/
import Derived.Test.YtmgobekdlgogmaaDoorRSame
namespace Go.Proofs.YtmgobekdlgogmaaDoor
open Go.RowKit Go.Sort Go.BigFrame
open Go.Lib (byteCells byteCells_length)

def icells (ns : List Int) : List Value := ns.map (.int .i64)
/-- A slice of the call's own that holds these numbers. -/
def OwnI (w : World) (base : Nat) (v : Value) (ns : List Int) : Prop := w.ownsRow base 3 1 v ns.length (icells ns)
def RdI (w : World) (v : Value) (ns : List Int) : Prop := ∃ A c, v = .slice A ns.length c ∧ ns.length ≤ c ∧ ∀ (j : Nat) (d : Int), ns[j]? = some d → ∃ ad : Addr, A = some ad ∧ ad.block < w.heap.size ∧ w.cell? (ad.add j) = some (.int .i64 d)
theorem RdI.below {w w' : World} {v : Value} {ns : List Int} (h : RdI w v ns) (hb : Below w.heap.size w w') : RdI w' v ns := by
  obtain ⟨A, c, e, hc, hx⟩ := h
  refine ⟨A, c, e, hc, fun j d hd => ?_⟩
  obtain ⟨ad, e1, h0, h1⟩ := hx j d hd
  exact ⟨ad, e1, Nat.lt_of_lt_of_le h0 hb.size, (hb.cell (by rw [add_block]; exact h0)).trans h1⟩
theorem ownI_nil (w : World) (base : Nat) : OwnI w base (.slice none 0 0) [] := World.ownsRow_nil w base _ 1
theorem OwnI.base_le {w : World} {lo base : Nat} {v : Value} {ds : List Int} (h : OwnI w base v ds) (hb : lo ≤ base) : OwnI w lo v ds := Joins.ownsRow_le h hb
theorem ownI_slice {w : World} {base : Nat} {v : Value} {ds : List Int} (h : OwnI w base v ds) : ∃ A c, v = .slice A ds.length c := by
  rcases h.2 with ⟨rfl, hn⟩ | ⟨g, cap, cur, rfl, _⟩
  · exact ⟨none, 0, by rw [hn]⟩
  · exact ⟨_, cap, rfl⟩
theorem OwnI.below {w w' : World} {base : Nat} {v : Value} {ds : List Int} (h : OwnI w base v ds) (hb : Below w.heap.size w w') : OwnI w' base v ds := by
  refine World.ownsRow.kept (row := none) h ⟨hb.os, hb.tape, hb.output, hb.size, fun k hk _ => hb.block k hk⟩ ?_
  cases v.ownBlock <;> simp
theorem OwnI.rd {w : World} {base : Nat} {v : Value} {ds : List Int} (h : OwnI w base v ds) : RdI w v ds := by
  rcases h.2 with ⟨rfl, hn⟩ | ⟨g, cap, cur, rfl, hb, hg, hc, _⟩
  · have : ds = [] := List.length_eq_zero_iff.1 hn
    subst this
    exact ⟨none, 0, rfl, Nat.le_refl _, fun j d hd => by simp at hd⟩
  · refine ⟨_, cap, rfl, hc, fun j d hd => ⟨⟨g, 0, none⟩, rfl, (World.ownsRow.lt h g rfl).2, ?_⟩⟩
    have c0 := World.ownsRow.cells h (g := g) rfl j (.int .i64 d) (by unfold icells; rw [List.getElem?_map, hd]; rfl)
    exact c0
theorem infoInt : (Tryd.prog.info? 3).map (fun i => (i.zero, i.size, i.bytes)) = some (some (.int .i64 0), 1, 8) := by kernel_rfl
theorem run_append_int (w : World) (ty : TypeId) {base : Nat} {v : Value} {ds : List Int} (d : Int) (hown : OwnI w base v ds) (hl : ds.length ≤ 4398046511104) (hbase : base ≤ w.heap.size) :
    ∃ v' w', (Builtin.append_ #[32, 32] ty #[v, .slice (some ⟨w.heap.size, 0, none⟩) 1 1]).run Tryd.prog (w.alloc (.cells #[.int .i64 d] 3)) = .ok v' w' ∧ OwnI w' base v' (ds ++ [d]) ∧ w.grownBy w' v.ownBlock ∧
      (v'.ownBlock = v.ownBlock ∨ ∃ g, v'.ownBlock = some g ∧ w.heap.size ≤ g) := by
  obtain ⟨i0, hi0, hz0, hz1, hz2⟩ := info_parts infoInt
  have hb : Below w.heap.size w (w.alloc (.cells #[.int .i64 d] 3)) := (Below.refl _ _).alloc (Nat.le_refl _) _
  obtain ⟨v', w', a1, a2, a3, _, a5⟩ := run_append_own_at (P := Tryd.prog) (w.alloc (.cells #[.int .i64 d] 3)) base 32 ty 3 i0 _ 1 8 Tryd.underlying32 hi0 hz0 hz1 hz2 rfl (by decide)
    v ds.length (icells ds) (OwnI.below hown hb) ⟨w.heap.size, 0, none⟩ 1 1 [.int .i64 d] rfl (fun j u hu => by
      have e : (⟨w.heap.size, 0, none⟩ : Addr).add j = ⟨w.heap.size, j, none⟩ := by unfold Addr.add; split <;> simp_all
      rw [e, box_cellR]
      simpa using hu) (by simp [Value.oneCell']) (by unfold maxLen; omega) (by omega) (by simp; omega)
  refine ⟨v', w', a1, ?_, ⟨a3.os, a3.tape, a3.output, Nat.le_trans (by simp) a3.size, fun k hk hne => (a3.block k (by simp; omega) hne).trans (hb.block k hk)⟩, ?_⟩
  · unfold OwnI icells
    rw [List.map_append, List.length_append]
    exact a2
  · rcases a5 with h | h
    · exact .inl h
    · exact .inr ⟨_, h, by simp⟩
theorem wpList_append_int
    {ops : Array Oper} {rest : List Oper} {o : Oper} {a : Act} {Q : Exit → Act → World → Prop} (w : World) (hgd : o.guard = none) (s x : Operand)
    (ho : o.op = .call { callee := .builtin .append, args := #[s, x], argTypes := #[32, 32] })
    {base : Nat} {v : Value} {ds : List Int} (d : Int) (hs : a.eval s = v) (hx : a.eval x = .slice (some ⟨w.heap.size, 0, none⟩) 1 1) (hown : OwnI w base v ds) (hl : ds.length ≤ 4398046511104) (hbase : base ≤ w.heap.size)
    (h : ∀ v' w', OwnI w' base v' (ds ++ [d]) → w.grownBy w' v.ownBlock → (v'.ownBlock = v.ownBlock ∨ ∃ g, v'.ownBlock = some g ∧ w.heap.size ≤ g) → wpList Tryd.prog ops Q rest (a.put o.dst v') w') :
    wpList Tryd.prog ops Q (o :: rest) a (w.alloc (.cells #[.int .i64 d] 3)) := by
  refine wpList_plain hgd fun K hK => ?_
  obtain ⟨v', w', hrun, h2, h3, h4⟩ := run_append_int w o.type d hown hl hbase
  unfold Oper.wp execOp
  simp only [ho, resolve, invoke, builtin, Sem.run_bind, Sem.run_pure, Result.andThen_ok, List.map_toArray, List.map_cons, List.map_nil, hs, hx, hrun]
  exact hK _ _ (h v' w' h2 h3 h4)
/-- A slice of the call's own that holds these numbers. -/
def GivesI (ns : List Int) (w : World) (e : Ending) (w' : World) : Prop := ∃ A n cap, e = .returned (.slice A n cap) ∧ OwnI w' w.heap.size (.slice A n cap) ns ∧ n = ns.length ∧ Below w.heap.size w w'

set_option maxRecDepth 100000 in
set_option maxHeartbeats 3200000 in
theorem equalInt_any (v v1 : Value) (ds es : List Int) (w : World) (h : RdI w v ds) (h1 : RdI w v1 es) (hl : ds.length ≤ 4398046511104) : Calls Tryd.prog 14 #[v, v1] w (TellsR (ds = es) w) := by
  obtain ⟨A, c, rfl, hc, hx⟩ := h
  obtain ⟨A1, c1, rfl, hc1, hx1⟩ := h1
  obtain ⟨n, hn⟩ : ∃ n, Hid (n = ds.length) := ⟨_, Lib.hid rfl⟩
  obtain ⟨n1, hn1⟩ : ∃ n1, Hid (n1 = es.length) := ⟨_, Lib.hid rfl⟩
  rw [← hn.out] at hl hc ⊢
  rw [← hn1.out] at hc1 ⊢
  have HX := Lib.hid hx
  have HX1 := Lib.hid hx1
  clear hx hx1
  by_cases hne : n = n1
  · have dn : ((n : Int) != (n1 : Int)) = false := by simp [hne]
    have HNE := Lib.hid hne
    have hk1 : n ≤ c1 := by omega
    clear hne
    go_enter Tryd.func14, Tryd.ntmps14
    go_wp2
    go_loopw [13] (fun i wr => ∃ k : Nat, k ≤ n ∧ i = .int .i64 k ∧ Hid (∀ (j : Nat) (x : Int), j < k → ds[j]? = some x → es[j]? = some x) ∧ Below w.heap.size w wr) (fun i _ => n - (intOf i).toNat)
    case atStart => exact ⟨0, Nat.zero_le _, rfl, Lib.hid (fun j x hj => absurd hj (Nat.not_lt_zero _)), Below.refl _ _⟩
    case round =>
      obtain ⟨k, hk, rfl, HO, hb⟩ := hrel
      have HB := Lib.hid hb
      have hbs := hb.size
      by_cases hlt : k < n
      · obtain ⟨x, hd⟩ : ∃ x, ds[k]? = some x := ⟨ds[k]'(by have := hn.out; omega), List.getElem?_eq_getElem _⟩
        obtain ⟨y, he⟩ : ∃ y, es[k]? = some y := ⟨es[k]'(by have := hn1.out; have := HNE.out; omega), List.getElem?_eq_getElem _⟩
        obtain ⟨ad, rfl, hadlt, hda⟩ := HX.out k x hd
        obtain ⟨ad1, rfl, hadlt1, hda1⟩ := HX1.out k y he
        have p0 := (hb.cell (p := ad.add k) (by rw [add_block]; exact hadlt)).trans hda
        have j0 := (hb.cell (p := ad1.add k) (by rw [add_block]; exact hadlt1)).trans hda1
        have HD := Lib.hid hd
        have HE := Lib.hid he
        have hltn1 : k < n1 := by have := HNE.out; omega
        clear hd he hda hda1 hb
        by_cases heq : x = y
        · have HN : Hid (∀ (j : Nat) (z : Int), j < k + 1 → ds[j]? = some z → es[j]? = some z) := Lib.hid (fun j z hj hz => by
            by_cases hjk : j = k
            · subst hjk; rw [HD.out] at hz; injection hz with hz; rw [← hz, heq]; exact HE.out
            · exact HO.out j z (by omega) hz)
          have hEq : (x != y) = false := by simp [heq]
          clear heq
          go_upto_region 6 with fail
          go_quiet (fail)
          go_wp2
          go_roundw
          case rel => exact ⟨k + 1, by omega, by go_num, HN, below_drewM HB.out _⟩
          case measure => simp [intOf]; omega
        · have HN : Hid (¬ ds = es) := Lib.hid (fun e => by
            have h1 := HD.out
            rw [e, HE.out] at h1
            injection h1 with h1
            exact heq h1.symm)
          have hEq : (x != y) = true := by simpa using heq
          clear heq
          go_upto_region 6 with fail
          go_quiet (fail)
          go_wp2
          go_ret
          exact ⟨false, rfl, by simp [HN.out], below_drewM HB.out _⟩
      · have hkn : k = n := by omega
        have HE : Hid (ds = es) := Lib.hid (by
          apply List.ext_getElem?
          intro j
          by_cases hj : j < n
          · obtain ⟨x, hd⟩ : ∃ x, ds[j]? = some x := ⟨ds[j]'(by have := hn.out; omega), List.getElem?_eq_getElem _⟩
            rw [hd, HO.out j x (by omega) hd]
          · rw [List.getElem?_eq_none (by have := hn.out; omega), List.getElem?_eq_none (by have := hn1.out; have := HNE.out; omega)])
        clear hb hkn
        go_wp2
        go_ret
        exact ⟨true, rfl, by simp [HE.out], HB.out⟩
  · have dn : ((n : Int) != (n1 : Int)) = true := by simp; omega
    have HN : Hid (¬ ds = es) := Lib.hid (fun e => hne (by rw [hn.out, hn1.out, e]))
    clear hne
    go_enter Tryd.func14, Tryd.ntmps14
    go_wp2
    go_ret
    exact ⟨false, rfl, by simp [HN.out], Below.refl _ _⟩
end Go.Proofs.YtmgobekdlgogmaaDoor
