/- Lines of pieces at prices. -/
import Derived.Test.YtaihkehbpppngaaTTotal
import Derived.Maps.AppendAt
import Derived.Laws.OwnMore
namespace Go.Proofs.Ytaihkehbpppngaa
open Ieee Go.RowKit

theorem wpList_append_gen {ST T : TypeId} (ht : Try.prog.underlying ST = some (.slice T)) {z : Value} {size bytes : Nat} (hT : (Try.prog.info? T).map (fun i => (i.zero, i.size, i.bytes)) = some (some z, size, bytes)) (hzs : z.cells.size = size ∧ 0 < size)
    {ops : Array Oper} {rest : List Oper} {o : Oper} {a : Act} {Q : Exit → Act → World → Prop} (w : World) (hgd : o.guard = none) (s x : Operand)
    (ho : o.op = .call { callee := .builtin .append, args := #[s, x], argTypes := #[ST, ST] })
    {base : Nat} {v : Value} {n : Nat} {xs : List Value} {ad : Addr} {m c : Nat} (hs : a.eval s = v) (hx : a.eval x = .slice (some ad) m c) (hown : w.ownsRow base T size v n xs) (news : List Value) (h1 : news.length = m * size ∧ ∀ u ∈ news, u.oneCell' = true)
    (h63 : n + m ≤ 4398046511104 ∧ 0 < n + m ∧ (n + m) * bytes ≤ 140737488355328) (hnews : ∀ j u, news[j]? = some u → w.cell? (ad.add j) = some u) (hbase : base ≤ w.heap.size)
    (h : ∀ g1 c1 w', w'.ownsRow base T size (.slice (some ⟨g1, 0, none⟩) (n + m) c1) (n + m) (xs ++ news) → w.grownBy w' v.ownBlock → ((Value.slice (some ⟨g1, 0, none⟩) (n + m) c1).ownBlock = v.ownBlock ∨ g1 = w.heap.size) → wpList Try.prog ops Q rest (a.put o.dst (.slice (some ⟨g1, 0, none⟩) (n + m) c1)) w') :
    wpList Try.prog ops Q (o :: rest) a w := by
  refine wpList_plain hgd fun K hK => ?_
  obtain ⟨i, hi, hz0, hz1, hz2⟩ := info_parts hT
  obtain ⟨hzs, hsz⟩ := hzs
  obtain ⟨hl, h1⟩ := h1
  obtain ⟨h63, hm, hbb⟩ := h63
  obtain ⟨v', w', hrun, h2, h3, _, h5⟩ := run_append_own_at (P := Try.prog) w base ST o.type T i z size bytes ht hi hz0 hz1 hz2 hzs hsz v n xs hown ad m c news hl hnews h1 (by simp only [maxLen]; omega) hbb hbase
  unfold Oper.wp execOp
  simp only [ho, resolve, invoke, builtin, Sem.run_bind, Sem.run_pure, Result.andThen_ok, List.map_toArray, List.map_cons, List.map_nil, hs, hx, hrun]
  rcases h2.2 with ⟨rfl, h0⟩ | ⟨g1, c1, cur, rfl, _⟩
  · omega
  · refine hK _ _ (h g1 c1 w' h2 h3 ?_)
    rcases h5 with h5 | h5
    · exact .inl h5
    · exact .inr (by injection h5)



theorem infoLine : (Try.prog.info? 28).map (fun i => (i.zero, i.size, i.bytes)) = some (some (.agg #[.string .empty, .int .i64 0, .int .u64 0]), 3, 32) := by kernel_rfl
def lcells (ls : List LineA) : List Value := ls.flatMap fun d => [.string d.1, .int .i64 d.2.1, .int .u64 (d.2.2 : Int)]
theorem lcells_snoc (ls : List LineA) (d : LineA) : lcells (ls ++ [d]) = lcells ls ++ [.string d.1, .int .i64 d.2.1, .int .u64 (d.2.2 : Int)] := by unfold lcells; rw [List.flatMap_append]; rfl
theorem lcells_at : ∀ (ls : List LineA) (j : Nat) (d : LineA), ls[j]? = some d → (lcells ls)[j * 3]? = some (.string d.1) ∧ (lcells ls)[j * 3 + 1]? = some (.int .i64 d.2.1) ∧ (lcells ls)[j * 3 + 2]? = some (.int .u64 (d.2.2 : Int))
  | [], _, _, h => by simp at h
  | x :: r, 0, d, h => by
    have e : x = d := by simpa using h
    subst e
    exact ⟨rfl, rfl, rfl⟩
  | x :: r, j + 1, d, h => by
    have := lcells_at r j d (by simpa using h)
    have e : lcells (x :: r) = .string x.1 :: .int .i64 x.2.1 :: .int .u64 (x.2.2 : Int) :: lcells r := rfl
    rw [e, show (j + 1) * 3 = j * 3 + 3 by omega]
    simpa using this
/-- A slice of the call's own that holds these lines. -/
def OwnL (w : World) (base : Nat) (v : Value) (ls : List LineA) : Prop := w.ownsRow base 28 3 v ls.length (lcells ls)
theorem OwnL.rd {w : World} {base : Nat} {v : Value} {ls : List LineA} (h : OwnL w base v ls) : RdL w v ls := by
  rcases h.2 with ⟨rfl, hn⟩ | ⟨g, cap, cur, rfl, hb, hg, hc, _⟩
  · have : ls = [] := List.length_eq_zero_iff.1 hn
    subst this
    exact ⟨none, 0, rfl, Nat.le_refl _, fun j d hd => by simp at hd⟩
  · refine ⟨_, cap, rfl, hc, fun j d hd => ⟨⟨g, 0, none⟩, rfl, (World.ownsRow.lt h g rfl).2, ?_⟩⟩
    obtain ⟨a0, a1, a2⟩ := lcells_at ls j d hd
    have c0 := World.ownsRow.cells h (g := g) rfl _ _ a0
    have c1 := World.ownsRow.cells h (g := g) rfl _ _ a1
    have c2 := World.ownsRow.cells h (g := g) rfl _ _ a2
    have e : ∀ k, (⟨g, 0, none⟩ : Addr).add k = ⟨g, k, none⟩ := fun k => by unfold Addr.add; split <;> simp_all
    rw [e] at c0 c1 c2
    rw [e]
    exact ⟨c0, c1, c2⟩
theorem OwnL.below {w w' : World} {base : Nat} {v : Value} {ls : List LineA} (h : OwnL w base v ls) (hb : Below w.heap.size w w') : OwnL w' base v ls := by
  refine World.ownsRow.kept (row := none) h ⟨hb.os, hb.tape, hb.output, hb.size, fun k hk _ => hb.block k hk⟩ ?_
  cases v.ownBlock <;> simp

/-- Is a word a price? By the document. -/
def canR (b : Nat) : Bool := decide (b ≤ 9218868437227405312) || decide (b = 9223372036854775808)
theorem canR_nn {b : Nat} (h : canR b = true) : nn b := by
  unfold canR at h
  simp only [Bool.or_eq_true, decide_eq_true_eq] at h
  rcases h with h | h
  · refine .inr (.inl ?_)
    unfold sgn
    rw [beq_eq_false_iff_ne]
    omega
  · refine .inr (.inr ?_)
    rw [h]; rfl
theorem refCan_any (b : Nat) (w : World) : Calls Try.prog 25 #[.int .u64 b] w fun e w' => e = .returned (.bool (canR b)) ∧ w = w' := by
  by_cases h1 : b ≤ 9218868437227405312
  · have d1 : decide ((b : Int) ≤ 9218868437227405312) = true := decide_eq_true (by omega)
    have e : Hid (canR b = true) := Lib.hid (by unfold canR; rw [decide_eq_true h1]; rfl)
    rw [e.out]
    clear h1
    go_enter Try.func25, Try.ntmps25
    go_wp2
    go_ret
    exact ⟨rfl, rfl⟩
  · have d1 : decide ((b : Int) ≤ 9218868437227405312) = false := decide_eq_false (by omega)
    by_cases h2 : b = 9223372036854775808
    · have d2 : ((b : Int) == 9223372036854775808) = true := by rw [beq_iff_eq]; omega
      have e : Hid (canR b = true) := Lib.hid (by unfold canR; rw [decide_eq_true h2]; simp)
      rw [e.out]
      clear h1 h2
      go_enter Try.func25, Try.ntmps25
      go_wp2
      go_ret
      exact ⟨rfl, rfl⟩
    · have d2 : ((b : Int) == 9223372036854775808) = false := by rw [beq_eq_false_iff_ne]; omega
      have e : Hid (canR b = false) := Lib.hid (by unfold canR; rw [decide_eq_false h1, decide_eq_false h2]; rfl)
      rw [e.out]
      clear h1 h2
      go_enter Try.func25, Try.ntmps25
      go_wp2
      go_ret
      exact ⟨rfl, rfl⟩
/-- Is a word a price? By the program. -/
def canP (b : Nat) : Bool := (double.order b 0 == some .gt) || (double.order b 0 == some .eq)
theorem can_any (b : Nat) (w : World) : Calls Try.prog 26 #[.int .u64 b] w fun e w' => e = .returned (.bool (canP b)) ∧ w = w' := by
  have H1 := Lib.hid (floatOf_any b w)
  go_enter Try.func26, Try.ntmps26
  go_wp2_with ((go_at_call 27); (with_reducible refine H1.out.mono ?_); rintro e w1 ⟨rfl, rfl⟩)
  go_ret
  exact ⟨rfl, rfl⟩
theorem canP_nn {b : Nat} (h : nn b) (hn : nanB b = false) : canP b = true := by
  have h0 : nanB 0 = false := by decide
  unfold canP
  rw [is_gt hn h0, is_eq hn h0]
  have e0 : skey 0 = 0 := by decide
  rw [e0]
  have hk : 0 ≤ skey b := by
    rcases h with h | h | h
    · rw [hn] at h; cases h
    · unfold skey; rw [h]; simp
    · unfold skey; rw [h]; split <;> simp
  by_cases h1 : skey b = 0
  · rw [decide_eq_true h1]; simp
  · rw [decide_eq_true (show 0 < skey b by omega)]; rfl

def sel (ls : List LineA) : List LineA := ls.filter fun x => decide (0 ≤ x.2.1) && canR x.2.2
theorem sel_take {ls : List LineA} {k : Nat} {d : LineA} (h : ls[k]? = some d) : sel (ls.take (k + 1)) = sel (ls.take k) ++ (if (decide (0 ≤ d.2.1) && canR d.2.2) = true then [d] else []) := by
  unfold sel
  rw [List.take_add_one, h, List.filter_append]
  congr 1
  by_cases e : (decide (0 ≤ d.2.1) && canR d.2.2) = true
  · rw [if_pos e]; simp [e]
  · rw [if_neg e]; simp [e]
theorem sel_len (ls : List LineA) : (sel ls).length ≤ ls.length := List.length_filter_le _ _
theorem tot_nn (ls : List LineA) : nn (totV (sel ls)) := by
  unfold totV
  have key : ∀ (l : List LineA) (t : Nat), nn t → (∀ x ∈ l, 0 ≤ x.2.1 ∧ canR x.2.2 = true) → nn (l.foldl (fun t x => fop .add t (fop .mul (floatOfInt .f64 x.2.1) x.2.2)) t) := by
    intro l
    induction l with
    | nil => intro t ht _; exact ht
    | cons x r ih =>
      intro t ht hx
      have h1 := hx x (List.mem_cons_self ..)
      exact ih _ (nn_add ht (nn_mul (nn_int h1.1) (canR_nn h1.2))) fun y hy => hx y (List.mem_cons_of_mem _ hy)
  refine key _ 0 (.inr (.inl (by decide))) fun x hx => ?_
  have := (List.mem_filter.1 hx).2
  simp only [Bool.and_eq_true, decide_eq_true_eq] at this
  exact this
theorem tot_cn (ls : List LineA) : cn (totV ls) = totV ls := by
  rcases List.eq_nil_or_concat ls with rfl | ⟨r, x, rfl⟩
  · rfl
  · unfold totV
    rw [List.concat_eq_append, List.foldl_append]
    exact cn_fop _ _ _
end Go.Proofs.Ytaihkehbpppngaa
