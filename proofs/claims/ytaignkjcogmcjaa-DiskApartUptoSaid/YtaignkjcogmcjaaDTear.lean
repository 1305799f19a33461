/- A file torn: may it be, and what is left of it. -/
import Derived.Test.YtaignkjcogmcjaaDRemove
import Derived.Test.YtaignkjcogmcjaaDTears
namespace Go.Proofs.Ytaignkjcogmcjaa
open Go.RowKit
open Go.Lib (byteCells byteCells_length)

/-- May a file of so many bytes, so many of them synced, be torn so? -/
def tearB (n k : Nat) (keep : Int) (junk : Nat) : Bool := decide (0 ≤ keep) && decide ((junk : Int) ≤ (n : Int) - k - keep)

set_option maxRecDepth 100000 in
set_option maxHeartbeats 800000 in
theorem canTear_any (g : Nat) (A : Option Addr) (n c : Nat) (k : Nat) (nm : ByteArray) (keep : Int) (J : Option Addr) (j cj : Nat) (w : World) (hg : w.heap[g]? = some (.cells #[.slice A n c, .int .i64 (k : Int)] 85 (0, 0))) (hk : k ≤ n) (hn : n ≤ 1099511627776) (hk1 : keep ≤ 9223372036854775807) :
    Calls Try.prog 59 #[.pointer (some ⟨g, 0, none⟩), .agg #[.string nm, .int .i64 keep, .slice J j cj]] w fun e w' => e = .returned (.bool (tearB n k keep j)) ∧ Below w.heap.size w w' := by
  have hlt : g < w.heap.size := (Array.getElem?_eq_some_iff.1 hg).1
  have hgA := (Below.heap_alloc w (.cells #[.string nm, .int .i64 keep, .slice J j cj] 65) _ hlt).trans hg
  have c0 : (w.alloc (.cells #[.string nm, .int .i64 keep, .slice J j cj] 65)).cell? ⟨g, 0, none⟩ = some (.slice A n c) := cell_of_row _ g 0 _ _ (0, 0) hgA
  have c1 : (w.alloc (.cells #[.string nm, .int .i64 keep, .slice J j cj] 65)).cell? ⟨g, 1, none⟩ = some (.int .i64 (k : Int)) := cell_of_row _ g 1 _ _ (0, 0) hgA
  have hb : Below w.heap.size w (w.alloc (.cells #[.string nm, .int .i64 keep, .slice J j cj] 65)) := (Below.refl _ _).alloc (Nat.le_refl _) _
  have ew : IntKind.i64.wrap ((n : Int) - (k : Int)) = (n : Int) - (k : Int) := IntWalk.i64_in _ (by omega)
  obtain ⟨r, hr⟩ : ∃ r, Hid (r = tearB n k keep j) := ⟨_, Lib.hid rfl⟩
  rw [← hr.out]
  have HB := Lib.hid hb
  clear hg hgA hb
  by_cases h0 : 0 ≤ keep
  · have d0 : decide (0 ≤ keep) = true := by simpa using h0
    have e : Hid (r = decide ((j : Int) ≤ (n : Int) - k - keep)) := Lib.hid (by rw [hr.out]; unfold tearB; rw [d0, Bool.true_and])
    go_enter Try.func59, Try.ntmps59
    go_wp2
    go_quiet (fail)
    go_wp2
    go_ret
    exact ⟨ret_bool e.out.symm, below_drewN HB.out _⟩
  · have d0 : decide (0 ≤ keep) = false := by simpa using h0
    have e : Hid (r = false) := Lib.hid (by rw [hr.out]; unfold tearB; rw [d0]; rfl)
    go_enter Try.func59, Try.ntmps59
    go_wp2
    go_quiet (fail)
    go_wp2
    go_ret
    exact ⟨ret_bool e.out.symm, below_drewN HB.out _⟩

theorem Own.take {w : World} {base n c : Nat} {A : Option Addr} {bs : List UInt8} (h : Own w base (.slice A n c) bs) (k : Nat) (hk : k ≤ n) : Own w base (.slice A k c) (bs.take k) ∧ (Value.slice A k c).ownBlock = (Value.slice A n c).ownBlock := by
  have hn : n = bs.length := by
    rcases h.2 with ⟨e, h0⟩ | ⟨g', cap', cur, e, _⟩
    · injection e with _ e2; omega
    · injection e
  subst hn
  refine ⟨⟨?_, ?_⟩, by cases A <;> rfl⟩
  · rw [byteCells_length]; simp
  · rcases h.2 with ⟨e, h0⟩ | ⟨g, cap, cur, e, h1, h2, h3, h4, h5, h6⟩
    · injection e with e1 e2 e3
      subst e1; subst e3
      have : k = 0 := by omega
      subst this
      exact .inl ⟨rfl, by simp⟩
    · injection e with e1 _ e3
      subst e1; subst e3
      refine .inr ⟨g, c, cur, by rw [List.length_take, Nat.min_eq_left hk], h1, h2, by rw [List.length_take]; omega, h4, h5, ?_⟩
      have : byteCells (bs.take k) = (byteCells bs).take k := by simp [byteCells, List.map_take]
      rw [this, ← h6, List.take_take]
      congr 1
      rw [List.length_take]
      omega

/-- append onto a slice of the call's own, in a region that draws its order. -/
theorem step_append_rd {ops : Array Oper} {o : Oper} {a : Act} {K : Act → World → Prop} {Q : Exit → Act → World → Prop} {E : Prop} (w : World) (hgd : o.guard = none) (s x : Operand)
    (ho : o.op = .call { callee := .builtin .append, args := #[s, x], argTypes := #[31, 31] }) {base : Nat} {v : Value} {xs : List UInt8} (hs : a.eval s = v) (hown : Own w base v xs) {A : Option Addr} {m c lo hi : Nat} {ys : List UInt8} (hx : a.eval x = .slice A m c) (hm : m = ys.length) (hr : RdA w lo hi A ys) (hl : xs.length + ys.length ≤ 140737488355328) (hbase : base ≤ w.heap.size) {zs : List UInt8} (hzs : Hid (zs = xs ++ ys))
    (h : ∀ A1 cap1 w', Own w' base (.slice A1 zs.length cap1) zs → w.grownBy w' v.ownBlock → ((Value.slice A1 zs.length cap1).ownBlock = v.ownBlock ∨ (Value.slice A1 zs.length cap1).ownBlock = some w.heap.size) → K (a.put o.dst (.slice A1 zs.length cap1)) w') :
    if Region.wanted o (yielded ops a.tmps) = true then Oper.wp Try.prog o a w K Q else E := by
  have hw : Region.wanted o (yielded ops a.tmps) = true := by simp [Region.wanted, hgd]
  rw [if_pos hw]
  subst hm
  obtain ⟨v', w', hrun, h2, h3, h4⟩ := run_append_rd w o.type hown (c := c) hr hl hbase
  unfold Oper.wp execOp
  simp only [ho, resolve, invoke, builtin, Sem.run_bind, Sem.run_pure, Result.andThen_ok, List.map_toArray, List.map_cons, List.map_nil, hs, hx, hrun]
  obtain rfl := hzs.out
  obtain ⟨A1, c1, rfl, _, _⟩ := h2.rd
  exact h A1 c1 w' h2 h3 h4

theorem row_block {W w1 : World} {g : Nat} {vb : Option Nat} {cs : Array Value} {t : TypeId} (hg : W.grownBy w1 vb) (h : W.heap[g]? = some (.cells cs t (0, 0))) (hne : vb ≠ some g) : w1.heap[g]? = some (.cells cs t (0, 0)) :=
  (hg.block g (Array.getElem?_eq_some_iff.1 h).1 (fun e => hne e.symm)).trans h
theorem row_cell {W w1 : World} {g : Nat} {vb : Option Nat} {cs : Array Value} {t : TypeId} (hg : W.grownBy w1 vb) (h : W.heap[g]? = some (.cells cs t (0, 0))) (hne : vb ≠ some g) (i : Nat) : w1.cell? ⟨g, i, none⟩ = cs[i]? := cell_of_row w1 g i _ _ (0, 0) (row_block hg h hne)
theorem row_free {W w1 : World} {g : Nat} {vb : Option Nat} {cs : Array Value} {t : TypeId} (hg : W.grownBy w1 vb) (h : W.heap[g]? = some (.cells cs t (0, 0))) (hne : vb ≠ some g) (i : Nat) : w1.frozen? ⟨g, i, none⟩ = false := frozen_of_row w1 g i _ _ (row_block hg h hne)

/-- What tear leaves of a file in block g: these bytes, all synced. -/
def TearPost (g : Nat) (vb : Option Nat) (ys : List UInt8) (w : World) (e : Ending) (w' : World) : Prop :=
  e = .returned (.tuple #[]) ∧ w'.os = w.os ∧ w'.tape = w.tape ∧ w'.output = w.output ∧ w.heap.size ≤ w'.heap.size ∧ (∀ b, b < w.heap.size → b ≠ g → some b ≠ vb → w'.heap[b]? = w.heap[b]?) ∧
    ∃ v, w'.heap[g]? = some (.cells #[v, .int .i64 (ys.length : Int)] 85 (0, 0)) ∧ Own w' 0 v ys ∧ ∀ b, v.ownBlock = some b → vb = some b ∨ w.heap.size ≤ b

theorem tear_end {g : Nat} {A A1 : Option Addr} {n c k cap1 m : Nat} {w W w1 : World} {zs : List UInt8} (hlt : g < w.heap.size) (hsz : W.heap.size = w.heap.size + 1) (hb : Below w.heap.size w W) (hg1 : W.grownBy w1 (Value.slice A m c).ownBlock) (hob : (Value.slice A m c).ownBlock = (Value.slice A n c).ownBlock) (hne : (Value.slice A n c).ownBlock ≠ some g)
    (r2 : (w1.setCell ⟨g, 0, none⟩ (.slice A1 zs.length cap1)).heap[g]? = some (.cells #[.slice A1 zs.length cap1, .int .i64 (k : Int)] 85 (0, 0)))
    (ho1 : Own w1 0 (.slice A1 zs.length cap1) zs) (hat : (Value.slice A1 zs.length cap1).ownBlock = (Value.slice A m c).ownBlock ∨ (Value.slice A1 zs.length cap1).ownBlock = some W.heap.size) :
    TearPost g (Value.slice A n c).ownBlock zs w (.returned (.tuple #[])) ((w1.setCell ⟨g, 0, none⟩ (.slice A1 zs.length cap1)).setCell ⟨g, 1, none⟩ (.int .i64 (zs.length : Int))) := by
  have hng : (Value.slice A1 zs.length cap1).ownBlock ≠ some g := by
    rcases hat with h | h
    · rw [h, hob]; exact hne
    · rw [h]; intro e; injection e with e; omega
  have hs : ∀ b, b ≠ g → ((w1.setCell ⟨g, 0, none⟩ (.slice A1 zs.length cap1)).setCell ⟨g, 1, none⟩ (.int .i64 (zs.length : Int))).heap[b]? = w1.heap[b]? := fun b hb' => (Below.heap_setCell _ ⟨g, 1, none⟩ _ b hb').trans (Below.heap_setCell _ ⟨g, 0, none⟩ _ b hb')
  refine ⟨rfl, hg1.os.trans hb.os, hg1.tape.trans hb.tape, hg1.output.trans hb.output, ?_, fun b h1 h2 h3 => ?_, .slice A1 zs.length cap1, ?_, ?_, fun b hbb => ?_⟩
  · have := hg1.size
    simp [World.setCell]; omega
  · exact ((hs b h2).trans (hg1.block b (by omega) (by rw [hob]; exact fun e => h3 e))).trans (hb.block b h1)
  · have := Joins.block_setCell r2 (i := 1) (.int .i64 (zs.length : Int))
    simpa using this
  · exact ho1.same fun b hbb => hs b (fun e => hng (by rw [hbb, e]))
  · rcases hat with h | h
    · left; rw [← hob, ← h]; exact hbb
    · right
      rw [h] at hbb; injection hbb with hbb; omega

set_option maxRecDepth 100000 in
set_option maxHeartbeats 3200000 in
theorem tear_any (g : Nat) (A : Option Addr) (c k keep : Nat) (bs : List UInt8) (nm : ByteArray) (J : Option Addr) (cj : Nat) (js : List UInt8) (w : World) (hg : w.heap[g]? = some (.cells #[.slice A bs.length c, .int .i64 (k : Int)] 85 (0, 0))) (hk : k + keep ≤ bs.length) (hn : bs.length ≤ 1099511627776) (hj : js.length ≤ 1099511627776)
    (hown : Own w 0 (.slice A bs.length c) bs) (hne : (Value.slice A bs.length c).ownBlock ≠ some g) (hJ : Rd w 0 w.heap.size (.slice J js.length cj) js) :
    Calls Try.prog 47 #[.pointer (some ⟨g, 0, none⟩), .agg #[.string nm, .int .i64 (keep : Int), .slice J js.length cj]] w (TearPost g (Value.slice A bs.length c).ownBlock (bs.take (k + keep) ++ js) w) := by
  obtain ⟨zs, hzs⟩ : ∃ zs, Hid (zs = bs.take (k + keep) ++ js) := ⟨_, Lib.hid rfl⟩
  rw [← hzs.out]
  have hlt : g < w.heap.size := (Array.getElem?_eq_some_iff.1 hg).1
  obtain ⟨W, hW⟩ : ∃ W, Hid (W = w.alloc (.cells #[.string nm, .int .i64 (keep : Int), .slice J js.length cj] 65)) := ⟨_, Lib.hid rfl⟩
  have hb : Below w.heap.size w W := by rw [hW.out]; exact (Below.refl _ _).alloc (Nat.le_refl _) _
  have hsz : W.heap.size = w.heap.size + 1 := by rw [hW.out]; simp
  have hgA := (hb.block g hlt).trans hg
  have c0 : W.cell? ⟨g, 0, none⟩ = some (.slice A bs.length c) := cell_of_row _ g 0 _ _ (0, 0) hgA
  have c1 : W.cell? ⟨g, 1, none⟩ = some (.int .i64 (k : Int)) := cell_of_row _ g 1 _ _ (0, 0) hgA
  have hnew : W.heap[w.heap.size]? = some (.cells #[.string nm, .int .i64 (keep : Int), .slice J js.length cj] 65 (0, 0)) := by rw [hW.out]; exact heap_alloc_new w _
  have t1 : W.cell? ⟨w.heap.size, 1, none⟩ = some (.int .i64 (keep : Int)) := cell_of_row _ _ 1 _ _ (0, 0) hnew
  have t2 : W.cell? ⟨w.heap.size, 2, none⟩ = some (.slice J js.length cj) := cell_of_row _ _ 2 _ _ (0, 0) hnew
  have ew : IntKind.i64.wrap ((k : Int) + (keep : Int)) = (k : Int) + (keep : Int) := IntWalk.i64_in _ (by omega)
  have ew1 : 0 ≤ (k : Int) + (keep : Int) := by omega
  have ew2 : ((k : Int) + (keep : Int)).toNat = k + keep := by omega
  have hown1 : Own W 0 (.slice A bs.length c) bs := hown.same fun b hbb => hb.block b (hown.lt b hbb).2
  obtain ⟨ho2, hob⟩ := hown1.take (k + keep) hk
  have hJ1 : RdA W 0 W.heap.size J js := by
    obtain ⟨A', c', e, _, hx'⟩ := (hJ.below hb (Nat.le_refl _)).mono (Nat.le_refl _) hb.size
    injection e with e1
    rw [e1]; exact hx'
  have hcap : bs.length ≤ c := by
    obtain ⟨A', c', e, h1, _⟩ := hown.rd
    injection e with _ _ e3
    omega
  have ew3 : (k : Int) + (keep : Int) ≤ (c : Int) := by omega
  have ltk : (bs.take (k + keep)).length = k + keep := by rw [List.length_take]; omega
  have HO := Lib.hid ho2
  have HOB := Lib.hid hob
  have HJ := Lib.hid hJ1
  have HGA := Lib.hid hgA
  have HB := Lib.hid hb
  have HNE := Lib.hid hne
  have LTK := Lib.hid ltk
  clear hg hgA hnew hown1 ho2 hob hJ1 hown hJ ltk
  go_enter Try.func47, Try.ntmps47
  go_wp2_with fail
  have e2 := hW.out.symm
  rw [e2]
  clear e2
  go_region_law (first
    | (refine step_append_rd (base := 0) (xs := bs.take (k + keep)) (ys := js) _ (by rfl) _ _ (by rfl) (by rfl) HO.out (by rfl) rfl HJ.out ?_ (Nat.zero_le _) hzs ?_
       · (rw [LTK.out]; omega)
       intro A1 cap1 w1 ho1 hg1 hat1
       have q1 : w1.cell? ⟨g, 0, none⟩ = some (.slice A bs.length c) := row_cell hg1 HGA.out (by rw [HOB.out]; exact HNE.out) 0
       have f1 : w1.frozen? ⟨g, 0, none⟩ = false := row_free hg1 HGA.out (by rw [HOB.out]; exact HNE.out) 0))
  all_goals
    have r1 := row_block hg1 HGA.out (by rw [HOB.out]; exact HNE.out)
    have r2 : (w1.setCell ⟨g, 0, none⟩ (.slice A1 zs.length cap1)).heap[g]? = some (.cells #[.slice A1 zs.length cap1, .int .i64 (k : Int)] 85 (0, 0)) := by
      have := Joins.block_setCell r1 (i := 0) (.slice A1 zs.length cap1)
      simpa using this
    have s0 : (w1.setCell ⟨g, 0, none⟩ (.slice A1 zs.length cap1)).cell? ⟨g, 0, none⟩ = some (.slice A1 zs.length cap1) := cell_of_row _ g 0 _ _ (0, 0) r2
    have s1 : (w1.setCell ⟨g, 0, none⟩ (.slice A1 zs.length cap1)).cell? ⟨g, 1, none⟩ = some (.int .i64 (k : Int)) := cell_of_row _ g 1 _ _ (0, 0) r2
    have s2 : (w1.setCell ⟨g, 0, none⟩ (.slice A1 zs.length cap1)).frozen? ⟨g, 1, none⟩ = false := frozen_of_row _ g 1 _ _ r2
    have HP : Hid (TearPost g (Value.slice A bs.length c).ownBlock zs w (.returned (.tuple #[])) ((w1.setCell ⟨g, 0, none⟩ (.slice A1 zs.length cap1)).setCell ⟨g, 1, none⟩ (.int .i64 (zs.length : Int)))) := Lib.hid (tear_end (W := W.drew) hlt hsz (below_drewN HB.out 1) hg1 HOB.out HNE.out r2 ho1 (by exact hat1))
    clear ho1 hg1 hat1 r1 r2
    go_wp2
    go_end0
    exact HP.out
end Go.Proofs.Ytaignkjcogmcjaa
