/- What a line comes to, and lines. -/
import Derived.Test.YtaihkehbpppngaaTRank
import Derived.Deep.RegionLaw
import Derived.Deep.AppendLies
namespace Go.Proofs.Ytaihkehbpppngaa
open Go.RowKit

def nanAt (w : World) (x y : Nat) : Nat := Question.cut (.nanBits .f64 x y) (w.tape w.drawn (.nanBits .f64 x y))
theorem nanAt_cn (w : World) (x y : Nat) : cn (nanAt w x y) = NANW := by
  refine cn_nan (decide_eq_true ?_)
  unfold nanAt
  simp only [Question.cut]
  generalize w.tape w.drawn (.nanBits .f64 x y) = t
  unfold rung
  have h1 : t % 2 = 0 ∨ t % 2 = 1 := by omega
  have h2 : t / 2 % (2 ^ 52 - 1) < 4503599627370495 := Nat.mod_lt _ (by decide)
  generalize t / 2 % (2 ^ 52 - 1) = c at h2 ⊢
  rcases h1 with h1 | h1 <;> rw [h1] <;> omega
theorem run_nan {P : Program} (w : World) (op : BinOp) (hop : op = .add ∨ op = .sub ∨ op = .mul ∨ op = .quo) (t : TypeId) (x y : Nat) (h : floatBits op .f64 x y = none) :
    (binOp op t (.float .f64 x) (.float .f64 y)).run P w = .ok (.float .f64 (nanAt w x y)) w.drew := by
  unfold floatBits at h
  rcases hop with rfl | rfl | rfl | rfl <;> simp only at h <;> simp [binOp, Op.floatArith, h, nanAt] <;> exact fun hf => (Bool.false_ne_true hf).elim

/-- A float's operation in a region that draws no order. -/
theorem wpList_fop {ops : Array Oper} {rest : List Oper} {o : Oper} {a : Act} {Q : Exit → Act → World → Prop} (w : World) (hgd : o.guard = none) (op : BinOp) (hop : op = .add ∨ op = .sub ∨ op = .mul ∨ op = .quo) (x y : Operand) (T T' : TypeId)
    (ho : o.op = .binOp op T x y T') {u v : Nat} (hx : a.eval x = .float .f64 u) (hy : a.eval y = .float .f64 v)
    (h : ∀ r w', cn r = fop op u v → r < 18446744073709551616 → (w' = w ∨ w' = w.drew) → wpList Try.prog ops Q rest (a.put o.dst (.float .f64 r)) w') : wpList Try.prog ops Q (o :: rest) a w := by
  refine wpList_plain hgd fun K hK => ?_
  obtain ⟨r, W, hrun, h1, h2, h3⟩ := run_fop (P := Try.prog) w op hop T u v
  unfold Oper.wp execOp
  have hg : ∀ w' : World, (eqGuard op T x y (.float .f64 u) (.float .f64 v)).run Try.prog w' = .ok () w' := by
    intro w'; rcases hop with rfl | rfl | rfl | rfl <;> rfl
  simp only [ho, Sem.run_bind, Sem.run_pure, Result.andThen_ok, hx, hy, hg, hrun]
  exact hK _ _ (h r W h2 h3 h1)
theorem below_or {B : Nat} {a w w' : World} (h : Below B a w) (hw : w' = w ∨ w' = w.drew) : Below B a w' := by
  rcases hw with rfl | rfl
  · exact h
  · exact h.drew

set_option maxRecDepth 100000 in
set_option maxHeartbeats 800000 in
theorem worth_any (s : ByteArray) (q : Int) (p : Nat) (w : World) : Calls Try.prog 37 #[.agg #[.string s, .int .i64 q, .int .u64 p]] w fun e w' => ∃ r, e = .returned (.float .f64 r) ∧ cn r = fop .mul (floatOfInt .f64 q) p ∧ Below w.heap.size w w' := by
  obtain ⟨W, hW⟩ : ∃ W, Hid (W = w.alloc (.cells #[.string s, .int .i64 q, .int .u64 p] 28)) := ⟨_, Lib.hid rfl⟩
  have HB : Hid (Below w.heap.size w W) := Lib.hid (by rw [hW.out]; exact (Below.refl _ _).alloc (Nat.le_refl _) _)
  have k0 : W.cell? ⟨w.heap.size, 1, none⟩ = some (.int .i64 q) ∧ W.cell? ⟨w.heap.size, 2, none⟩ = some (.int .u64 p) := by
    rw [hW.out]; exact ⟨box_cell _ _ _ 1, box_cell _ _ _ 2⟩
  have H1 := fun w' => Lib.hid (floatOf_any p w')
  cases hf : floatBits .mul .f64 (floatOfInt .f64 q) p with
  | some r =>
    have hM := fun W' => run_float_arith (P := Try.prog) W' .mul 42 .f64 (floatOfInt .f64 q) p r hf
    have hq : Hid (cn r = fop .mul (floatOfInt .f64 q) p) := Lib.hid (by unfold fop; rw [hf]; exact cn_num (floatBits_num hf))
    clear hf
    go_enter Try.func37, Try.ntmps37
    go_upto_region 1 with fail
    rw [← hW.out]
    go_region_held3 (fun w' => w'.cell? ⟨w.heap.size, 1, none⟩ = some (.int .i64 q) ∧ w'.cell? ⟨w.heap.size, 2, none⟩ = some (.int .u64 p)) (first | exact k0 | go_keep)
      (first
        | (go_at_call 27
           (with_reducible refine (H1 _).out.mono ?_); rintro e w1 ⟨rfl, rfl⟩))
    go_wp2
    go_ret
    exact ⟨r, rfl, hq.out, HB.out.drew⟩
  | none =>
    have hM := fun W' => run_nan (P := Try.prog) W' .mul (.inr (.inr (.inl rfl))) 42 (floatOfInt .f64 q) p hf
    have hq : ∀ W', Hid (cn (nanAt W' (floatOfInt .f64 q) p) = fop .mul (floatOfInt .f64 q) p) := fun W' => Lib.hid (by unfold fop; rw [hf]; exact nanAt_cn _ _ _)
    clear hf
    go_enter Try.func37, Try.ntmps37
    go_upto_region 1 with fail
    rw [← hW.out]
    have k1 := k0.1
    have k2 := k0.2
    go_region_law
      (first
        | (go_simp; go_at_call 27
           (with_reducible refine (H1 _).out.mono ?_); rintro e w1 ⟨rfl, rfl⟩)
        | fail)
    all_goals
      go_wp2
      go_ret
      exact ⟨_, rfl, (hq _).out, by repeat' (first | exact HB.out | refine Below.drew ?_)⟩

set_option maxRecDepth 100000 in
set_option maxHeartbeats 800000 in
theorem part_any (s : ByteArray) (q : Int) (p : Nat) (w : World) : Calls Try.prog 38 #[.agg #[.string s, .int .i64 q, .int .u64 p]] w fun e w' => ∃ r, e = .returned (.float .f64 r) ∧ cn r = fop .mul (floatOfInt .f64 q) p ∧ Below w.heap.size w w' := by
  obtain ⟨W, hW⟩ : ∃ W, Hid (W = w.alloc (.cells #[.string s, .int .i64 q, .int .u64 p] 28)) := ⟨_, Lib.hid rfl⟩
  have HB : Hid (Below w.heap.size w W) := Lib.hid (by rw [hW.out]; exact (Below.refl _ _).alloc (Nat.le_refl _) _)
  have k0 : W.cell? ⟨w.heap.size, 1, none⟩ = some (.int .i64 q) ∧ W.cell? ⟨w.heap.size, 2, none⟩ = some (.int .u64 p) := by
    rw [hW.out]; exact ⟨box_cell _ _ _ 1, box_cell _ _ _ 2⟩
  have H1 := fun w' => Lib.hid (float_any p w')
  cases hf : floatBits .mul .f64 (floatOfInt .f64 q) p with
  | some r =>
    have hM := fun W' => run_float_arith (P := Try.prog) W' .mul 42 .f64 (floatOfInt .f64 q) p r hf
    have hq : Hid (cn r = fop .mul (floatOfInt .f64 q) p) := Lib.hid (by unfold fop; rw [hf]; exact cn_num (floatBits_num hf))
    clear hf
    go_enter Try.func38, Try.ntmps38
    go_upto_region 1 with fail
    rw [← hW.out]
    go_region_held3 (fun w' => w'.cell? ⟨w.heap.size, 1, none⟩ = some (.int .i64 q) ∧ w'.cell? ⟨w.heap.size, 2, none⟩ = some (.int .u64 p)) (first | exact k0 | go_keep)
      (first
        | (go_at_call 36
           (with_reducible refine (H1 _).out.mono ?_); rintro e w1 ⟨rfl, rfl⟩))
    go_wp2
    go_ret
    exact ⟨r, rfl, hq.out, HB.out.drew⟩
  | none =>
    have hM := fun W' => run_nan (P := Try.prog) W' .mul (.inr (.inr (.inl rfl))) 42 (floatOfInt .f64 q) p hf
    have hq : ∀ W', Hid (cn (nanAt W' (floatOfInt .f64 q) p) = fop .mul (floatOfInt .f64 q) p) := fun W' => Lib.hid (by unfold fop; rw [hf]; exact nanAt_cn _ _ _)
    clear hf
    go_enter Try.func38, Try.ntmps38
    go_upto_region 1 with fail
    rw [← hW.out]
    have k1 := k0.1
    have k2 := k0.2
    go_region_law
      (first
        | (go_simp; go_at_call 36
           (with_reducible refine (H1 _).out.mono ?_); rintro e w1 ⟨rfl, rfl⟩)
        | fail)
    all_goals
      go_wp2
      go_ret
      exact ⟨_, rfl, (hq _).out, by repeat' (first | exact HB.out | refine Below.drew ?_)⟩
end Go.Proofs.Ytaihkehbpppngaa
