/- Maps of nodes as lists of marks. -/
import Derived.Test.YtefciibkcafbiaaGTick
import Derived.Test.YtefciibkcafbiaaGInts
import Derived.Maps.Views
import Derived.Maps.Own
import Derived.Maps.OwnSet
import Derived.Maps.RangeWalk
namespace Go.Proofs.Ytefciibkcafbiaa
open Go.RowKit Go.Sort Go.BigFrame Go.WideMaps

/-- A value reads as itself. -/
def selfR : Value → Option (DataW Value × List MemPlace) := fun v => some (.held v, [])
theorem selfR_inv {v u : Value} {ps : List MemPlace} (h : selfR v = some (.held u, ps)) : v = u := by
  unfold selfR at h
  injection h with h
  injection h with h
  injection h
/-- 'm[k]' at the operation, for the walk. -/
theorem wpList_lookup_own {H : Type} {P : Program} (w : World) {ops : Array Oper} {rest : List Oper} {o : Oper} {a : Act} {Q : Exit → Act → World → Prop} (hg : o.guard = none) (m x : Operand) (t : TypeId) (hop : o.op = Op.lookup t m x false)
    (k e : TypeId) (K : Maps.Keyed P k) (ht : P.underlying t = some (.map k e)) (R : Value → Option (DataW H × List MemPlace)) {z : Value} (hz : (zeroValue e).run P w = .ok z w) (zd : DataW H) (zp : List MemPlace) (hzd : R z = some (zd, zp)) (b n : Nat) (D : DataW H)
    (hm : a.eval m = .map (some b)) (hown : w.ownsMap P k R b n D) (key : Value) (kl : Lit) (hx : a.eval x = key) (hkey : keyOf P k key = some kl)
    (hK : ∀ v ps, R v = some (D.atKey kl zd, ps) → wpList P ops Q rest (a.put o.dst v) w) :
    wpList P ops Q (o :: rest) a w := by
  refine wpList_plain hg fun K' hK' => ?_
  obtain ⟨v, ps, hrun, hv⟩ := hown.lookup K ht hz hzd hkey
  unfold Oper.wp
  simp [execOp, hop, hm, hx, hrun, Result.andThen]
  exact hK' _ _ (hK v ps hv)
theorem litWf {a : Int} (h0 : -9223372036854775808 ≤ a) (h1 : a ≤ 9223372036854775807) : (Lit.int .i64 a).wf = true := by
  have e0 : IntKind.i64.min = -9223372036854775808 := by decide
  have e1 : IntKind.i64.max = 9223372036854775807 := by decide
  simp only [Lit.wf, e0, e1, Bool.and_eq_true, decide_eq_true_eq]
  exact ⟨h0, h1⟩
theorem zeroBool (w : World) : (zeroValue 4).run Try.prog w = .ok (.bool false) w := by kernel_rfl
theorem lawInt : Maps.Keyed Try.prog 3 := Maps.int_keyed Try.underlying3

abbrev nD (x : Nat) : Lit := .int .i64 (x : Int)
theorem nD_ne {x y : Nat} (h : x ≠ y) : nD x ≠ nD y := fun e => by injection e with _ e; exact h (by omega)
/-- A map tells these marks. -/
structure MapIs (D : DataW Value) (L : List Bool) : Prop where
  len : L.length = 8
  tidy : Maps.Tidy D
  at_ : ∀ i, i < 8 → D.atKey (nD i) (.held (.bool false)) = .held (.bool (L.getD i false))
  has_ : ∀ i, i < 8 → Maps.has D (nD i) = L.getD i false
  size_ : Maps.size D = cnt L
theorem getD_set (L : List Bool) (i j : Nat) (b : Bool) (h : i < L.length) : (L.set i b).getD j false = if j = i then b else L.getD j false := by
  simp only [List.getD, List.getElem?_set]
  by_cases e : i = j
  · subst e; simp [h]
  · rw [if_neg e, if_neg (fun h => e h.symm)]
theorem mapIs_empty : MapIs (.map []) (List.replicate 8 false) := by
  refine ⟨rfl, Maps.tidy_empty, fun i hi => ?_, fun i hi => ?_, rfl⟩ <;>
  rcases (by omega : i = 0 ∨ i = 1 ∨ i = 2 ∨ i = 3 ∨ i = 4 ∨ i = 5 ∨ i = 6 ∨ i = 7) with rfl | rfl | rfl | rfl | rfl | rfl | rfl | rfl <;> rfl
theorem MapIs.put {D : DataW Value} {L : List Bool} (h : MapIs D L) {i : Nat} (hi : i < 8) (ht : Maps.Tidy (D.put (nD i) (.held (.bool true)))) : MapIs (D.put (nD i) (.held (.bool true))) (L.set i true) := by
  have hl := h.len
  refine ⟨by simp [hl], ht, fun j hj => ?_, fun j hj => ?_, ?_⟩
  · rw [getD_set L i j true (by omega)]
    by_cases e : j = i
    · subst e
      rw [if_pos rfl]
      exact Maps.atKey_put_same h.tidy.isMap (by exact (True.intro : WideAt.IsKeyLit (.int .i64 (j : Int)))) _ _
    · rw [if_neg e, Maps.atKey_put_other (nD_ne e)]
      exact h.at_ j hj
  · rw [getD_set L i j true (by omega)]
    by_cases e : j = i
    · subst e
      rw [if_pos rfl]
      exact Maps.has_put_same h.tidy.isMap (by exact (True.intro : WideAt.IsKeyLit (.int .i64 (j : Int)))) _
    · rw [if_neg e, Maps.has_put_other (nD_ne e)]
      exact h.has_ j hj
  · rw [Maps.size_put h.tidy, h.has_ i hi, h.size_, cnt_set L hl i hi]
/-- A map that has none of the nodes but the first so many turns. -/
structure MetIs (D : DataW Value) (L : List Bool) (s j : Nat) : Prop where
  is_ : Maps.IsMap D
  at_ : ∀ x, (∀ i, i < j → nx L (sq L s i) ≠ x) → D.atKey (nD x) (.held (.bool false)) = .held (.bool false)
theorem metIs_empty (L : List Bool) (s : Nat) : MetIs (.map []) L s 0 := ⟨Maps.isMap_empty, fun _ _ => rfl⟩
theorem MetIs.put {D : DataW Value} {L : List Bool} {s j : Nat} (h : MetIs D L s j) : MetIs (D.put (nD (nx L (sq L s j))) (.held (.bool true))) L s (j + 1) :=
  ⟨h.is_.put _ _, fun x hx => by
    rw [Maps.atKey_put_other (nD_ne (fun e => hx j (by omega) e.symm))]
    exact h.at_ x fun i hi => hx i (by omega)⟩
end Go.Proofs.Ytefciibkcafbiaa
