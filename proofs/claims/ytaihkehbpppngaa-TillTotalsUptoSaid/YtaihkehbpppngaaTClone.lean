/- Lines copied, and held against each other. -/
import Derived.Test.YtaihkehbpppngaaTNever
import Derived.Test.YtaihkehbpppngaaTOpen
import Derived.Test.YtaihkehbpppngaaTWords
namespace Go.Proofs.Ytaihkehbpppngaa
open Go.RowKit

theorem lcells_append (a b : List LineA) : lcells (a ++ b) = lcells a ++ lcells b := by unfold lcells; rw [List.flatMap_append]
theorem lcells_length : ∀ ls : List LineA, (lcells ls).length = ls.length * 3
  | [] => rfl
  | d :: r => by
    have e : lcells (d :: r) = .string d.1 :: .int .i64 d.2.1 :: .int .u64 (d.2.2 : Int) :: lcells r := rfl
    rw [e]; simp only [List.length_cons, lcells_length r]; omega
theorem OwnL.slice {w : World} {base : Nat} {v : Value} {xs : List LineA} (h : OwnL w base v xs) : ∃ A c, v = .slice A xs.length c := by
  rcases h.2 with ⟨rfl, h0⟩ | ⟨g, cap, cur, rfl, _⟩
  · exact ⟨none, 0, by rw [h0]⟩
  · exact ⟨_, _, rfl⟩
theorem run_append_lines (_ : True)
    (w : World) (ty : TypeId) {base hi : Nat} {v : Value} {xs ys : List LineA} (hown : OwnL w base v xs) {A : Option Addr} {c : Nat} (hr : RdLA w hi A ys)
    (hm : xs.length + ys.length ≤ 1099511627776) (hbase : base ≤ w.heap.size) :
    ∃ v' w', (Builtin.append_ #[25, 25] ty #[v, .slice A ys.length c]).run Try.prog w = .ok v' w' ∧ OwnL w' base v' (xs ++ ys) ∧ w.grownBy w' v.ownBlock ∧
      (v'.ownBlock = v.ownBlock ∨ v'.ownBlock = some w.heap.size) := by
  obtain ⟨i0, hi0, hz0, hz1, hz2⟩ := info_parts infoLine
  by_cases h0 : ys = []
  · subst h0
    refine ⟨v, w, ?_, by simpa using hown, World.grownBy.refl w _, .inl rfl⟩
    rcases hown.2 with ⟨rfl, _⟩ | ⟨g, cap, cur, rfl, _, _, hnc, _⟩
    · cases A <;> simp [Builtin.append_, run_underlying Try.underlying25, sizeOf, typeInfo, hi0, Builtin.lenOf, Builtin.firstCells, loadCells, loadCellsFrom]
    · cases A <;> simp [Builtin.append_, run_underlying Try.underlying25, sizeOf, typeInfo, hi0, Builtin.lenOf, Builtin.firstCells, hnc, storeCells, loadCells, loadCellsFrom]
  · obtain ⟨y, hy⟩ : ∃ y, ys[0]? = some y := ⟨ys[0]'(List.length_pos_iff.2 h0), List.getElem?_eq_getElem _⟩
    obtain ⟨ad, rfl, _, _⟩ := hr 0 y hy
    obtain ⟨v', w', h1, h2, h3, _, h5⟩ := run_append_own_at (P := Try.prog) w base 25 ty 28 i0 _ 3 32 Try.underlying25 hi0 hz0 hz1 hz2 rfl (by decide)
      v xs.length (lcells xs) hown ad ys.length c (lcells ys) (lcells_length ys) (fun j u hu => by
        have hj : j < ys.length * 3 := by
          have := (List.getElem?_eq_some_iff.1 hu).1
          rwa [lcells_length] at this
        obtain ⟨d, hd⟩ : ∃ d, ys[j / 3]? = some d := ⟨ys[j / 3]'(by omega), List.getElem?_eq_getElem _⟩
        obtain ⟨ad', e', _, p0, p1, p2⟩ := hr (j / 3) d hd
        injection e' with e'
        subst e'
        obtain ⟨a0, a1, a2⟩ := lcells_at ys (j / 3) d hd
        have hm3 : j % 3 < 3 := Nat.mod_lt _ (by decide)
        have hj3 : j = j / 3 * 3 + j % 3 := by omega
        generalize j % 3 = r at hm3 hj3
        generalize j / 3 = q at *
        subst hj3
        have pp : ∀ i, 0 < i → ad.add (q * 3 + i) = ⟨(ad.add (q * 3)).block, (ad.add (q * 3)).off + i, none⟩ := fun i hi => by
          rw [← add_add, add_lit _ i hi]
        rcases (by omega : r = 0 ∨ r = 1 ∨ r = 2) with rfl | rfl | rfl
        · rw [Nat.add_zero] at hu ⊢
          rw [a0] at hu
          rw [p0]; exact hu
        · rw [a1] at hu
          rw [pp 1 (by omega), p1]; exact hu
        · rw [a2] at hu
          rw [pp 2 (by omega), p2]; exact hu)
      (fun u hu => by
        unfold lcells at hu
        rw [List.mem_flatMap] at hu
        obtain ⟨d, _, hd⟩ := hu
        simp at hd
        rcases hd with rfl | rfl | rfl <;> rfl) (by simp only [maxLen]; omega) (by omega) hbase
    refine ⟨v', w', h1, ?_, h3, h5⟩
    unfold OwnL
    rw [List.length_append, lcells_append]
    exact h2

theorem wpList_append_lines (_ : True)
    {ops : Array Oper} {rest : List Oper} {o : Oper} {a : Act} {Q : Exit → Act → World → Prop} (w : World) (hgd : o.guard = none) (s x : Operand)
    (ho : o.op = .call { callee := .builtin .append, args := #[s, x], argTypes := #[25, 25] })
    {base hi : Nat} {v : Value} {xs ys : List LineA} (hs : a.eval s = v) (hown : OwnL w base v xs) {A : Option Addr} {m c : Nat} (hx : a.eval x = .slice A m c) (hm : m = ys.length) (hr : RdLA w hi A ys)
    (hl : xs.length + ys.length ≤ 1099511627776) (hbase : base ≤ w.heap.size)
    (h : ∀ v' w', OwnL w' base v' (xs ++ ys) → w.grownBy w' v.ownBlock → (v'.ownBlock = v.ownBlock ∨ v'.ownBlock = some w.heap.size) → wpList Try.prog ops Q rest (a.put o.dst v') w') : wpList Try.prog ops Q (o :: rest) a w := by
  subst hm
  refine wpList_plain hgd fun K hK => ?_
  obtain ⟨v', w', hrun, h2, h3, h4⟩ := run_append_lines trivial w o.type hown (c := c) hr hl hbase
  unfold Oper.wp execOp
  simp only [ho, resolve, invoke, builtin, Sem.run_bind, Sem.run_pure, Result.andThen_ok, List.map_toArray, List.map_cons, List.map_nil, hs, hx, hrun]
  exact hK _ _ (h v' w' h2 h3 h4)

set_option maxRecDepth 100000 in
set_option maxHeartbeats 1600000 in
theorem cloneL_any (v : Value) (xs : List LineA) (w : World) (h : RdL w v xs) (hl : xs.length ≤ 1099511627776) :
    Calls Try.prog 11 #[v] w fun e w' => ∃ A c, e = .returned (.slice A xs.length c) ∧ RdL w' (.slice A xs.length c) xs ∧ Below w.heap.size w w' := by
  obtain ⟨A, c, rfl, hc, hx⟩ := h
  cases A with
  | none =>
    have e : xs = [] := by
      cases xs with
      | nil => rfl
      | cons x r => obtain ⟨ad, e, _⟩ := hx 0 x rfl; cases e
    subst e
    have he : ∀ u : World, (binOp .eql 25 (.slice none 0 c) (.slice none 0 0)).run Try.prog u = .ok (.bool true) u := fun u => Lib.run_eql_slice_nil (P := Try.prog) u 25 28 none 0 c 0 0 Try.underlying25
    go_enter Try.func11, Try.ntmps11
    go_wp2
    go_ret
    exact ⟨none, 0, rfl, ⟨none, 0, rfl, Nat.le_refl _, fun j d hd => by simp at hd⟩, Below.refl _ _⟩
  | some ad =>
    obtain ⟨n, hn⟩ : ∃ n, Hid (n = xs.length) := ⟨_, Lib.hid rfl⟩
    rw [← hn.out] at hl hc ⊢
    have hB : Below w.heap.size w (w.alloc (.cells #[] 28)) := (Below.refl _ _).alloc (Nat.le_refl _) _
    have HO : Hid (OwnL (w.alloc (.cells #[] 28)) w.heap.size (.slice (some ⟨w.heap.size, 0, none⟩) 0 0) []) := Lib.hid ⟨rfl, .inr ⟨w.heap.size, 0, #[], rfl, Nat.le_refl _, heap_alloc_new w _, Nat.le_refl _, by decide, rfl, rfl⟩⟩
    have HX : Hid (RdLA (w.alloc (.cells #[] 28)) w.heap.size (some ad) xs) := Lib.hid (hx.below hB (Nat.le_refl _))
    have HB := Lib.hid hB
    have h63 : ([] : List LineA).length + xs.length ≤ 1099511627776 := by have := hn.out; simp only [List.length_nil]; omega
    have hzz : w.heap.size ≤ (w.alloc (.cells #[] 28)).heap.size := hB.size
    have he : ∀ u : World, (binOp .eql 25 (.slice (some ad) n c) (.slice none 0 0)).run Try.prog u = .ok (.bool false) u := fun u => Lib.run_eql_slice_nil (P := Try.prog) u 25 28 (some ad) n c 0 0 Try.underlying25
    clear hx hB hl
    go_enter Try.func11, Try.ntmps11
    go_wp2_with (at_builtin; go_must (refine wpList_append_lines trivial _ rfl (.tmp 5) (.tmp 6) rfl (by rfl) HO.out (by rfl) hn.out HX.out h63 hzz ?_))
    intro v5 w5 ho5 hg5 _
    obtain ⟨A1, c1, hv⟩ := ho5.slice
    have hv : v5 = .slice A1 n c1 := by rw [hv, hn.out]; try rfl
    subst hv
    have HO5 : Hid (OwnL w5 w.heap.size (.slice A1 n c1) xs) := Lib.hid ho5
    have HB5 : Hid (Below w.heap.size w w5) := Lib.hid (HB.out.grown hg5 hzz (fun g e => (World.ownsRow.lt HO.out g e).1))
    clear ho5 hg5 h63 hzz
    go_wp2
    go_ret
    exact ⟨A1, c1, rfl, HO5.out.rd, HB5.out⟩

theorem neLine (d : LineA) (w : World) : (binOp .neq 28 (.agg #[.string d.1, .int .i64 d.2.1, .int .u64 (d.2.2 : Int)]) (.agg #[.string d.1, .int .i64 d.2.1, .int .u64 (d.2.2 : Int)])).run Try.prog w = .ok (.bool false) w := by
  have u3 := Try.underlying3
  have a3 := Try.isAgg3
  have z3 := Try.sizeOf3
  have u4 := Try.underlying9
  have a4 := Try.isAgg9
  have z4 := Try.sizeOf9
  have u5 := Try.underlying22
  have a5 := Try.isAgg22
  have z5 := Try.sizeOf22
  have hS : Try.prog.underlying 28 = some (.struct (Try.prog.fieldsOf 28)) := by kernel_rfl
  have hp : Try.prog.stoodInHeld 28 = false := by kernel_rfl
  obtain ⟨a1, a2, a4'⟩ := d
  rw [run_neq_struct, show (10000 : Nat) = 9999 + 1 from rfl, run_equalIn_agg w 9999 28 _ _ hS hp]
  simp only [Program.fieldsOf, Try.underlying28]
  go_simp

set_option maxRecDepth 100000 in
set_option maxHeartbeats 1600000 in
/-- Two rows that read the same are equal. -/
theorem equalL_same (v1 v2 : Value) (xs : List LineA) (w : World) (h1 : RdL w v1 xs) (h2 : RdL w v2 xs) (hl : xs.length ≤ 1099511627776) :
    Calls Try.prog 19 #[v1, v2] w fun e w' => e = .returned (.bool true) ∧ Below w.heap.size w w' := by
  obtain ⟨A, c, rfl, hc, hx⟩ := h1
  obtain ⟨B, k2, rfl, hc2, hy⟩ := h2
  obtain ⟨n, hn⟩ : ∃ n, Hid (n = xs.length) := ⟨_, Lib.hid rfl⟩
  rw [← hn.out] at hl hc hc2 ⊢
  have HX := Lib.hid hx
  have HY := Lib.hid hy
  clear hx hy
  go_enter Try.func19, Try.ntmps19
  go_wp2
  go_loopw [13] (fun i wr => ∃ k : Nat, k ≤ n ∧ i = .int .i64 k ∧ Below w.heap.size w wr) (fun i _ => n - (intOf i).toNat)
  case atStart => exact ⟨0, Nat.zero_le _, rfl, Below.refl _ _⟩
  case round =>
    obtain ⟨k, hk, rfl, hb⟩ := hrel
    by_cases hlt : k < n
    · obtain ⟨d, hd⟩ : ∃ d, xs[k]? = some d := ⟨xs[k]'(by have := hn.out; omega), List.getElem?_eq_getElem _⟩
      obtain ⟨ad, rfl, ha, d0, d1, d2⟩ := HX.out.below hb (Nat.le_refl _) k d hd
      obtain ⟨bd, rfl, hb', e0, e1, e2⟩ := HY.out.below hb (Nat.le_refl _) k d hd
      have b0 : (0 : Int) ≤ (k : Int) := by omega
      have b1 : (k : Int) < (n : Int) := by omega
      have hNE := neLine d
      have HB := Lib.hid hb
      clear hd hb
      go_wp2_with fail
      go_quiet (fail)
      go_wp2
      go_roundw
      case rel => exact ⟨k + 1, by omega, by go_num, by first | exact HB.out.drew | exact ⟨HB.out.os, HB.out.tape, HB.out.output, HB.out.size, HB.out.block⟩⟩
      case measure => simp [intOf]; omega
    · obtain rfl : k = n := by omega
      go_wp2
      go_ret
      exact ⟨rfl, hb⟩
end Go.Proofs.Ytaihkehbpppngaa
