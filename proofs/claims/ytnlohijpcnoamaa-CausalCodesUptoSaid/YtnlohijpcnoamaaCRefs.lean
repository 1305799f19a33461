/- The document's words on dots: may, below, mark; one dot appended. -/
import Derived.Test.YtnlohijpcnoamaaCHas
namespace Go.Proofs.Ytnlohijpcnoamaa
open Go.RowKit Go.Sort Go.BigFrame
open Go.Lib (byteCells byteCells_length)

theorem infoMark : (Try.prog.info? 53).map (fun i => (i.zero, i.size, i.bytes)) = some (some (.agg #[.int .i64 0, .int .i64 0, .int .i64 0]), 3, 24) := by kernel_rfl
theorem infoDot : (Try.prog.info? 55).map (fun i => (i.zero, i.size, i.bytes)) = some (some (.agg #[.int .i64 0, .int .i64 0, .int .i64 0]), 3, 24) := by kernel_rfl

theorem run_append_dot {T ST : TypeId} (ht : Try.prog.underlying ST = some (.slice T)) (hT : (Try.prog.info? T).map (fun i => (i.zero, i.size, i.bytes)) = some (some (.agg #[.int .i64 0, .int .i64 0, .int .i64 0]), 3, 24))
    (w : World) (ty : TypeId) {base : Nat} {v : Value} {ds : List DotA} (d : DotA) (hown : OwnD T w base v ds) (hl : ds.length ≤ 1099511627776) (hbase : base ≤ w.heap.size) :
    ∃ v' w', (Builtin.append_ #[ST, ST] ty #[v, .slice (some ⟨w.heap.size, 0, none⟩) 1 1]).run Try.prog (w.alloc (.cells #[.int .i64 d.1, .int .i64 d.2.1, .int .i64 d.2.2] T)) = .ok v' w' ∧ OwnD T w' base v' (ds ++ [d]) ∧ w.grownBy w' v.ownBlock ∧
      (v'.ownBlock = v.ownBlock ∨ ∃ g, v'.ownBlock = some g ∧ w.heap.size ≤ g) := by
  obtain ⟨i0, hi0, hz0, hz1, hz2⟩ := info_parts hT
  have hb : Below w.heap.size w (w.alloc (.cells #[.int .i64 d.1, .int .i64 d.2.1, .int .i64 d.2.2] T)) := (Below.refl _ _).alloc (Nat.le_refl _) _
  obtain ⟨v', w', a1, a2, a3, _, a5⟩ := run_append_own_at (P := Try.prog) (w.alloc (.cells #[.int .i64 d.1, .int .i64 d.2.1, .int .i64 d.2.2] T)) base ST ty T i0 _ 3 24 ht hi0 hz0 hz1 hz2 rfl (by decide)
    v ds.length (dcells ds) (OwnD.below hown hb) ⟨w.heap.size, 0, none⟩ 1 1 [.int .i64 d.1, .int .i64 d.2.1, .int .i64 d.2.2] rfl (fun j u hu => by
      have e : (⟨w.heap.size, 0, none⟩ : Addr).add j = ⟨w.heap.size, j, none⟩ := by unfold Addr.add; split <;> simp_all
      rw [e, box_cell]
      simpa using hu) (by simp [Value.oneCell']) (by unfold maxLen; omega) (by omega) (by simp; omega)
  refine ⟨v', w', a1, ?_, ⟨a3.os, a3.tape, a3.output, Nat.le_trans (by simp) a3.size, fun k hk hne => (a3.block k (by simp; omega) hne).trans (hb.block k hk)⟩, ?_⟩
  · unfold OwnD
    rw [dcells_snoc, List.length_append]
    exact a2
  · rcases a5 with h | h
    · exact .inl h
    · exact .inr ⟨_, h, by simp⟩

theorem wpList_append_dot {T ST : TypeId} (ht : Try.prog.underlying ST = some (.slice T)) (hT : (Try.prog.info? T).map (fun i => (i.zero, i.size, i.bytes)) = some (some (.agg #[.int .i64 0, .int .i64 0, .int .i64 0]), 3, 24))
    {ops : Array Oper} {rest : List Oper} {o : Oper} {a : Act} {Q : Exit → Act → World → Prop} (w : World) (hgd : o.guard = none) (s x : Operand)
    (ho : o.op = .call { callee := .builtin .append, args := #[s, x], argTypes := #[ST, ST] })
    {base : Nat} {v : Value} {ds : List DotA} (d : DotA) (hs : a.eval s = v) (hx : a.eval x = .slice (some ⟨w.heap.size, 0, none⟩) 1 1) (hown : OwnD T w base v ds) (hl : ds.length ≤ 1099511627776) (hbase : base ≤ w.heap.size)
    (h : ∀ v' w', OwnD T w' base v' (ds ++ [d]) → w.grownBy w' v.ownBlock → (v'.ownBlock = v.ownBlock ∨ ∃ g, v'.ownBlock = some g ∧ w.heap.size ≤ g) → wpList Try.prog ops Q rest (a.put o.dst v') w') :
    wpList Try.prog ops Q (o :: rest) a (w.alloc (.cells #[.int .i64 d.1, .int .i64 d.2.1, .int .i64 d.2.2] T)) := by
  refine wpList_plain hgd fun K hK => ?_
  obtain ⟨v', w', hrun, h2, h3, h4⟩ := run_append_dot ht hT w o.type d hown hl hbase
  unfold Oper.wp execOp
  simp only [ho, resolve, invoke, builtin, Sem.run_bind, Sem.run_pure, Result.andThen_ok, List.map_toArray, List.map_cons, List.map_nil, hs, hx, hrun]
  exact hK _ _ (h v' w' h2 h3 h4)

set_option maxRecDepth 100000 in
set_option maxHeartbeats 1600000 in
theorem mayDot_ref (d : DotA) (w : World) : Calls Try.prog 45 #[dotV d] w fun e w' => e = .returned (.bool (mayB d)) ∧ Below w.heap.size w w' := by
  obtain ⟨n, l, c⟩ := d
  go_enter Try.func45, Try.ntmps45
  go_wp2
  all_goals go_ret
  all_goals refine ⟨ret_bool ?_, (Below.refl _ _).alloc (Nat.le_refl _) _⟩
  all_goals simp [mayB]
  all_goals omega
set_option maxRecDepth 100000 in
set_option maxHeartbeats 800000 in
theorem mayMark_ref (d : DotA) (w : World) : Calls Try.prog 44 #[dotV d] w fun e w' => e = .returned (.bool (mayB d)) ∧ Below w.heap.size w w' := by
  have hb0 : Below w.heap.size w (w.alloc (.cells #[.int .i64 d.1, .int .i64 d.2.1, .int .i64 d.2.2] 53)) := (Below.refl _ _).alloc (Nat.le_refl _) _
  have HC := Lib.hid (mayDot_ref d (w.alloc (.cells #[.int .i64 d.1, .int .i64 d.2.1, .int .i64 d.2.2] 53)))
  have HB := Lib.hid hb0
  obtain ⟨b, hb⟩ : ∃ b, b = mayB d := ⟨_, rfl⟩
  rw [← hb] at HC ⊢
  obtain ⟨n, l, c⟩ := d
  clear hb0 hb
  go_enter Try.func44, Try.ntmps44
  go_wp2_with fail
  (with_reducible refine HC.out.mono ?_); rintro e w1 ⟨rfl, hb1⟩
  go_wp2
  go_ret
  exact ⟨rfl, HB.out.trans (hb1.mono HB.out.size)⟩

/-- Does a dot stand ahead of another one? -/
def belB (a b : DotA) : Bool := if a.1 = b.1 then (if a.2.1 = b.2.1 then decide (a.2.2 < b.2.2) else decide (a.2.1 < b.2.1)) else decide (a.1 < b.1)
set_option maxRecDepth 100000 in
set_option maxHeartbeats 1600000 in
theorem below_ref (a b : DotA) (w : World) : Calls Try.prog 47 #[dotV a, dotV b] w fun e w' => e = .returned (.bool (belB a b)) ∧ Below w.heap.size w w' := by
  obtain ⟨a1, a2, a3⟩ := a
  obtain ⟨b1, b2, b3⟩ := b
  obtain ⟨r, hr⟩ : ∃ r, Hid (r = belB (a1, a2, a3) (b1, b2, b3)) := ⟨_, Lib.hid rfl⟩
  rw [← hr.out]
  by_cases h1 : a1 = b1
  · have d1 : (a1 != b1) = false := by simpa using h1
    by_cases h2 : a2 = b2
    · have d2 : (a2 != b2) = false := by simpa using h2
      have E : Hid (r = decide (a3 < b3)) := Lib.hid (by rw [hr.out]; unfold belB; rw [if_pos h1, if_pos h2])
      clear h1 h2
      go_enter Try.func47, Try.ntmps47
      go_wp2
      go_ret
      exact ⟨ret_bool E.out.symm, ((Below.refl _ _).alloc (Nat.le_refl _) _).alloc (by simp) _⟩
    · have d2 : (a2 != b2) = true := by simpa using h2
      have E : Hid (r = decide (a2 < b2)) := Lib.hid (by rw [hr.out]; unfold belB; rw [if_pos h1, if_neg h2])
      clear h1 h2
      go_enter Try.func47, Try.ntmps47
      go_wp2
      go_ret
      exact ⟨ret_bool E.out.symm, ((Below.refl _ _).alloc (Nat.le_refl _) _).alloc (by simp) _⟩
  · have d1 : (a1 != b1) = true := by simpa using h1
    have E : Hid (r = decide (a1 < b1)) := Lib.hid (by rw [hr.out]; unfold belB; rw [if_neg h1])
    clear h1
    go_enter Try.func47, Try.ntmps47
    go_wp2
    go_ret
    exact ⟨ret_bool E.out.symm, ((Below.refl _ _).alloc (Nat.le_refl _) _).alloc (by simp) _⟩

theorem belB_lt {a b : DotA} : belB a b = true ↔ cmpD a b < 0 := by
  unfold belB cmpD
  by_cases h1 : a.1 = b.1
  · by_cases h2 : a.2.1 = b.2.1
    · rw [if_pos h1, if_pos h2, if_pos (cmpA_eq.2 (Prod.ext h1 h2)), cmpI_lt]
      simp
    · rw [if_pos h1, if_neg h2, if_neg (fun e => h2 (by have h3 := cmpA_eq.1 e; exact congrArg (fun p : ActA => p.2) h3))]
      unfold cmpA actOf
      simp only
      rw [if_pos h1, cmpI_lt]
      simp
  · rw [if_neg h1, if_neg (fun e => h1 (by have h3 := cmpA_eq.1 e; exact congrArg (fun p : ActA => p.1) h3))]
    unfold cmpA actOf
    simp only
    rw [if_neg h1, cmpI_lt]
    simp

set_option maxRecDepth 100000 in
set_option maxHeartbeats 1600000 in
/-- An actor's mark, by the document. -/
theorem mark_ref (v : Value) (ms : List DotA) (a : ActA) (w : World) (h : RdD w v ms) (hl : ms.length ≤ 1099511627776) :
    Calls Try.prog 46 #[v, .int .i64 a.1, .int .i64 a.2] w fun e w' => e = .returned (.int .i64 (markOf ms a)) ∧ Below w.heap.size w w' := by
  obtain ⟨r, hr⟩ : ∃ r, Hid (r = markOf ms a) := ⟨_, Lib.hid rfl⟩
  rw [← hr.out]
  obtain ⟨A, c, rfl, hc, hx⟩ := h
  obtain ⟨n, hn⟩ : ∃ n, Hid (n = ms.length) := ⟨_, Lib.hid rfl⟩
  rw [← hn.out] at hl hc ⊢
  have HX := Lib.hid hx
  obtain ⟨a1, a2⟩ := a
  clear hx
  go_enter Try.func46, Try.ntmps46
  go_wp2
  go_loopw [11] (fun i wr => ∃ k : Nat, k ≤ n ∧ i = .int .i64 k ∧ Hid (∀ (j : Nat) (x : DotA), j < k → ms[j]? = some x → actOf x ≠ (a1, a2)) ∧ Below w.heap.size w wr) (fun i _ => n - (intOf i).toNat)
  case atStart => exact ⟨0, Nat.zero_le _, rfl, Lib.hid (fun j x hj => absurd hj (Nat.not_lt_zero _)), Below.refl _ _⟩
  case round =>
    obtain ⟨k, hk, rfl, HO, hb⟩ := hrel
    have HB := Lib.hid hb
    have hxr := HX.out.below hb (Nat.le_refl _)
    have hbs := hb.size
    by_cases hlt : k < n
    · obtain ⟨x, hd⟩ : ∃ x, ms[k]? = some x := ⟨ms[k]'(by have := hn.out; omega), List.getElem?_eq_getElem _⟩
      obtain ⟨ad, rfl, hadlt, hda⟩ := hxr k x hd
      obtain ⟨d0, d1, d2⟩ := hda
      have HD := Lib.hid hd
      obtain ⟨x1, x2, x3⟩ := x
      simp only at d0 d1 d2
      have HB2 : Hid (Below w.heap.size w (wr.alloc (.cells #[.int .i64 x1, .int .i64 x2, .int .i64 x3] 53))) := Lib.hid (hb.trans ((Below.refl _ _).alloc hbs _))
      clear hd hxr hb
      by_cases h1 : x1 = a1
      · have q1 : (x1 == a1) = true := by simpa using h1
        by_cases h2 : x2 = a2
        · have q2 : (x2 == a2) = true := by simpa using h2
          have E : Hid (r = x3) := Lib.hid (by rw [hr.out]; exact markOf_at HD.out (Prod.ext h1 h2) HO.out)
          clear h1 h2
          go_wp2
          go_ret
          exact ⟨ret_int E.out.symm, HB2.out⟩
        · have q2 : (x2 == a2) = false := by simpa using h2
          have HN : Hid (∀ (j : Nat) (y : DotA), j < k + 1 → ms[j]? = some y → actOf y ≠ (a1, a2)) := Lib.hid (fun j y hj hy => by
            by_cases hjk : j = k
            · subst hjk; rw [HD.out] at hy; injection hy with hy; rw [← hy]; exact fun e => h2 (congrArg (fun p : ActA => p.2) e)
            · exact HO.out j y (by omega) hy)
          clear h1 h2
          go_wp2
          go_roundw
          case rel => exact ⟨k + 1, by omega, by go_num, HN, HB2.out⟩
          case measure => simp [intOf]; omega
      · have q1 : (x1 == a1) = false := by simpa using h1
        have HN : Hid (∀ (j : Nat) (y : DotA), j < k + 1 → ms[j]? = some y → actOf y ≠ (a1, a2)) := Lib.hid (fun j y hj hy => by
          by_cases hjk : j = k
          · subst hjk; rw [HD.out] at hy; injection hy with hy; rw [← hy]; exact fun e => h1 (congrArg (fun p : ActA => p.1) e)
          · exact HO.out j y (by omega) hy)
        clear h1
        go_wp2
        go_roundw
        case rel => exact ⟨k + 1, by omega, by go_num, HN, HB2.out⟩
        case measure => simp [intOf]; omega
    · obtain rfl : k = n := by omega
      have E : Hid (r = 0) := Lib.hid (by rw [hr.out]; exact markOf_none fun j x hx => HO.out j x (by have := (List.getElem?_eq_some_iff.1 hx).1; have := hn.out; omega) hx)
      clear hxr
      go_wp2
      go_ret
      exact ⟨ret_int E.out.symm, HB.out⟩
end Go.Proofs.Ytnlohijpcnoamaa
