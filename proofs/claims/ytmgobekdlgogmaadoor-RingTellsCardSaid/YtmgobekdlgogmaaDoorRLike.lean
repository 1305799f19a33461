/- A ring of a map's members, in the order of their nodes. -/
import Derived.Test.YtmgobekdlgogmaaDoorRKeys
namespace Go.Proofs.YtmgobekdlgogmaaDoor
open Go.RowKit Go.Sort Go.BigFrame
open Go.Lib (byteCells byteCells_length)

theorem run_append_member (w : World) (ty : TypeId) {base : Nat} {v : Value} {ds : List MemA} (d : MemA) (hown : OwnM 40 w base v ds) (hl : ds.length ≤ 1099511627776) (hbase : base ≤ w.heap.size) :
    ∃ v' w', (Builtin.append_ #[22, 22] ty #[v, .slice (some ⟨w.heap.size, 0, none⟩) 1 1]).run Tryd.prog (w.alloc (.cells #[.int .i64 d.1, .int .i64 d.2.1, .int .i64 d.2.2.1, .int .i64 d.2.2.2] 40)) = .ok v' w' ∧ OwnM 40 w' base v' (ds ++ [d]) ∧ w.grownBy w' v.ownBlock ∧
      (v'.ownBlock = v.ownBlock ∨ ∃ g, v'.ownBlock = some g ∧ w.heap.size ≤ g) := by
  obtain ⟨i0, hi0, hz0, hz1, hz2⟩ := info_parts infoMember
  have hb : Below w.heap.size w (w.alloc (.cells #[.int .i64 d.1, .int .i64 d.2.1, .int .i64 d.2.2.1, .int .i64 d.2.2.2] 40)) := (Below.refl _ _).alloc (Nat.le_refl _) _
  obtain ⟨v', w', a1, a2, a3, _, a5⟩ := run_append_own_at (P := Tryd.prog) (w.alloc (.cells #[.int .i64 d.1, .int .i64 d.2.1, .int .i64 d.2.2.1, .int .i64 d.2.2.2] 40)) base 22 ty 40 i0 _ 4 32 Tryd.underlying22 hi0 hz0 hz1 hz2 rfl (by decide)
    v ds.length (mcells ds) (OwnM.below hown hb) ⟨w.heap.size, 0, none⟩ 1 1 [.int .i64 d.1, .int .i64 d.2.1, .int .i64 d.2.2.1, .int .i64 d.2.2.2] rfl (fun j u hu => by
      have e : (⟨w.heap.size, 0, none⟩ : Addr).add j = ⟨w.heap.size, j, none⟩ := by unfold Addr.add; split <;> simp_all
      rw [e, box_cellR]
      simpa using hu) (by simp [Value.oneCell']) (by unfold maxLen; omega) (by omega) (by simp; omega)
  refine ⟨v', w', a1, ?_, ⟨a3.os, a3.tape, a3.output, Nat.le_trans (by simp) a3.size, fun k hk hne => (a3.block k (by simp; omega) hne).trans (hb.block k hk)⟩, ?_⟩
  · unfold OwnM
    rw [mcells_snoc, List.length_append]
    exact a2
  · rcases a5 with h | h
    · exact .inl h
    · exact .inr ⟨_, h, by simp⟩
theorem wpList_append_member
    {ops : Array Oper} {rest : List Oper} {o : Oper} {a : Act} {Q : Exit → Act → World → Prop} (w : World) (hgd : o.guard = none) (s x : Operand)
    (ho : o.op = .call { callee := .builtin .append, args := #[s, x], argTypes := #[22, 22] })
    {base : Nat} {v : Value} {ds : List MemA} (d : MemA) (hs : a.eval s = v) (hx : a.eval x = .slice (some ⟨w.heap.size, 0, none⟩) 1 1) (hown : OwnM 40 w base v ds) (hl : ds.length ≤ 1099511627776) (hbase : base ≤ w.heap.size)
    (h : ∀ v' w', OwnM 40 w' base v' (ds ++ [d]) → w.grownBy w' v.ownBlock → (v'.ownBlock = v.ownBlock ∨ ∃ g, v'.ownBlock = some g ∧ w.heap.size ≤ g) → wpList Tryd.prog ops Q rest (a.put o.dst v') w') :
    wpList Tryd.prog ops Q (o :: rest) a (w.alloc (.cells #[.int .i64 d.1, .int .i64 d.2.1, .int .i64 d.2.2.1, .int .i64 d.2.2.2] 40)) := by
  refine wpList_plain hgd fun K hK => ?_
  obtain ⟨v', w', hrun, h2, h3, h4⟩ := run_append_member w o.type d hown hl hbase
  unfold Oper.wp execOp
  simp only [ho, resolve, invoke, builtin, Sem.run_bind, Sem.run_pure, Result.andThen_ok, List.map_toArray, List.map_cons, List.map_nil, hs, hx, hrun]
  exact hK _ _ (h v' w' h2 h3 h4)

theorem grownR_trans {a b c : World} {g : Nat} {row : Option Nat} (h : a.grownBy b (some g)) (k : b.grownBy c row) (hr : ∀ j, row = some j → a.heap.size ≤ j ∨ j = g) : a.grownBy c (some g) :=
  ⟨h.os ▸ k.os, h.tape ▸ k.tape, h.output ▸ k.output, Nat.le_trans h.size k.size, fun j hj hne => (k.block j (Nat.lt_of_lt_of_le hj h.size) (fun e => by rcases hr j e.symm with h1 | h1; omega; exact hne (by rw [h1]))).trans (h.block j hj hne)⟩

/-- The map has these members, and no others. -/
structure RingMap (D : DataW Value) (ms : List MemA) : Prop where
  keys : ∀ ss : List Int, ss.Perm (intKeys D) → ss.mergeSort (fun x y => decide (x ≤ y)) = ms.map (·.1)
  size : Maps.size D ≤ 8
  at_ : ∀ (j : Nat) (m : MemA), ms[j]? = some m → D.atKey (.int .i64 m.1) (.held (memV (0, 0, 0, 0))) = .held (memV m)
  node : ∀ (j : Nat) (m : MemA), ms[j]? = some m → 0 ≤ m.1 ∧ m.1 < 8
  few : ms.length ≤ 8

set_option maxRecDepth 100000 in
set_option maxHeartbeats 6400000 in
theorem ringLike_any (p c s : Int) (A0 : Option Addr) (n0 cap0 : Nat) (ms : List MemA) (b nn : Nat) (D : DataW Value) (w : World) (hD : RingMap D ms) (hown : w.ownsMap Tryd.prog 3 selfR b nn D) :
    Calls Tryd.prog 45 #[.map (some b), .agg #[.int .i64 p, .int .i64 c, .int .i64 s, .slice A0 n0 cap0]] w (GivesR p c s ms w) := by
  obtain ⟨W, hW⟩ : ∃ W, Hid (W = ((w.alloc (.cells #[.int .i64 p, .int .i64 c, .int .i64 s, .slice A0 n0 cap0] 24)).alloc (.cells #[.int .i64 0, .int .i64 0, .int .i64 0, .slice none 0 0] 24)).alloc (.cells #[.int .i64 p, .int .i64 c, .int .i64 s, .slice none 0 0] 24)) := ⟨_, Lib.hid rfl⟩
  have HB : Hid (Below w.heap.size w W) := Lib.hid (by rw [hW.out]; exact below_allocR (below_allocR (below_allocR (Below.refl _ _))))
  have HZ : Hid (W.heap.size = w.heap.size + 3) := Lib.hid (by rw [hW.out]; simp)
  have HR1 : Hid (W.heap[w.heap.size + 1]? = some (.cells #[.int .i64 0, .int .i64 0, .int .i64 0, .slice none 0 0] 24 (0, 0))) := Lib.hid (by
    rw [hW.out]
    refine (Below.heap_alloc _ _ _ (by simp)).trans ?_
    have := heap_alloc_new (w.alloc (.cells #[.int .i64 p, .int .i64 c, .int .i64 s, .slice A0 n0 cap0] 24)) (.cells #[.int .i64 0, .int .i64 0, .int .i64 0, .slice none 0 0] 24)
    rwa [show (w.alloc (.cells #[.int .i64 p, .int .i64 c, .int .i64 s, .slice A0 n0 cap0] 24)).heap.size = w.heap.size + 1 by simp] at this)
  have HR2 : Hid (W.heap[w.heap.size + 2]? = some (.cells #[.int .i64 p, .int .i64 c, .int .i64 s, .slice none 0 0] 24 (0, 0))) := Lib.hid (by
    have := heap_alloc_new ((w.alloc (.cells #[.int .i64 p, .int .i64 c, .int .i64 s, .slice A0 n0 cap0] 24)).alloc (.cells #[.int .i64 0, .int .i64 0, .int .i64 0, .slice none 0 0] 24)) (.cells #[.int .i64 p, .int .i64 c, .int .i64 s, .slice none 0 0] 24)
    rw [← hW.out, show ((w.alloc (.cells #[.int .i64 p, .int .i64 c, .int .i64 s, .slice A0 n0 cap0] 24)).alloc (.cells #[.int .i64 0, .int .i64 0, .int .i64 0, .slice none 0 0] 24)).heap.size = w.heap.size + 2 by simp] at this
    exact this)
  have HBL : Hid (b < w.heap.size) := Lib.hid hown.lt
  have HM : Hid (W.ownsMap Tryd.prog 3 selfR b nn D) := Lib.hid (ownsV_same hown (HB.out.block b HBL.out))
  have HK := Lib.hid (keys_any (some b) W)
  have HS := Lib.hid (sortedKeys_any b nn D selfR W HM.out (by have := hD.size; unfold maxLen; omega) (by have := hD.size; omega))
  have HD := Lib.hid hD
  clear hown hD
  go_enter Tryd.func45, Tryd.ntmps45
  go_upto_region 2 with fail
  rw [← hW.out]
  go_wp2_with fail
  (with_reducible refine HK.out.mono ?_); rintro e w1 ⟨rfl, rfl⟩
  go_wp2_with fail
  (with_reducible refine HS.out.mono ?_); rintro e w2 ⟨v2, ss, rfl, hp, hrow, _, hb2⟩
  obtain ⟨X, hX⟩ : ∃ X, Hid (X = W.alloc (.cells #[.map (some b)] 51)) := ⟨_, Lib.hid rfl⟩
  have HXZ : Hid (X.heap.size = w.heap.size + 4) := Lib.hid (by rw [hX.out]; have := HZ.out; simp; omega)
  rw [← hX.out] at hrow hb2
  have HBX : Hid (Below W.heap.size W X) := Lib.hid (by rw [hX.out]; exact (Below.refl _ _).alloc (Nat.le_refl _) _)
  have HB2 : Hid (Below X.heap.size X w2) := Lib.hid hb2
  have HWX2 : Hid (Below W.heap.size W w2) := Lib.hid (HBX.out.trans (hb2.mono HBX.out.size))
  have HB02 : Hid (Below w.heap.size w w2) := Lib.hid (HB.out.trans (HWX2.out.mono HB.out.size))
  have hz2 : w.heap.size + 4 ≤ w2.heap.size := by have := hb2.size; have := HXZ.out; omega
  have hlen : ss.length = ms.length := by
    have := congrArg List.length (HD.out.keys ss hp)
    rwa [List.length_mergeSort, List.length_map] at this
  rw [HD.out.keys ss hp, hlen] at hrow
  have HKR : Hid (w2.ownsRow X.heap.size 3 1 v2 ms.length ((ms.map (·.1)).map encZ)) := Lib.hid hrow
  obtain ⟨n, hn⟩ : ∃ n, Hid (n = ms.length) := ⟨_, Lib.hid rfl⟩
  obtain ⟨A2, c2, rfl⟩ : ∃ A2 c2, v2 = .slice A2 n c2 := by
    rcases hrow.2 with ⟨rfl, h0⟩ | ⟨g, cap, cur, rfl, _⟩
    · exact ⟨none, 0, by rw [hn.out, h0]⟩
    · exact ⟨_, cap, by rw [hn.out]⟩
  have HKC : Hid (∀ (j : Nat) (m : MemA), ms[j]? = some m → ∃ ad : Addr, A2 = some ad ∧ n ≤ c2 ∧ X.heap.size ≤ ad.block ∧ ad.block < w2.heap.size ∧ w2.cell? (ad.add j) = some (.int .i64 m.1)) := Lib.hid (fun j m hm => by
    rcases HKR.out.2 with ⟨e, h0⟩ | ⟨g, cap, cur, e, hb, hg, hc, _⟩
    · have := (List.getElem?_eq_some_iff.1 hm).1
      omega
    · injection e with e1 e2 e3
      subst e1 e3
      refine ⟨_, rfl, by rw [hn.out]; exact hc, hb, (World.ownsRow.lt HKR.out g rfl).2, ?_⟩
      have := World.ownsRow.cells HKR.out (g := g) rfl j (.int .i64 m.1) (by rw [List.getElem?_map, List.getElem?_map, hm]; rfl)
      exact this)
  have hr1 := (HWX2.out.block (w.heap.size + 1) (by have := HZ.out; omega)).trans HR1.out
  have hr2 := (HWX2.out.block (w.heap.size + 2) (by have := HZ.out; omega)).trans HR2.out
  have HR12 := Lib.hid hr1
  have HR22 := Lib.hid hr2
  have HM2 : Hid (w2.ownsMap Tryd.prog 3 selfR b nn D) := Lib.hid (ownsV_same HM.out (HWX2.out.block b (by have := HBL.out; have := HZ.out; omega)))
  have hn8 : n ≤ 8 := by rw [hn.out]; exact HD.out.few
  clear hrow hb2 hp hlen hr1 hr2
  go_wp2
  go_loopw [19] (fun i wr => ∃ (k : Nat) (A5 : Option Addr) (n5 c5 : Nat), k ≤ n ∧ i = .int .i64 k ∧ Hid (wr.heap[w.heap.size + 2]? = some (.cells #[.int .i64 p, .int .i64 c, .int .i64 s, .slice A5 n5 c5] 24 (0, 0))) ∧ Hid (OwnM 40 wr w2.heap.size (.slice A5 n5 c5) (ms.take k)) ∧ Hid (w2.grownBy wr (some (w.heap.size + 2)))) (fun i _ => n - (intOf i).toNat)
  case atStart => exact ⟨0, none, 0, 0, Nat.zero_le _, rfl, HR22, Lib.hid (by simpa using ownM_nil _ _ _), Lib.hid (World.grownBy.refl _ _)⟩
  case round =>
    obtain ⟨k, A5, n5, c5, hk, rfl, HRW, HO, HG⟩ := hrel
    have hgs := HG.out.size
    have q0 := cell_of_row wr _ 0 _ _ (0, 0) HRW.out
    have q1 := cell_of_row wr _ 1 _ _ (0, 0) HRW.out
    have q2 := cell_of_row wr _ 2 _ _ (0, 0) HRW.out
    have q3 := cell_of_row wr _ 3 _ _ (0, 0) HRW.out
    by_cases hlt : k < n
    · obtain ⟨d, hd⟩ : ∃ d, ms[k]? = some d := ⟨ms[k]'(by have := hn.out; omega), List.getElem?_eq_getElem _⟩
      obtain ⟨ad, rfl, hnc, hlo, hhi, hcell⟩ := HKC.out k d hd
      have kc : wr.cell? (ad.add k) = some (.int .i64 d.1) := by
        rw [World.cell?_of_block (w := w2) (HG.out.block (ad.add k).block (by rw [add_block]; exact hhi) (by rw [add_block]; have := HXZ.out; intro e; injection e with e; omega))]
        exact hcell
      have HMR : Hid (wr.ownsMap Tryd.prog 3 selfR b nn D) := Lib.hid (ownsV_same HM2.out (HG.out.block b (by have := HBL.out; omega) (by have := HBL.out; intro e; injection e with e; omega)))
      have HD1 := Lib.hid hd
      have HND := Lib.hid (HD.out.node k d hd)
      have HAT := Lib.hid (HD.out.at_ k d hd)
      have hkey : keyOf Tryd.prog 3 (.int .i64 d.1) = some (.int .i64 d.1) := Maps.keyOf_int_mk Tryd.underlying3 (litWf (by have := HND.out; omega) (by have := HND.out; omega))
      have hol : (ms.take k).length ≤ 1099511627776 := by have := List.length_take_le k ms; omega
      clear hd hcell
      go_wp2_with (first | (at_lookup; refine wpList_lookup_own _ rfl _ _ 51 rfl 3 40 lawInt Tryd.underlying51 selfR (zeroMember _) (.held (memV (0, 0, 0, 0))) [] rfl b nn D rfl HMR.out _ _ rfl hkey ?_; intro v ps hv; rw [HAT.out] at hv; have hv2 := selfR_inv hv; unfold memV at hv2; subst hv2; clear hv) | (at_builtin; go_must (refine wpList_append_member (v := .slice A5 n5 c5) _ rfl (.tmp 24) (.tmp 28) rfl d (by rfl) (by rfl) HO.out hol hgs ?_)))
      intro v6 w6 ho6 hg6 ht6
      obtain ⟨A6, c6, hv6⟩ := ownM_slice ho6
      obtain ⟨N6, hN6⟩ : ∃ N6, Hid (N6 = (ms.take k ++ [d]).length) := ⟨_, Lib.hid rfl⟩
      rw [← hN6.out] at hv6
      subst hv6
      have hne : some (w.heap.size + 2) ≠ (Value.slice A5 n5 c5).ownBlock := fun e => by
        have := (World.ownsRow.lt HO.out _ e.symm).1
        omega
      have hr6 := (hg6.block (w.heap.size + 2) (by omega) hne).trans HRW.out
      have f3 := frozen_of_row w6 _ 3 _ _ hr6
      have s3 := cell_of_row w6 _ 3 _ _ (0, 0) hr6
      have HR6 : Hid ((w6.setCell ⟨w.heap.size + 2, 3, none⟩ (.slice A6 N6 c6)).heap[w.heap.size + 2]? = some (.cells #[.int .i64 p, .int .i64 c, .int .i64 s, .slice A6 N6 c6] 24 (0, 0))) := Lib.hid (Joins.block_setCell hr6 (i := 3) _)
      have HTK : Hid (ms.take (k + 1) = ms.take k ++ [d]) := Lib.hid (by rw [List.take_add_one, HD1.out]; rfl)
      have HO6 : Hid (OwnM 40 (w6.setCell ⟨w.heap.size + 2, 3, none⟩ (.slice A6 N6 c6)) w2.heap.size (.slice A6 N6 c6) (ms.take (k + 1))) := Lib.hid (by rw [HTK.out]; exact ownM_setOther ho6 (by omega) _)
      have HG6 : Hid (w2.grownBy (w6.setCell ⟨w.heap.size + 2, 3, none⟩ (.slice A6 N6 c6)) (some (w.heap.size + 2))) := Lib.hid (by
        have g1 := grownR_trans HG.out hg6 (fun j e => .inl (World.ownsRow.lt HO.out j e).1)
        have g2 : w6.grownBy (w6.setCell ⟨w.heap.size + 2, 3, none⟩ (.slice A6 N6 c6)) (some (w.heap.size + 2)) := ⟨rfl, rfl, rfl, by simp [World.setCell], fun j _ hj => Below.heap_setCell w6 _ _ j (fun e => hj (by rw [e]))⟩
        exact grownR_trans g1 g2 (fun j e => by injection e with e; exact .inr e.symm))
      clear ho6 hg6 ht6 hr6 hne q0 q1 q2 q3 kc
      go_wp2
      go_roundw
      case rel => exact ⟨k + 1, A6, N6, c6, by omega, by go_num, HR6, HO6, HG6⟩
      case measure => simp [intOf]; omega
    · have hkn : k = n := by omega
      have HO1 : Hid (OwnM 40 wr w2.heap.size (.slice A5 n5 c5) ms) := Lib.hid (by have := HO.out; rw [hkn, hn.out, List.take_length] at this; exact this)
      have hr1 := (HG.out.block (w.heap.size + 1) (by omega) (fun e => by injection e with e; omega)).trans HR12.out
      have R1 := Lib.hid hr1
      have f0 := frozen_of_row wr _ 0 _ _ hr1
      have f1 := frozen_of_row wr _ 1 _ _ hr1
      have f2 := frozen_of_row wr _ 2 _ _ hr1
      have f3 := frozen_of_row wr _ 3 _ _ hr1
      have m0 := cell_of_row wr _ 0 _ _ (0, 0) hr1
      have m1 := cell_of_row wr _ 1 _ _ (0, 0) hr1
      have m2 := cell_of_row wr _ 2 _ _ (0, 0) hr1
      have m3 := cell_of_row wr _ 3 _ _ (0, 0) hr1
      have HBE : Hid (Below w.heap.size w wr) := Lib.hid (HB02.out.grown HG.out (by omega) (fun j e => by injection e with e; omega))
      clear hr1 hkn
      go_wp2
      have hr := set4 R1.out (.int .i64 p) (.int .i64 c) (.int .i64 s) (.slice A5 n5 c5)
      have p0 := cell_of_row _ _ 0 _ _ (0, 0) hr
      have p1 := cell_of_row _ _ 1 _ _ (0, 0) hr
      have p2 := cell_of_row _ _ 2 _ _ (0, 0) hr
      have p3 := cell_of_row _ _ 3 _ _ (0, 0) hr
      have hn5 : n5 = ms.length := by
        obtain ⟨A', c', e⟩ := ownM_slice HO1.out
        injection e
      refine bodyPost_ret (v := .agg #[.int .i64 p, .int .i64 c, .int .i64 s, .slice A5 n5 c5]) (by simp [results, Tryd.results45, go_sem, p0, p1, p2, p3]) rfl ⟨A5, n5, c5, rfl, ?_, hn5, ?_⟩
      · exact (ownM_set4 HO1.out (by omega) _ _ _ _).base_le (by omega)
      · exact below_set4 HBE.out (by omega) _ _ _ _
end Go.Proofs.YtmgobekdlgogmaaDoor
