/- Share: the program's; and TillTotals. -/
import Derived.Test.YtaihkehbpppngaaTShare
namespace Go.Proofs.Ytaihkehbpppngaa
open Go.RowKit

theorem step_append_W {ST T : TypeId} (ht : Try.prog.underlying ST = some (.slice T)) {z : Value} (hT : (Try.prog.info? T).map (fun i => (i.zero, i.size, i.bytes)) = some (some z, 1, 8)) (hzs : z.cells.size = 1) (f : Nat → Value) (hf : ∀ x, (f x).oneCell' = true)
    {ops : Array Oper} {o : Oper} {a : Act} {K : Act → World → Prop} {Q : Exit → Act → World → Prop} {E : Prop} (w : World) (hgd : o.guard = none) (s x : Operand)
    (ho : o.op = .call { callee := .builtin .append, args := #[s, x], argTypes := #[ST, ST] })
    {base hi : Nat} {v : Value} {xs ys : List Nat} {ad : Addr} {m c : Nat} (hs : a.eval s = v) (hx : a.eval x = .slice (some ad) m c) (hm : m = ys.length) (hown : OwnW T f w base v xs) (hr : RdWA f w hi (some ad) ys)
    (h63 : xs.length + ys.length ≤ 4398046511104) (hbase : base ≤ w.heap.size) {m' : Nat} (hm' : Hid (m' = (xs ++ ys).length))
    (h : ∀ A1 c1 w', OwnW T f w' base (.slice A1 m' c1) (xs ++ ys) → w.grownBy w' v.ownBlock → K (a.put o.dst (.slice A1 m' c1)) w') :
    if Region.wanted o (yielded ops a.tmps) = true then Oper.wp Try.prog o a w K Q else E := by
  have hw : Region.wanted o (yielded ops a.tmps) = true := by simp [Region.wanted, hgd]
  rw [if_pos hw]
  subst hm
  obtain ⟨i, hi, hz0, hz1, hz2⟩ := info_parts hT
  have hn : ∀ j u, (ys.map f)[j]? = some u → w.cell? (ad.add j) = some u := by
    intro j u hj
    rw [List.getElem?_map] at hj
    obtain ⟨y, hy, rfl⟩ := Option.map_eq_some_iff.1 hj
    obtain ⟨ad', e, _, hc⟩ := hr j y hy
    injection e with e
    subst e
    exact hc
  obtain ⟨v', w', hrun, h2, h3, _, h5⟩ := run_append_own_at (P := Try.prog) w base ST o.type T i z 1 8 ht hi hz0 hz1 hz2 hzs (by decide) v xs.length (xs.map f) hown ad ys.length c (ys.map f) (by simp) hn (by intro u hu; obtain ⟨y, _, rfl⟩ := List.mem_map.1 hu; exact hf y) (by simp only [maxLen]; omega) (by omega) hbase
  unfold Oper.wp execOp
  simp only [ho, resolve, invoke, builtin, Sem.run_bind, Sem.run_pure, Result.andThen_ok, List.map_toArray, List.map_cons, List.map_nil, hs, hx, hrun]
  have h2' : OwnW T f w' base v' (xs ++ ys) := by unfold OwnW; rw [List.length_append, List.map_append]; exact h2
  obtain ⟨A1, c1, rfl⟩ := h2'.slice
  rw [← hm'.out] at h2' ⊢
  exact h A1 c1 w' h2' h3

set_option maxRecDepth 100000 in
set_option maxHeartbeats 6400000 in
theorem share_any (v : Value) (ls : List LineA) (amount : Nat) (w : World) (h : RdL w v ls) (hl : ls.length ≤ 1099511627776) :
    Calls Try.prog 17 #[v, .int .u64 amount] w fun e w' => ∃ A c, e = .returned (.slice A ls.length c) ∧ RdW uV w' (.slice A ls.length c) (shareV ls (totV ls) amount) ∧ Below w.heap.size w w' := by
  have H1 := Lib.hid (total_any v ls w h hl)
  have HFl := fun w' => Lib.hid (floatOf_any amount w')
  have H3 := fun a w' => Lib.hid (bitsOf_any a w')
  have HW := fun s q p w' => Lib.hid (worth_any s q p w')
  obtain ⟨A, c, rfl, hc, hx⟩ := h
  obtain ⟨n, hn⟩ : ∃ n, Hid (n = ls.length) := ⟨_, Lib.hid rfl⟩
  rw [← hn.out] at hl hc H1 ⊢
  have HX := Lib.hid hx
  clear hx
  go_enter Try.func17, Try.ntmps17
  go_wp2_with ((go_at_call 33); (with_reducible refine H1.out.mono ?_); rintro e w1 ⟨t, rfl, ht, hb1⟩)
  have HT := Lib.hid ht
  have HB1 := Lib.hid hb1
  clear ht hb1
  go_loopw [13, 6] (fun i x wr => ∃ (k : Nat) (vx : Value), k ≤ n ∧ vx = x ∧ i = .int .i64 k ∧ Hid (OwnW 22 uV wr w.heap.size vx (shareV (ls.take k) (totV ls) amount)) ∧ Hid (Below w.heap.size w wr)) (fun i _ _ => n - (intOf i).toNat)
  case atStart => exact ⟨0, _, Nat.zero_le _, rfl, rfl, Lib.hid (ownW_nil _ _ _ _), HB1⟩
  case round =>
    obtain ⟨k, vx, hk, rfl, rfl, HO, HB⟩ := hrel
    by_cases hlt : k < n
    · obtain ⟨d, hd⟩ : ∃ d, ls[k]? = some d := ⟨ls[k]'(by have := hn.out; omega), List.getElem?_eq_getElem _⟩
      obtain ⟨ad, rfl, hadlt, d0, d1, d2⟩ := HX.out.below HB.out (Nat.le_refl _) k d hd
      have HS := Lib.hid (shareV_take (t := totV ls) (amount := amount) hd)
      obtain ⟨V, hV⟩ : ∃ V, Hid (V = wr.alloc (.cells #[.string d.1, .int .i64 d.2.1, .int .u64 d.2.2] 28)) := ⟨_, Lib.hid rfl⟩
      have v0 : V.cell? ⟨wr.heap.size, 0, none⟩ = some (.string d.1) := by rw [hV.out]; exact box_cell _ _ _ 0
      have v1 : V.cell? ⟨wr.heap.size, 1, none⟩ = some (.int .i64 d.2.1) := by rw [hV.out]; exact box_cell _ _ _ 1
      have v2 : V.cell? ⟨wr.heap.size, 2, none⟩ = some (.int .u64 d.2.2) := by rw [hV.out]; exact box_cell _ _ _ 2
      have hbV : Below wr.heap.size wr V := by rw [hV.out]; exact (Below.refl _ _).alloc (Nat.le_refl _) _
      have HBV : Hid (Below wr.heap.size wr V) := Lib.hid hbV
      have h63 : ∀ q : Nat, (shareV (ls.take k) (totV ls) amount).length + [q].length ≤ 4398046511104 := by
        intro q
        rw [shareV_len]
        have h2 : (ls.take k).length ≤ k := by rw [List.length_take]; exact Nat.min_le_left _ _
        simp only [List.length_cons, List.length_nil]; omega
      have H63 := Lib.hid h63
      have hQ1 := fun (W' : World) (x y : Nat) => run_fr (P := Try.prog) W' .quo (.inr (.inr (.inr rfl))) 42 x y
      have hQ2 := fun (W' : World) (x y : Nat) => run_fr (P := Try.prog) W' .mul (.inr (.inr (.inl rfl))) 42 x y
      have hQ3 := fun (W' : World) (op : BinOp) (x y : Nat) => fw_size W' op x y
      obtain ⟨m5, hm5⟩ : ∃ m5, Hid (m5 = (shareV (ls.take k) (totV ls) amount).length + 1) := ⟨_, Lib.hid rfl⟩
      clear hd hbV h63
      go_upto_region 6 with fail
      rw [← hV.out]
      clear d0 d1 d2
      go_region_law (first
        | (go_simp; go_at_call 27
           (with_reducible refine (HFl _).out.mono ?_); rintro e w2 ⟨rfl, rfl⟩)
        | (go_simp; go_at_call 37
           (with_reducible refine (HW _ _ _ _).out.mono ?_); rintro e w2 ⟨r0, rfl, hr0, hb2⟩
           have HR0 := Lib.hid hr0
           have HB2 : Hid (Below wr.heap.size wr w2) := Lib.hid (by first | exact HBV.out.trans (hb2.mono HBV.out.size) | exact HBV.out.drew.trans (hb2.mono HBV.out.size) | exact HBV.out.drew.drew.trans (hb2.mono HBV.out.size))
           clear hr0 hb2)
        | (go_simp; go_at_call 31
           (with_reducible refine (H3 _ _).out.mono ?_); rintro e w3 ⟨rfl, hw3⟩
           obtain ⟨q, hq⟩ : ∃ q, Hid (q = cn (fr (fw w2 .quo r0 t) .mul amount (fr w2 .quo r0 t))) := ⟨_, Lib.hid rfl⟩
           rw [← hq.out]
           have HN : Hid (q = fop .mul amount (fop .quo (fop .mul (floatOfInt .f64 d.2.1) d.2.2) (totV ls))) := Lib.hid (by
             rw [hq.out, fr_cn, ← fop_cnr .mul amount (fr w2 .quo r0 t), fr_cn, ← fop_cn .quo r0 t, HR0.out, HT.out])
           have hB3 : Below wr.heap.size wr w3 := by rw [← hw3]; exact below_fw (below_fw HB2.out _ _ _) _ _ _
           clear hw3 hq
           have hbA : Below w3.heap.size w3 (w3.alloc (.cells #[.int .u64 (q : Int)] 22)) := (Below.refl _ _).alloc (Nat.le_refl _) _
           have hBA : Below wr.heap.size wr (w3.alloc (.cells #[.int .u64 (q : Int)] 22)) := hB3.trans (hbA.mono hB3.size)
           have HR1 : Hid (RdWA uV (w3.alloc (.cells #[.int .u64 (q : Int)] 22)) (w3.heap.size + 1) (some ⟨w3.heap.size, 0, none⟩) [q]) := Lib.hid (fun j x hj => by
             match j, hj with
             | 0, hj =>
               have e : q = x := by simpa using hj
               subst e
               exact ⟨_, rfl, Nat.lt_succ_self _, box_cell _ _ _ 0⟩
             | j + 1, hj => simp at hj)
           have HOA := Lib.hid (HO.out.below hBA)
           have HBA : Hid (Below w.heap.size w (w3.alloc (.cells #[.int .u64 (q : Int)] 22))) := Lib.hid (HB.out.trans (hBA.mono HB.out.size))
           have HMQ : Hid (m5 = (shareV (ls.take k) (totV ls) amount ++ [q]).length) := Lib.hid (by rw [hm5.out, List.length_append]; rfl)
           clear hB3 hbA hBA)
        | (refine step_append_W Try.underlying32 infoU rfl uV (fun _ => rfl) _ (by rfl) (.tmp 17) (.tmp 26) (by rfl) (by rfl) (by rfl) rfl HOA.out HR1.out (H63.out q) HBA.out.size HMQ ?_
           intro A1 c1 w5 ho5 hg5
           have HO5 : Hid (OwnW 22 uV w5 w.heap.size (.slice A1 m5 c1) (shareV (ls.take (k + 1)) (totV ls) amount)) := Lib.hid (by rw [HS.out, ← HN.out]; exact ho5)
           have HB5 : Hid (Below w.heap.size w w5) := Lib.hid (by first | exact HBA.out.grown hg5 HBA.out.size (fun g e => (World.ownsRow.lt HOA.out g e).1) | exact HBA.out.drew.grown hg5 HBA.out.size (fun g e => (World.ownsRow.lt HOA.out g e).1))
           clear ho5 hg5)
        | fail)
      all_goals
        go_wp2
        go_roundw
        case rel => exact ⟨k + 1, _, by omega, rfl, by go_num, HO5, HB5⟩
        case measure => simp [intOf]; omega
    · obtain rfl : k = n := by omega
      have hF : OwnW 22 uV wr w.heap.size vx (shareV ls (totV ls) amount) := by have := HO.out; rw [hn.out, List.take_length] at this; exact this
      obtain ⟨A2, c2, hv⟩ := hF.slice
      rw [shareV_len, ← hn.out] at hv
      subst hv
      have HF := Lib.hid hF.rd
      clear hF HO hn
      go_wp2
      go_ret
      exact ⟨A2, c2, rfl, HF.out, HB.out⟩
end Go.Proofs.Ytaihkehbpppngaa
