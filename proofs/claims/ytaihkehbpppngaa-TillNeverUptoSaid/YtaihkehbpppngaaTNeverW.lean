/- TillNever. -/
import Derived.Test.YtaihkehbpppngaaTNever
namespace Go.Proofs.Ytaihkehbpppngaa
open Go.RowKit

set_option maxRecDepth 100000 in
set_option maxHeartbeats 3200000 in
theorem never_walk (v : Value) (ls : List LineA) (w : World) (h : RdL w v ls) (hl : ls.length ≤ 1099511627776) :
    Calls Try.prog 7 #[v] w fun e w' => e = .returned (.bool true) ∧ Below w.heap.size w w' := by
  obtain ⟨A, c, rfl, hc, hx⟩ := h
  have HL := Lib.hid hl
  obtain ⟨n, hn⟩ : ∃ n, Hid (n = ls.length) := ⟨_, Lib.hid rfl⟩
  rw [← hn.out] at hl hc ⊢
  have HX := Lib.hid hx
  have hone : ∀ (a : Value) (b : Int) (d : Int), ([.string .empty, .int .i64 b, .int .u64 d] : List Value).length = 1 * 3 := fun _ _ _ => rfl
  clear hx hone
  go_enter Try.func7, Try.ntmps7
  go_wp2
  go_loopw [9, 3] (fun i x wr => ∃ (k : Nat) (vm : Value), k ≤ n ∧ vm = x ∧ i = .int .i64 k ∧ Hid (OwnL wr w.heap.size vm (sel (ls.take k))) ∧ Below w.heap.size w wr) (fun i _ _ => n - (intOf i).toNat)
  case atStart => exact ⟨0, _, Nat.zero_le _, rfl, rfl, Lib.hid (World.ownsRow_nil _ _ _ 3), Below.refl _ _⟩
  case round =>
    obtain ⟨k, vm, hk, rfl, rfl, HO, hb⟩ := hrel
    by_cases hlt : k < n
    · obtain ⟨d, hd⟩ : ∃ d, ls[k]? = some d := ⟨ls[k]'(by have := hn.out; omega), List.getElem?_eq_getElem _⟩
      obtain ⟨ad, rfl, hadlt, d0, d1, d2⟩ := HX.out.below hb (Nat.le_refl _) k d hd
      have HD := Lib.hid hd
      obtain ⟨V, hV⟩ : ∃ V, Hid (V = wr.alloc (.cells #[.string d.1, .int .i64 d.2.1, .int .u64 d.2.2] 28)) := ⟨_, Lib.hid rfl⟩
      have v0 : V.cell? ⟨wr.heap.size, 0, none⟩ = some (.string d.1) := by rw [hV.out]; exact box_cell _ _ _ 0
      have v1 : V.cell? ⟨wr.heap.size, 1, none⟩ = some (.int .i64 d.2.1) := by rw [hV.out]; exact box_cell _ _ _ 1
      have v2 : V.cell? ⟨wr.heap.size, 2, none⟩ = some (.int .u64 d.2.2) := by rw [hV.out]; exact box_cell _ _ _ 2
      have hbV : Below wr.heap.size wr V := by rw [hV.out]; exact (Below.refl _ _).alloc (Nat.le_refl _) _
      have HBV : Hid (Below w.heap.size w V) := Lib.hid (hb.trans (hbV.mono hb.size))
      have HOV : Hid (OwnL V w.heap.size vm (sel (ls.take k))) := Lib.hid (HO.out.below hbV)
      have HC := Lib.hid (refCan_any d.2.2 V)
      have HS := Lib.hid (sel_take HD.out)
      have HSL : Hid ((sel (ls.take k)).length + 1 ≤ 1099511627776) := Lib.hid (by
        have h1 := sel_len (ls.take k)
        have h2 : (ls.take k).length ≤ k := by rw [List.length_take]; exact Nat.min_le_left _ _
        omega)
      clear hd hb hbV
      go_upto_region 5 with fail
      rw [← hV.out]
      clear d0 d1 d2
      by_cases hq : 0 ≤ d.2.1
      · have e1 : decide (d.2.1 ≥ 0) = true := decide_eq_true hq
        cases hcr : canR d.2.2 with
        | true =>
          rw [hcr] at HC
          have HT : Hid (sel (ls.take (k + 1)) = sel (ls.take k) ++ [d]) := Lib.hid (by rw [HS.out, if_pos (by rw [decide_eq_true hq, hcr]; rfl)])
          have hn0 : ∀ j u, ([.string d.1, .int .i64 d.2.1, .int .u64 (d.2.2 : Int)] : List Value)[j]? = some u → (V.alloc (.cells #[.string d.1, .int .i64 d.2.1, .int .u64 (d.2.2 : Int)] 28)).cell? ((⟨V.heap.size, 0, none⟩ : Addr).add j) = some u := by
            intro j u hj
            rw [show (⟨V.heap.size, 0, none⟩ : Addr).add j = ⟨V.heap.size, j, none⟩ by unfold Addr.add; split <;> simp_all, box_cell]
            simpa using hj
          have hone : ([.string d.1, .int .i64 d.2.1, .int .u64 (d.2.2 : Int)] : List Value).length = 1 * 3 ∧ ∀ u ∈ ([.string d.1, .int .i64 d.2.1, .int .u64 (d.2.2 : Int)] : List Value), u.oneCell' = true := ⟨rfl, by intro u hu; simp at hu; rcases hu with rfl | rfl | rfl <;> rfl⟩
          have hbA : Below V.heap.size V (V.alloc (.cells #[.string d.1, .int .i64 d.2.1, .int .u64 (d.2.2 : Int)] 28)) := (Below.refl _ _).alloc (Nat.le_refl _) _
          have HBA := Lib.hid hbA
          have HOA : Hid (OwnL (V.alloc (.cells #[.string d.1, .int .i64 d.2.1, .int .u64 (d.2.2 : Int)] 28)) w.heap.size vm (sel (ls.take k))) := Lib.hid (HOV.out.below hbA)
          have h63 : (sel (ls.take k)).length + 1 ≤ 4398046511104 ∧ 0 < (sel (ls.take k)).length + 1 ∧ ((sel (ls.take k)).length + 1) * 32 ≤ 140737488355328 := by have := HSL.out; omega
          have hzz : w.heap.size ≤ (V.alloc (.cells #[.string d.1, .int .i64 d.2.1, .int .u64 (d.2.2 : Int)] 28)).heap.size := Nat.le_trans HBV.out.size hbA.size
          clear hbA hq hcr
          go_wp2_with (first
            | (go_at_call 25
               (with_reducible refine HC.out.mono ?_); rintro e w1 ⟨rfl, rfl⟩)
            | (at_builtin; go_must (refine wpList_append_gen Try.underlying25 infoLine ⟨rfl, by decide⟩ _ rfl (.tmp 21) (.tmp 23) rfl (by rfl) (by rfl) HOA.out _ hone h63 hn0 hzz ?_)))
          intro g1 c1 w5 ho5 hg5 hd5
          have HO5 : Hid (OwnL w5 w.heap.size (.slice (some ⟨g1, 0, none⟩) ((sel (ls.take k)).length + 1) c1) (sel (ls.take (k + 1)))) := Lib.hid (by
            rw [HT.out]; unfold OwnL; rw [lcells_snoc, List.length_append]; exact ho5)
          have HB5 : Hid (Below w.heap.size w w5) := Lib.hid ((HBV.out.trans (HBA.out.mono HBV.out.size)).grown hg5 hzz (fun g e => (World.ownsRow.lt HOV.out g e).1))
          obtain ⟨m5, hm5⟩ : ∃ m5, Hid (m5 = (sel (ls.take k)).length + 1) := ⟨_, Lib.hid rfl⟩
          rw [← hm5.out] at HO5 ⊢
          clear ho5 hg5 hd5 hn0 hone h63 hzz HOA
          go_wp2
          go_roundw
          case rel => exact ⟨k + 1, _, by omega, rfl, by go_num, HO5, HB5.out⟩
          case measure => simp [intOf]; omega
        | false =>
          rw [hcr] at HC
          have HT : Hid (sel (ls.take (k + 1)) = sel (ls.take k)) := Lib.hid (by rw [HS.out, if_neg (by rw [hcr]; simp), List.append_nil])
          have HO5 : Hid (OwnL V w.heap.size vm (sel (ls.take (k + 1)))) := Lib.hid (by rw [HT.out]; exact HOV.out)
          clear hq hcr
          go_wp2_with ((go_at_call 25); (with_reducible refine HC.out.mono ?_); rintro e w1 ⟨rfl, rfl⟩)
          go_roundw
          case rel => exact ⟨k + 1, _, by omega, rfl, by go_num, HO5, HBV.out⟩
          case measure => simp [intOf]; omega
      · have e1 : decide (d.2.1 ≥ 0) = false := decide_eq_false hq
        have HT : Hid (sel (ls.take (k + 1)) = sel (ls.take k)) := Lib.hid (by rw [HS.out, if_neg (by rw [decide_eq_false hq]; simp), List.append_nil])
        have HO5 : Hid (OwnL V w.heap.size vm (sel (ls.take (k + 1)))) := Lib.hid (by rw [HT.out]; exact HOV.out)
        clear hq
        go_wp2
        go_roundw
        case rel => exact ⟨k + 1, _, by omega, rfl, by go_num, HO5, HBV.out⟩
        case measure => simp [intOf]; omega
    · obtain rfl : k = n := by omega
      have HF : Hid (OwnL wr w.heap.size vm (sel ls)) := Lib.hid (by have := HO.out; rw [hn.out, List.take_length] at this; exact this)
      have HB := Lib.hid hb
      have hsl : (sel ls).length ≤ 1099511627776 := Nat.le_trans (sel_len ls) HL.out
      have HT1 := Lib.hid (Total_any vm (sel ls) wr HF.out.rd hsl)
      have HT2 := fun w' (hb' : Below wr.heap.size wr w') => Lib.hid (refTotalP_any vm (sel ls) w' (HF.out.rd.below hb') hsl)
      obtain ⟨t, ht⟩ : ∃ t, Hid (t = totV (sel ls)) := ⟨_, Lib.hid rfl⟩
      have HNN : Hid (nn t) := Lib.hid (by rw [ht.out]; exact tot_nn ls)
      have HCN : Hid (cn t = t) := Lib.hid (by rw [ht.out]; exact tot_cn (sel ls))
      rw [← ht.out] at HT1 HT2
      have HC := fun w' => Lib.hid (can_any t w')
      clear hsl hb HO hn
      cases hnan : nanB t with
      | true =>
        have e1 : t = NANW := by rw [← HCN.out]; exact cn_nan hnan
        subst e1
        cases hcp : canP NANW with
        | true =>
          rw [hcp] at HC
          go_wp2_with (first
            | (go_at_call 12
               (with_reducible refine HT1.out.mono ?_); rintro e w1 ⟨rfl, hb1⟩)
            | (go_at_call 13
               (with_reducible refine (HT2 _ hb1).out.mono ?_); rintro e w2 ⟨rfl, hb2⟩)
            | (go_at_call 26
               (with_reducible refine (HC _).out.mono ?_); rintro e w3 ⟨rfl, rfl⟩))
          go_ret
          exact ⟨rfl, (HB.out.trans (hb1.mono HB.out.size)).trans (hb2.mono (Nat.le_trans HB.out.size hb1.size))⟩
        | false =>
          rw [hcp] at HC
          have e2 : ((NANW : Int) == 9221120237041090561) = true := by decide
          go_wp2_with (first
            | (go_at_call 12
               (with_reducible refine HT1.out.mono ?_); rintro e w1 ⟨rfl, hb1⟩)
            | (go_at_call 13
               (with_reducible refine (HT2 _ hb1).out.mono ?_); rintro e w2 ⟨rfl, hb2⟩)
            | (go_at_call 26
               (with_reducible refine (HC _).out.mono ?_); rintro e w3 ⟨rfl, rfl⟩))
          go_ret
          exact ⟨rfl, (HB.out.trans (hb1.mono HB.out.size)).trans (hb2.mono (Nat.le_trans HB.out.size hb1.size))⟩
      | false =>
        have hcp := canP_nn HNN.out hnan
        rw [hcp] at HC
        go_wp2_with (first
          | (go_at_call 12
             (with_reducible refine HT1.out.mono ?_); rintro e w1 ⟨rfl, hb1⟩)
          | (go_at_call 13
             (with_reducible refine (HT2 _ hb1).out.mono ?_); rintro e w2 ⟨rfl, hb2⟩)
          | (go_at_call 26
             (with_reducible refine (HC _).out.mono ?_); rintro e w3 ⟨rfl, rfl⟩))
        go_ret
        exact ⟨rfl, (HB.out.trans (hb1.mono HB.out.size)).trans (hb2.mono (Nat.le_trans HB.out.size hb1.size))⟩
end Go.Proofs.Ytaihkehbpppngaa
