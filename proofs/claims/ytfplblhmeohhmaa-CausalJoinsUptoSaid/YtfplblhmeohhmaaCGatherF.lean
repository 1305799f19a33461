/- gather: its walk. -/
import Derived.Test.YtfplblhmeohhmaaCGs
import Derived.Test.YtfplblhmeohhmaaCCompW
namespace Go.Proofs.Ytfplblhmeohhmaa
open Go.RowKit Go.Sort Go.BigFrame
open Go.Lib (byteCells byteCells_length)

theorem permS {ss ss' : List SpanA} (h : ss'.Perm ss) {P : SpanA → Prop} (hs : ∀ s ∈ ss, P s) : ∀ s ∈ ss', P s := fun s hs' => hs s (h.mem_iff.1 hs')
theorem rise_at {ss : List SpanA} (h : ss.Pairwise fun a b => ¬ ltS b a) {k : Nat} {x : SpanA} (hx : ss[k]? = some x) : ∀ s ∈ ss.take k, ¬ ltS x s := by
  intro s hs
  obtain ⟨j, hj⟩ := List.getElem?_of_mem hs
  rw [List.getElem?_take] at hj
  split at hj
  · rename_i hlt
    obtain ⟨h1, e1⟩ := List.getElem?_eq_some_iff.1 hj
    obtain ⟨h2, e2⟩ := List.getElem?_eq_some_iff.1 hx
    have := List.pairwise_iff_getElem.1 h j k h1 h2 hlt
    rw [e1, e2] at this
    exact this
  · cases hj
theorem take_atS {ss : List SpanA} {k : Nat} {x : SpanA} (h : ss[k]? = some x) : ss.take (k + 1) = ss.take k ++ [x] := by
  rw [List.take_add_one, h]; rfl

set_option maxRecDepth 100000 in
set_option maxHeartbeats 12800000 in
theorem gather_any : GatherSpec := by
  intro base v ss w ho hnb hbase hl hoks
  obtain ⟨g, hg⟩ := hnb
  obtain ⟨c, rfl, hbg, hgw, hc⟩ := ownS_shape ho hg
  obtain ⟨n, hn⟩ : ∃ n, Hid (n = ss.length) := ⟨_, Lib.hid rfl⟩
  rw [← hn.out] at ho hl hc ⊢
  obtain ⟨W0, hW0⟩ : ∃ W0, Hid (W0 = w.alloc (.cells #[.slice none 0 0, .slice none 0 0] 48)) := ⟨_, Lib.hid rfl⟩
  have hb0 : Below w.heap.size w W0 := by rw [hW0.out]; exact (Below.refl _ _).alloc (Nat.le_refl _) _
  have hz0 : W0.heap.size = w.heap.size + 1 := by rw [hW0.out]; simp
  have HROW : Hid (W0.heap[w.heap.size]? = some (.cells #[.slice none 0 0, .slice none 0 0] 48 (0, 0))) := Lib.hid (by rw [hW0.out]; exact heap_alloc_new w _)
  have hs := sortS_any base g n c ss W0 (ho.below hb0) hn.out (by omega) hl
  have hWe := hW0.out.symm
  obtain ⟨ad, had⟩ : ∃ ad : Addr, Hid (ad = ⟨g, 0, none⟩) := ⟨_, Lib.hid rfl⟩
  have HOK := Lib.hid hoks
  have HB0 := Lib.hid (hb0.mono hbase)
  have hs' : Calls Try.prog 145 #[.slice (some ad) n c, .func (.func 146) #[] #[]] W0 (SortPost base g n c ss W0) := by
    rw [had.out]; exact hs
  have HS := Lib.hid hs'
  rw [← had.out]
  clear hs hs' hb0 ho hg hoks
  go_enter Try.func118, Try.ntmps118
  go_upto_region 1 with fail
  clear hWe
  go_wp2_with fail
  (with_reducible refine HS.out.mono ?_); rintro e w1 ⟨rfl, ss1, hp, hso, hrd, hb1, hsz, hk1⟩
  rw [← had.out] at hrd
  have hlen : ss1.length = n := hrd.length
  have HLEN := Lib.hid hlen
  have HP := Lib.hid hp
  have HSO := Lib.hid hso
  have HOK1 := Lib.hid (permS hp HOK.out)
  have HB1 := Lib.hid (HB0.out.trans hb1)
  have HR1 := Lib.hid ((hk1 w.heap.size (by omega) (by omega)).trans HROW.out)
  have HRD := Lib.hid hrd
  obtain ⟨W, hW⟩ : ∃ W, Hid (W = w1.alloc (.cells #[.slice none 0 0, .slice none 0 0] 48)) := ⟨_, Lib.hid rfl⟩
  have HBW : Hid (Below w1.heap.size w1 W) := Lib.hid (by rw [hW.out]; exact (Below.refl _ _).alloc (Nat.le_refl _) _)
  have hzW : W.heap.size = w1.heap.size + 1 := by rw [hW.out]; simp
  have HG0 : Hid (GS w1.heap.size W (.slice none 0 0) (.slice none 0 0) [] [] W) := Lib.hid ⟨by rw [hW.out]; exact heap_alloc_new w1 _, ownD_nil _ _ _, ownD_nil _ _ _, (fun g e => by cases e), Below.refl _ _⟩
  have hWe := hW.out.symm
  clear hrd hlen hp hso hb1 hk1 HS
  go_upto_region 3 with fail
  clear hWe
  go_wp2
  go_loopw [11] (fun i wr => ∃ (k : Nat) (mv dv : Value) (ms ds : List DotA), k ≤ n ∧ i = .int .i64 k ∧ Hid (GS w1.heap.size W mv dv ms ds wr) ∧ Hid (Gath (ss1.take k) ms ds) ∧ Hid (ms.length ≤ k ∧ ds.length ≤ k)) (fun i _ => n - (intOf i).toNat)
  case atStart => exact ⟨0, _, _, [], [], Nat.zero_le _, rfl, HG0, Lib.hid Gath.start, Lib.hid ⟨Nat.le_refl _, Nat.le_refl _⟩⟩
  case round =>
    obtain ⟨k, mv, dv, ms, ds, hk, rfl, HG, HT, HL⟩ := hrel
    have hltg := HG.out.lt
    by_cases hlt : k < n
    · obtain ⟨x, hx⟩ : ∃ x, ss1[k]? = some x := ⟨ss1[k]'(by have := HLEN.out; omega), List.getElem?_eq_getElem _⟩
      obtain ⟨hadlt, hsp⟩ := HRD.out.one hx
      obtain ⟨d0, d1, d2, d3⟩ := (hsp.below HBW.out (by rw [add_block]; exact hadlt)).below HG.out.bel (by rw [add_block]; exact hadlt)
      have HRI := Lib.hid (rise_at HSO.out hx)
      have HOX := Lib.hid (HOK1.out x (List.mem_of_getElem? hx))
      have HTK := Lib.hid (take_atS hx)
      obtain ⟨W1, hW1⟩ : ∃ W1, Hid (W1 = wr.alloc (spanO x)) := ⟨_, Lib.hid rfl⟩
      have hbA : Below wr.heap.size wr W1 := by rw [hW1.out]; exact (Below.refl _ _).alloc (Nat.le_refl _) _
      have hzW1 : wr.heap.size < W1.heap.size := by rw [hW1.out]; simp
      have k0 : BoxS W1 wr.heap.size x := by
        have := boxS wr x
        rw [← hW1.out] at this
        exact this
      have hG1 := HG.out.grow hbA
      have HOM := Lib.hid HT.out.ok
      obtain ⟨u, hu⟩ : ∃ u, Hid (u = markOf ms (actOf x.2)) := ⟨_, Lib.hid rfl⟩
      have hu0 := markOf_le HT.out.ok (actOf x.2)
      rw [← hu.out] at hu0
      obtain ⟨hu1, hu2⟩ := hu0
      have cO := re_of (ofDot_any x.2) W1
      have cU : ∀ d' os', Calls Try.prog 67 #[mv, actV (actOf x.2)] (grow (redrawn W1 d') os') fun e w'' => e = .returned (.int .i64 u) ∧ ∃ p : Regrown, w'' = grow (redrawn W1 p.d) p.os := by
        intro d' os'
        rw [hu.out]
        exact Calls.regrown_of (upTo_any _ ms (actOf x.2) _ (hG1.om.rd.below (below_regrown W1 d' os')) (by have := HL.out; omega) HOM.out)
      have e0 := cell_regrown k0.1
      have e1 := cell_regrown k0.2.1
      have e2 := cell_regrown k0.2.2.1
      have e3 := cell_regrown k0.2.2.2
      have j0 := cell_regrown hG1.mcell
      have HBB : ∀ dq osq, Hid (Below W1.heap.size W1 (grow (redrawn W1 dq) osq)) := fun dq osq => Lib.hid (below_regrown W1 dq osq)
      have HK := Lib.hid k0
      have HG1 := Lib.hid hG1
      have hWe1 := hW1.out.symm
      clear hx hsp hbA k0 hG1
      go_upto_region 6 with fail
      clear hWe1
      refine wp_region_quiet_below (by kernel_rfl) (by kernel_rfl) ?_
      repeat (first | go_big_quiet_step (first | exact cO _ _ | exact cU _ _) | quiet_step (first | exact cO _ _ | exact cU _ _))
      refine wpQuiet_nil ?_
      intro _ hw'
      obtain ⟨⟨dq, osq⟩, hw''⟩ := hw'
      subst hw''
      have HX2 := HBB dq osq
      have HG2 := Lib.hid (HG1.out.grow HX2.out)
      obtain ⟨p0, p1, p2, p3⟩ := HK.out.below HX2.out hzW1
      clear HBB cO cU e0 e1 e2 e3 j0 d0 d1 d2 d3
      generalize grow (redrawn W1 dq) osq = w2 at *
      by_cases hsk : x.2.2.2 ≤ u
      · have HT2 : Hid (Gath (ss1.take (k + 1)) ms ds) := Lib.hid (by rw [HTK.out]; exact HT.out.skip (by rw [← hu.out]; exact hsk))
        have t1 : decide (x.2.2.2 ≤ u) = true := by simpa using hsk
        clear hsk
        go_wp2
        go_roundw
        case rel => exact ⟨k + 1, mv, dv, ms, ds, by omega, by go_num, HG2, HT2, Lib.hid ⟨by have := HL.out; omega, by have := HL.out; omega⟩⟩
        case measure => simp [intOf]; omega
      · have HNS := Lib.hid hsk
        have t1 : decide (x.2.2.2 ≤ u) = false := by simpa using hsk
        clear hsk
        by_cases hcl : u + 1 < x.1
        · have HT2 : Hid (Gath (ss1.take (k + 1)) ms (ds ++ [x.2])) := Lib.hid (by rw [HTK.out]; exact HT.out.cloud HRI.out HOX.out (by rw [← hu.out]; exact hcl))
          have t2 : decide (u + 1 < x.1) = true := by simpa using hcl
          clear hcl
          obtain ⟨A5, c5, hv5⟩ := ownD_slice HG2.out.od
          obtain ⟨N5, hN5⟩ : ∃ N5, Hid (N5 = ds.length) := ⟨_, Lib.hid rfl⟩
          rw [← hN5.out] at hv5
          subst hv5
          have q1 := HG2.out.dcell
          have hz2 := HG2.out.lt
          have hol : ds.length ≤ 1099511627776 := by have := HL.out; omega
          have HOD := Lib.hid HG2.out.od
          go_wp2_with (at_builtin; go_must (refine wpList_append_dot (v := .slice A5 N5 c5) Try.underlying42 infoDot _ rfl (.tmp 45) (.tmp 48) rfl x.2 (by rfl) (by rfl) HOD.out hol hz2 ?_))
          intro v5 w5 ho5 hg5 ht5
          obtain ⟨A6, c6, hv6⟩ := ownD_slice ho5
          obtain ⟨N6, hN6⟩ : ∃ N6, Hid (N6 = (ds ++ [x.2]).length) := ⟨_, Lib.hid rfl⟩
          rw [← hN6.out] at hv6
          subst hv6
          obtain ⟨hG6, s0, f0⟩ := HG2.out.dots ho5 hg5 ht5
          have HG6 := Lib.hid hG6
          clear ho5 hg5 ht5 hG6 p0 p1 p2 p3 q1
          go_wp2
          go_roundw
          case rel => exact ⟨k + 1, _, _, ms, ds ++ [x.2], by omega, by go_num, HG6, HT2, Lib.hid ⟨by have := HL.out; omega, by have := HL.out; simp; omega⟩⟩
          case measure => simp [intOf]; omega
        · have t2 : decide (u + 1 < x.1) = false := by simpa using hcl
          have HT2 : Hid (Gath (ss1.take (k + 1)) (setL x.2 ms false) ds) := Lib.hid (by rw [HTK.out]; exact HT.out.mark HRI.out HOX.out (by rw [← hu.out]; omega))
          clear hcl
          by_cases hz : u = 0
          · have HE := Lib.hid (HT.out.new HRI.out (by rw [← hu.out]; exact hz))
            have HT3 : Hid (Gath (ss1.take (k + 1)) (ms ++ [x.2]) ds) := Lib.hid (by rw [← HE.out]; exact HT2.out)
            have t3 : (u == 0) = true := by simpa using hz
            clear hz
            obtain ⟨A5, c5, hv5⟩ := ownD_slice HG2.out.om
            obtain ⟨N5, hN5⟩ : ∃ N5, Hid (N5 = ms.length) := ⟨_, Lib.hid rfl⟩
            rw [← hN5.out] at hv5
            subst hv5
            have q1 := HG2.out.mcell
            have hz2 := HG2.out.lt
            have hol : ms.length ≤ 1099511627776 := by have := HL.out; omega
            have HOD := Lib.hid HG2.out.om
            go_wp2_with (at_builtin; go_must (refine wpList_append_dot (v := .slice A5 N5 c5) Try.underlying41 infoMark _ rfl (.tmp 55) (.tmp 58) rfl x.2 (by rfl) (by rfl) HOD.out hol hz2 ?_))
            intro v5 w5 ho5 hg5 ht5
            obtain ⟨A6, c6, hv6⟩ := ownD_slice ho5
            obtain ⟨N6, hN6⟩ : ∃ N6, Hid (N6 = (ms ++ [x.2]).length) := ⟨_, Lib.hid rfl⟩
            rw [← hN6.out] at hv6
            subst hv6
            obtain ⟨hG6, s0, f0⟩ := HG2.out.marks ho5 hg5 ht5
            have HG6 := Lib.hid hG6
            clear ho5 hg5 ht5 hG6 p0 p1 p2 p3 q1
            go_wp2
            go_roundw
            case rel => exact ⟨k + 1, _, _, ms ++ [x.2], ds, by omega, by go_num, HG6, HT3, Lib.hid ⟨by have := HL.out; simp; omega, by have := HL.out; omega⟩⟩
            case measure => simp [intOf]; omega
          · obtain ⟨r, z, hms, hE⟩ := HT.out.old HRI.out (by rw [← hu.out]; exact hz) (by rw [← hu.out]; have := HNS.out; omega)
            have HT3 : Hid (Gath (ss1.take (k + 1)) (r ++ [(z.1, z.2.1, x.2.2.2)]) ds) := Lib.hid (by rw [← hE]; exact HT2.out)
            have t3 : (u == 0) = false := by simpa using hz
            have HLR : Hid (r.length + 1 ≤ k ∧ ds.length ≤ k) := Lib.hid (by have := HL.out; rw [hms] at this; simpa using this)
            have hG2 := HG2.out
            rw [hms] at hG2
            obtain ⟨M, hM⟩ : ∃ M, Hid (M = r.length) := ⟨_, Lib.hid rfl⟩
            obtain ⟨gm, cm, hmv⟩ : ∃ gm cm, mv = .slice (some ⟨gm, 0, none⟩) (M + 1) cm := by
              rcases hG2.om.2 with ⟨_, h0⟩ | ⟨gm, cm, _, e, _⟩
              · simp at h0
              · exact ⟨gm, cm, by rw [e, hM.out]; simp⟩
            subst hmv
            obtain ⟨hG6, s0, f0⟩ := hG2.last x.2.2.2
            have q0 := hG2.mcell
            have HG6 := Lib.hid hG6
            rw [← hM.out] at s0 f0 HG6
            have hMb : M ≤ 2097152 := by have := HLR.out; have := hM.out; omega
            clear hz hms hE hG2 hG6
            go_wp2
            go_roundw
            case rel => exact ⟨k + 1, _, _, r ++ [(z.1, z.2.1, x.2.2.2)], ds, by omega, by go_num, HG6, HT3, Lib.hid ⟨by have := HLR.out; simp; omega, by have := HLR.out; omega⟩⟩
            case measure => simp [intOf]; omega
    · have hkn : k = n := by omega
      have HT2 : Hid (Gath ss1 ms ds) := Lib.hid (by have := HT.out; rw [hkn, ← HLEN.out, List.take_length] at this; exact this)
      have q1 := HG.out.dcell
      have HCM := Lib.hid (compact_any (w1.heap.size + 1) dv ds wr HG.out.od (by have := HL.out; omega))
      clear hlt
      go_wp2_with fail
      (with_reducible refine HCM.out.mono ?_); rintro e w2 ⟨v2, rfl, ho2, hg2, hv2⟩
      obtain ⟨A2, c2, e2⟩ := ownD_slice ho2
      obtain ⟨N2, hN2⟩ : ∃ N2, Hid (N2 = (compL ds).length) := ⟨_, Lib.hid rfl⟩
      rw [← hN2.out] at e2
      subst e2
      obtain ⟨hG2, s0, f0⟩ := HG.out.dots ho2 hg2 (.inl hv2)
      obtain ⟨A3, c3, e3⟩ := ownD_slice hG2.om
      obtain ⟨N3, hN3⟩ : ∃ N3, Hid (N3 = ms.length) := ⟨_, Lib.hid rfl⟩
      rw [← hN3.out] at e3
      subst e3
      have HG2 := Lib.hid hG2
      have m0 := hG2.mcell
      have m1 := hG2.dcell
      have hb2 := hG2.bel
      have r2 := (hb2.block w.heap.size (by omega)).trans ((HBW.out.block w.heap.size (by omega)).trans HR1.out)
      have q2 := cell_of_row _ _ 0 _ _ (0, 0) r2
      have q3 := cell_of_row _ _ 1 _ _ (0, 0) r2
      have f2 := frozen_of_row _ _ 0 _ _ r2
      have f3 := frozen_of_row _ _ 1 _ _ r2
      have HR2 := Lib.hid (Joins.block_setCell (Joins.block_setCell r2 (i := 0) (.slice A3 N3 c3)) (i := 1) (.slice A2 N2 c2))
      clear ho2 hg2 hv2 hG2 hb2 r2 q1 hkn
      go_wp2
      have p0 := cell_of_row _ _ 0 _ _ (0, 0) HR2.out
      have p1 := cell_of_row _ _ 1 _ _ (0, 0) HR2.out
      obtain ⟨hcan, hin⟩ := HT2.out.canon
      have ap2 : Apart w.heap.size (.slice A3 N3 c3) := fun g e => by have := (World.ownsRow.lt HG2.out.om g e).1; omega
      have ap3 : Apart w.heap.size (.slice A2 N2 c2) := fun g e => by have := (World.ownsRow.lt HG2.out.od g e).1; omega
      refine bodyPost_ret (v := .agg #[.slice A3 N3 c3, .slice A2 N2 c2]) (by simp [results, Try.results118, go_sem, p0, p1]) rfl ⟨ms, compL ds, _, _, rfl, ?_, ?_, hcan, ?_, ?_⟩
      · exact ((HG2.out.om.setOther ap2 _).setOther ap2 _).base_le (by omega)
      · exact ((HG2.out.od.setOther ap3 _).setOther ap3 _).base_le (by omega)
      · intro x hx
        rw [hin x hx]
        constructor
        · rintro ⟨s, hs, h1⟩
          exact ⟨s, HP.out.mem_iff.1 hs, h1⟩
        · rintro ⟨s, hs, h1⟩
          exact ⟨s, HP.out.mem_iff.2 hs, h1⟩
      · exact ((HB1.out.trans ((HBW.out.mono (show base ≤ w1.heap.size by omega)).trans (HG2.out.bel.mono (show base ≤ w1.heap.size by omega)))).setCell (show base ≤ w.heap.size from hbase) _).setCell (show base ≤ w.heap.size from hbase) _
end Go.Proofs.Ytfplblhmeohhmaa
