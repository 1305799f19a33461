/- The walk of wait. -/
import Derived.Test.YthipdadhhelieaaPWait
namespace Go.Proofs.Ythipdadhhelieaa
open Go.RowKit Go.Sort Go.BigFrame

/-- What wait answers. -/
def WaitPost (g : Nat) (t : TabA) (ps : List PingA) (w : World) (e : Ending) (w' : World) : Prop := ∃ v4 v5 n4 n5 v6, e = .returned (.tuple #[v4, v5]) ∧ Waits g w.heap.size w w' { (t.wait ps).1 with opened := v6 } (t.wait ps).2 v4 v5 v6 n4 n5 (t.wait ps).2.length ∧ n4 ≤ 2 * ps.length ∧ n5 ≤ ps.length
set_option maxRecDepth 100000 in
set_option maxHeartbeats 6400000 in
theorem wait_any (g base : Nat) (t : TabA) (ps : List PingA) (hl : ps.length ≤ 1000) (htm : t.timed) (hf : Fine t ps) (hgb : g < base) (w : World) (h : TabAt w g t) (ho : OwnG w base t.opened ps) :
    Calls Try.prog 47 #[.pointer (some ⟨g, 0, none⟩)] w (WaitPost g t ps w) := by
  obtain ⟨A, c, hs⟩ := ho.slice
  obtain ⟨n, hn⟩ : ∃ n, Hid (n = ps.length) := ⟨_, Lib.hid rfl⟩
  rw [← hn.out] at hs
  have c34 : w.cell? ⟨g, 34, none⟩ = some (.slice A n c) := by rw [← hs]; exact h.cell 34
  have HO : Hid (OwnG w base (.slice A n c) ps) := Lib.hid (by rw [← hs]; exact ho)
  have HGL := Lib.hid h.lt
  have HTM := Lib.hid htm
  have HF := Lib.hid hf
  have hln : n ≤ 1000 := by rw [hn.out]; exact hl
  have hn0 := htm.1
  have hn1 := htm.2.1
  have HW0 : Hid (Waits g w.heap.size w w t [] (.slice none 0 0) (.slice none 0 0) (.slice none 0 0) 0 0 0) := Lib.hid ⟨⟨[], World.ownsRow_nil _ _ _ 17, fun u hu => by simp at hu⟩, ⟨[], World.ownsRow_nil _ _ _ 3, rfl⟩, World.ownsRow_nil _ _ _ 4, rfl, h, Turns.of (Below.refl _ _)⟩
  clear h ho hs htm hf hl
  go_enter Try.func47, Try.ntmps47
  go_wp2
  go_loopw [14, 4, 5, 6] (fun i x4 x5 x6 wr => ∃ (k n4 n5 n6 : Nat) (A4 A5 A6 : Option Addr) (c4 c5 c6 : Nat), k ≤ n ∧ i = .int .i64 k ∧ x4 = .slice A4 n4 c4 ∧ x5 = .slice A5 n5 c5 ∧ x6 = .slice A6 n6 c6 ∧ n4 ≤ 2 * k ∧ n5 ≤ k ∧ Hid (Waits g w.heap.size w wr (t.wait (ps.take k)).1 (t.wait (ps.take k)).2 (.slice A4 n4 c4) (.slice A5 n5 c5) (.slice A6 n6 c6) n4 n5 n6)) (fun i _ _ _ _ => n - (intOf i).toNat)
  case atStart => exact ⟨0, 0, 0, 0, none, none, none, 0, 0, 0, Nat.zero_le _, rfl, rfl, rfl, rfl, by omega, by omega, HW0⟩
  case round =>
    obtain ⟨k, n4, n5, n6, A4, A5, A6, c4, c5, c6, hk, rfl, rfl, rfl, rfl, h4, h5, HW⟩ := hrel
    by_cases hlt : k < n
    · obtain ⟨⟨pt, pr, pn, pa⟩, hp⟩ : ∃ p, ps[k]? = some p := ⟨ps[k]'(by rw [← hn.out]; exact hlt), List.getElem?_eq_getElem _⟩
      obtain ⟨p0, p1, q0, q1⟩ := HF.out _ (List.mem_of_getElem? hp)
      obtain ⟨q, rfl⟩ := Int.eq_ofNat_of_zero_le p0
      obtain ⟨bb, cc, hv, hbb, hbl, e0, e1, e2, e3⟩ := HO.out.at_ hp
      injection hv with hv1 hv2 hv3
      subst hv1
      have hbg : bb ≠ g := by omega
      have hrow := HW.out.fr.block bb hbl hbg
      have j0 : wr.cell? ⟨bb, k * 4, none⟩ = some (.int .i64 (q : Int)) := (World.cell?_of_block hrow).trans e0
      have j1 : wr.cell? ⟨bb, k * 4 + 1, none⟩ = some (.int .i64 pr) := (World.cell?_of_block hrow).trans e1
      have j2 : wr.cell? ⟨bb, k * 4 + 2, none⟩ = some (.int .i64 pn) := (World.cell?_of_block hrow).trans e2
      have j3 : wr.cell? ⟨bb, k * 4 + 3, none⟩ = some (.bool pa) := (World.cell?_of_block hrow).trans e3
      have p0' : (0 : Int) ≤ (q : Int) := by omega
      have p1' : (q : Int) < 8 := p1
      have hq8 : q < 8 := by omega
      have q0' : 0 ≤ pn := q0
      have q1' : pn ≤ t.now := q1
      obtain ⟨T, hT⟩ : ∃ T, Hid (T = (t.wait (ps.take k)).1) := ⟨_, Lib.hid rfl⟩
      obtain ⟨S, hS⟩ : ∃ S, Hid (S = (t.wait (ps.take k)).2) := ⟨_, Lib.hid rfl⟩
      have HTK : Hid (t.wait (ps.take (k + 1)) = waitStep (T, S) ((q : Int), pr, pn, pa)) := Lib.hid (by rw [hT.out, hS.out, List.take_add_one, hp]; exact wait_snoc _ _ _)
      have HNW : Hid (T.now = t.now) := Lib.hid (by rw [hT.out]; exact wait_now _ _)
      rw [← hT.out, ← hS.out] at HW
      have hsl : S.length ≤ k := by rw [hS.out]; exact Nat.le_trans (wait_len _ _) (List.length_take_le _ _)
      have hn6 : n6 ≤ k := by rw [HW.out.n]; exact hsl
      obtain ⟨V, hV⟩ : ∃ V, Hid (V = wr.alloc (.cells #[.int .i64 (q : Int), .int .i64 pr, .int .i64 pn, .bool pa] 67)) := ⟨_, Lib.hid rfl⟩
      have hbv : Below wr.heap.size wr V := by rw [hV.out]; exact (Below.refl _ _).alloc (Nat.le_refl _) _
      have HWV := Lib.hid (HW.out.to hbv HW.out.fr.size)
      have hrV : V.heap[wr.heap.size]? = some (.cells #[.int .i64 (q : Int), .int .i64 pr, .int .i64 pn, .bool pa] 67 (0, 0)) := by rw [hV.out]; exact heap_alloc_new _ _
      have v0 : V.cell? ⟨wr.heap.size, 0, none⟩ = some (.int .i64 (q : Int)) := cell_of_row _ _ 0 _ _ (0, 0) hrV
      have v1 : V.cell? ⟨wr.heap.size, 1, none⟩ = some (.int .i64 pr) := cell_of_row _ _ 1 _ _ (0, 0) hrV
      have v2 : V.cell? ⟨wr.heap.size, 2, none⟩ = some (.int .i64 pn) := cell_of_row _ _ 2 _ _ (0, 0) hrV
      have v3 : V.cell? ⟨wr.heap.size, 3, none⟩ = some (.bool pa) := cell_of_row _ _ 3 _ _ (0, 0) hrV
      have g1 : V.cell? ⟨g, 1, none⟩ = some (.int .i64 t.now) := by have := HWV.out.tab.cell 1; rw [this]; show some (Value.int .i64 T.now) = _; rw [HNW.out]
      have HZ : Hid (wr.heap.size < V.heap.size) := Lib.hid (by rw [hV.out]; simp)
      have HRV := Lib.hid hrV
      have HZW : Hid (w.heap.size ≤ wr.heap.size) := Lib.hid HW.out.fr.size
      have HL4 : Hid (∀ b, (Value.slice A4 n4 c4).ownBlock = some b → b < wr.heap.size) := Lib.hid (by obtain ⟨xs, h1, _⟩ := HW.out.m; exact fun b e => (World.ownsRow.lt h1 b e).2)
      clear hp hbl e0 e1 e2 e3 hv2 hv3 hrow hbv HW hbb hbg hrV p0 p1 q0 q1 hsl
      go_upto_region 7 with fail
      rw [← hV.out]
      go_quiet (fail)
      obtain ⟨V2, hV2⟩ : ∃ V2, Hid (V2 = V.drewN nq) := ⟨_, Lib.hid rfl⟩
      rw [← hV2.out]
      have hb2 : Below V.heap.size V V2 := by rw [hV2.out]; exact below_drewN (Below.refl _ _) nq
      have HW2 := Lib.hid (HWV.out.to hb2 HWV.out.fr.size)
      have z0 : V2.cell? ⟨wr.heap.size, 0, none⟩ = some (.int .i64 (q : Int)) := by rw [hV2.out]; exact v0
      have z1 : V2.cell? ⟨wr.heap.size, 1, none⟩ = some (.int .i64 pr) := by rw [hV2.out]; exact v1
      have z2 : V2.cell? ⟨wr.heap.size, 2, none⟩ = some (.int .i64 pn) := by rw [hV2.out]; exact v2
      have z3 : V2.cell? ⟨wr.heap.size, 3, none⟩ = some (.bool pa) := by rw [hV2.out]; exact v3
      have HR2 : Hid (V2.heap[wr.heap.size]? = some (.cells #[.int .i64 (q : Int), .int .i64 pr, .int .i64 pn, .bool pa] 67 (0, 0))) := Lib.hid (by rw [hV2.out]; exact HRV.out)
      have HZ2 : Hid (wr.heap.size < V2.heap.size) := Lib.hid (by rw [hV2.out]; exact HZ.out)
      clear v0 v1 v2 v3 g1 j0 j1 j2 j3 hb2 HWV HRV HZ
      cases hd : decide (t.now - pn < 50)
      · cases pa
        · -- others are asked
          have HS : Hid (waitStep (T, S) ((q : Int), pr, pn, false) = (T, S ++ [((q : Int), pr, t.now, true)])) := Lib.hid (by unfold waitStep; simp only [HNW.out, hd]; rfl)
          have HA : Hid (Calls Try.prog 66 #[.pointer (some ⟨g, 0, none⟩), .agg #[.int .i64 (q : Int), .int .i64 pr, .int .i64 pn, .bool false]] V2 fun e w' => ∃ v n, e = .returned v ∧ OwnM w' V2.heap.size v n ∧ n ≤ 2 ∧ Below V2.heap.size V2 w') := Lib.hid (askOthers_any g T ((q : Int), pr, pn, false) V2 HW2.out.tab)
          obtain ⟨xs4, hx4, hx41⟩ := HW2.out.m
          have HX4 := Lib.hid hx4
          have HX41 := Lib.hid hx41
          clear hx4 hx41
          go_upto_region 11 with (first
            | (go_at_call 66
               (with_reducible refine HA.out.mono ?_); rintro e w1 ⟨u1, m1, rfl, hm1, hm2, hb1⟩
               obtain ⟨ys, hy, hy1⟩ := hm1
               have HY := Lib.hid hy
               have HY1 := Lib.hid hy1
               have HW3 := Lib.hid (HW2.out.to hb1 HW2.out.fr.size)
               have HX5 := Lib.hid (row_below HX4.out hb1)
               have HR3 := Lib.hid ((hb1.block _ HZ2.out).trans HR2.out)
               have HZ1 : Hid (w.heap.size ≤ w1.heap.size) := Lib.hid HW3.out.fr.size
               clear hy hy1 hb1)
            | (at_builtin; go_must (refine wpList_append_rows Try.underlying34 infoMsg hz17 _ rfl (.tmp 35) (.tmp 38) rfl (by rfl) (by rfl) HX5.out HY.out HY1.out (by omega) HZ1.out ?_); intro v7 w7 ho7 hg7 hd7
               obtain ⟨A7, c7, rfl⟩ := row_slice ho7
               have HW7 := Lib.hid (HW3.out.asked HGL.out (Nat.le_refl _) HX5.out HX41.out HY1.out HY.out ho7 hg7)
               have hr7 : w7.heap[wr.heap.size]? = some (.cells #[.int .i64 (q : Int), .int .i64 pr, .int .i64 pn, .bool false] 67 (0, 0)) := (hg7.block _ (Array.getElem?_eq_some_iff.1 HR3.out).1 (fun e => absurd (HL4.out _ e.symm) (by omega))).trans HR3.out
               have y0 : w7.cell? ⟨wr.heap.size, 0, none⟩ = some (.int .i64 (q : Int)) := cell_of_row _ _ 0 _ _ (0, 0) hr7
               have y1 : w7.cell? ⟨wr.heap.size, 1, none⟩ = some (.int .i64 pr) := cell_of_row _ _ 1 _ _ (0, 0) hr7
               have g1 : w7.cell? ⟨g, 1, none⟩ = some (.int .i64 t.now) := by have := HW7.out.tab.cell 1; rw [this]; show some (Value.int .i64 T.now) = _; rw [HNW.out]
               have HZ7 : Hid (w.heap.size ≤ w7.heap.size) := Lib.hid HW7.out.fr.size
               clear ho7 hg7 hd7 hr7))
          have hbA : Below w7.heap.size w7 (w7.alloc (.cells #[.int .i64 (q : Int), .int .i64 pr, .int .i64 t.now, .bool true] 67)) := (Below.refl _ _).alloc (Nat.le_refl _) _
          have HWA := Lib.hid (HW7.out.to hbA HW7.out.fr.size)
          have HN0 : Hid (∀ j u, (pcells1 ((q : Int), pr, t.now, true))[j]? = some u → (w7.alloc (.cells #[.int .i64 (q : Int), .int .i64 pr, .int .i64 t.now, .bool true] 67)).cell? ((⟨w7.heap.size, 0, none⟩ : Addr).add j) = some u) := Lib.hid (box_ping w7 ((q : Int), pr, t.now, true))
          have HZA : Hid (w.heap.size ≤ (w7.alloc (.cells #[.int .i64 (q : Int), .int .i64 pr, .int .i64 t.now, .bool true] 67)).heap.size) := Lib.hid HWA.out.fr.size
          clear hbA
          go_wp2_with fail
          go_region_law (first
            | (refine step_append_gen Try.underlying65 infoPing hz4 _ (by rfl) (.tmp 40) (.tmp 50) (by rfl) (by rfl) (by rfl) HWA.out.s (pcells1 ((q : Int), pr, t.now, true)) (pcells1_one ((q : Int), pr, t.now, true)) ⟨by omega, by omega⟩ ?_ ?_ ?_
               · exact HN0.out
               · exact HZA.out
               intro g6 cc6 w8 ho8 hg8 hd8
               have HW8 : Hid (Waits g w.heap.size w w8 (t.wait (ps.take (k + 1))).1 (t.wait (ps.take (k + 1))).2 (.slice A7 (n4 + m1) c7) (.slice A5 n5 c5) (.slice (some ⟨g6, 0, none⟩) (n6 + 1) cc6) (n4 + m1) n5 (n6 + 1)) := Lib.hid (by
                 rw [HTK.out, HS.out]
                 exact HWA.out.still HGL.out (Nat.le_refl _) ((q : Int), pr, t.now, true) ho8 ⟨hg8.os, hg8.tape, hg8.output, hg8.size, hg8.block⟩)
               clear ho8 hg8 hd8)
            | fail)
          all_goals
            go_wp2
            go_roundw
            case rel => exact ⟨k + 1, n4 + m1, n5, n6 + 1, A7, A5, _, c7, c5, cc6, by omega, by go_num, rfl, rfl, rfl, by omega, by omega, HW8⟩
            case measure => simp [intOf]; omega
        · -- others were asked
          obtain ⟨ss, hss⟩ : ∃ ss, Hid (ss = (T.nd q).1.2.2) := ⟨_, Lib.hid rfl⟩
          have s2 : V2.cell? ⟨g, 2 + q * 4 + 2, none⟩ = some (.int .i64 ss) := by rw [hss.out]; exact (HW2.out.tab.node hq8).2.2.1
          go_upto_region 12 with fail
          go_quiet (fail)
          obtain ⟨V3, hV3⟩ : ∃ V3, Hid (V3 = V2.drewN nq) := ⟨_, Lib.hid rfl⟩
          rw [← hV3.out]
          have hb3 : Below V2.heap.size V2 V3 := by rw [hV3.out]; exact below_drewN (Below.refl _ _) nq
          have HW3 := Lib.hid (HW2.out.to hb3 HW2.out.fr.size)
          have y0 : V3.cell? ⟨wr.heap.size, 0, none⟩ = some (.int .i64 (q : Int)) := by rw [hV3.out]; exact z0
          clear z0 z1 z2 z3 s2 hb3
          cases he : (ss == 1)
          · have HS : Hid (waitStep (T, S) ((q : Int), pr, pn, true) = (T, S)) := Lib.hid (by
              unfold waitStep
              simp only [HNW.out, hd, Int.toNat_natCast]
              rw [← hss.out, he]
              rfl)
            have HW6 : Hid (Waits g w.heap.size w V3 (t.wait (ps.take (k + 1))).1 (t.wait (ps.take (k + 1))).2 (.slice A4 n4 c4) (.slice A5 n5 c5) (.slice A6 n6 c6) n4 n5 n6) := Lib.hid (by rw [HTK.out, HS.out]; exact HW3.out)
            go_wp2
            go_roundw
            case rel => exact ⟨k + 1, n4, n5, n6, A4, A5, A6, c4, c5, c6, by omega, by go_num, rfl, rfl, rfl, by omega, by omega, HW6⟩
            case measure => simp [intOf]; omega
          · have HS : Hid (waitStep (T, S) ((q : Int), pr, pn, true) = (T.setNd q (((q : Int), (T.nd q).1.2.1, 2), T.now), S)) := Lib.hid (by
              unfold waitStep
              simp only [HNW.out, hd, Int.toNat_natCast]
              rw [← hss.out, he]
              rfl)
            have H1 := Lib.hid (turn_any g T q hq8 2 V3 HW3.out.tab)
            go_wp2_with (first
              | (go_at_call 65
                 (with_reducible refine H1.out.mono ?_); rintro e w1 ⟨b1, hb1, rfl, ho1, ht1, hg1⟩
                 have HW4 := Lib.hid (HW3.out.turn HGL.out (Nat.le_refl _) ht1 hg1)
                 obtain ⟨ds, hds, hdn⟩ := HW4.out.d
                 have HDS := Lib.hid hds
                 have HDN := Lib.hid hdn
                 have HO1 : Hid (w1.ownsRow V3.heap.size 38 3 (.slice (some ⟨b1, 0, none⟩) 1 1) 1 (dcells [((q : Int), (T.nd q).1.2.1, 2)])) := Lib.hid ho1
                 have HZ1 : Hid (w.heap.size ≤ w1.heap.size) := Lib.hid HW4.out.fr.size
                 clear hb1 ho1 ht1 hg1 hds hdn)
              | (at_builtin; go_must (refine wpList_append_rows Try.underlying31 infoPeer hz3 _ rfl (.tmp 63) (.tmp 67) rfl (by rfl) (by rfl) HDS.out HO1.out (dcells_one _) (by omega) HZ1.out ?_)))
            intro v6 w6 ho6 hg6 _
            obtain ⟨A7, c7, rfl⟩ := row_slice ho6
            have HW6 : Hid (Waits g w.heap.size w w6 (t.wait (ps.take (k + 1))).1 (t.wait (ps.take (k + 1))).2 (.slice A4 n4 c4) (.slice A7 (n5 + 1) c7) (.slice A6 n6 c6) n4 (n5 + 1) n6) := Lib.hid (by
              rw [HTK.out, HS.out]
              exact HW4.out.told HGL.out (Nat.le_refl _) HDS.out HDN.out ho6 hg6)
            clear ho6 hg6
            go_wp2
            go_roundw
            case rel => exact ⟨k + 1, n4, n5 + 1, n6, A4, A7, A6, c4, c7, c6, by omega, by go_num, rfl, rfl, rfl, by omega, by omega, HW6⟩
            case measure => simp [intOf]; omega
      · have HS : Hid (waitStep (T, S) ((q : Int), pr, pn, pa) = (T, S ++ [((q : Int), pr, pn, pa)])) := Lib.hid (by unfold waitStep; simp only [HNW.out, hd]; rfl)
        obtain ⟨VB, hVB⟩ : ∃ VB, Hid (VB = V2.alloc (.cells #[.int .i64 (q : Int), .int .i64 pr, .int .i64 pn, .bool pa] 67)) := ⟨_, Lib.hid rfl⟩
        have hbB : Below V2.heap.size V2 VB := by rw [hVB.out]; exact (Below.refl _ _).alloc (Nat.le_refl _) _
        have HWB := Lib.hid (HW2.out.to hbB HW2.out.fr.size)
        have HNB : Hid (∀ j u, (pcells1 ((q : Int), pr, pn, pa))[j]? = some u → VB.cell? ((⟨V2.heap.size, 0, none⟩ : Addr).add j) = some u) := Lib.hid (by rw [hVB.out]; exact box_ping V2 ((q : Int), pr, pn, pa))
        have HZB : Hid (w.heap.size ≤ VB.heap.size) := Lib.hid HWB.out.fr.size
        clear hbB
        go_wp2_with (at_builtin; rw [← hVB.out]; go_must (refine wpList_append_gen Try.underlying65 infoPing hz4 _ rfl (.tmp 27) (.tmp 29) rfl (by rfl) (by rfl) HWB.out.s (pcells1 ((q : Int), pr, pn, pa)) (pcells1_one ((q : Int), pr, pn, pa)) ⟨by omega, by omega⟩ HNB.out HZB.out ?_))
        intro g6 cc6 w6 ho6 hg6 _
        have HW6 : Hid (Waits g w.heap.size w w6 (t.wait (ps.take (k + 1))).1 (t.wait (ps.take (k + 1))).2 (.slice A4 n4 c4) (.slice A5 n5 c5) (.slice (some ⟨g6, 0, none⟩) (n6 + 1) cc6) n4 n5 (n6 + 1)) := Lib.hid (by
          rw [HTK.out, HS.out]
          exact HWB.out.still HGL.out (Nat.le_refl _) ((q : Int), pr, pn, pa) ho6 hg6)
        clear ho6 hg6
        go_wp2
        go_roundw
        case rel => exact ⟨k + 1, n4, n5, n6 + 1, A4, A5, _, c4, c5, cc6, by omega, by go_num, rfl, rfl, rfl, by omega, by omega, HW6⟩
        case measure => simp [intOf]; omega
    · obtain rfl : k = n := by omega
      have HTP : Hid (ps.take k = ps) := Lib.hid (by rw [hn.out]; exact List.take_length)
      rw [HTP.out] at HW
      have hx : TabAt (wr.setCell ⟨g, 34, none⟩ (.slice A6 n6 c6)) g { (t.wait ps).1 with opened := .slice A6 n6 c6 } := Joins.block_setCell HW.out.tab (i := 34) (.slice A6 n6 c6)
      have HX := Lib.hid (HW.out.turn HGL.out (Nat.le_refl _) hx ((Turns.of (Below.refl _ _)).set _ _))
      have f34 := HW.out.tab.frozen 34
      have c34' : wr.cell? ⟨g, 34, none⟩ = some (t.wait ps).1.opened := HW.out.tab.cell 34
      have HN6 : Hid (n6 = (t.wait ps).2.length) := Lib.hid HW.out.n
      have HNN : Hid (n4 ≤ 2 * ps.length ∧ n5 ≤ ps.length) := Lib.hid (by rw [← hn.out]; exact ⟨h4, h5⟩)
      clear hx c34
      go_wp2
      go_ret2
      unfold WaitPost
      rw [← HN6.out]
      exact ⟨_, _, n4, n5, _, rfl, HX.out, HNN.out.1, HNN.out.2⟩
end Go.Proofs.Ythipdadhhelieaa
