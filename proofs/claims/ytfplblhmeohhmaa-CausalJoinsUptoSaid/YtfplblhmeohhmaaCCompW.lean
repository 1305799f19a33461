/- slices.Compact at dots: its walk. -/
import Derived.Test.YtfplblhmeohhmaaCComp
namespace Go.Proofs.Ytfplblhmeohhmaa
open Go.RowKit Go.Sort Go.BigFrame
open Go.Lib (byteCells byteCells_length)

/-- The dots once each, in the same row. -/
def CompPost (base : Nat) (v : Value) (ds : List DotA) (w : World) (e : Ending) (w' : World) : Prop :=
  ∃ v', e = .returned v' ∧ OwnD 44 w' base v' (compL ds) ∧ w.grownBy w' (_root_.Go.Value.ownBlock v) ∧ _root_.Go.Value.ownBlock v' = _root_.Go.Value.ownBlock v
theorem grown_of_below {w w' : World} (hb : Below w.heap.size w w') (row : Option Nat) : w.grownBy w' row := ⟨hb.os, hb.tape, hb.output, hb.size, fun k hk _ => hb.block k hk⟩
theorem Fresh.dup {ds : List DotA} {k : Nat} {y x : DotA} (h : Fresh ds k) (hk : 1 ≤ k) (hy : ds[k - 1]? = some y) (hx : ds[k]? = some x) (he : x = y) : Comp ds (k + 1) k ds := Comp.start h hk hy hx he
/-- The cells of one dot of a row of one's own. -/
theorem OwnD.cells3 {T : TypeId} {w : World} {base g n c k : Nat} {ds : List DotA} {x : DotA} (h : OwnD T w base (.slice (some ⟨g, 0, none⟩) n c) ds) (hx : ds[k]? = some x) :
    w.cell? ⟨g, k * 3, none⟩ = some (.int .i64 x.1) ∧ w.cell? ⟨g, k * 3 + 1, none⟩ = some (.int .i64 x.2.1) ∧ w.cell? ⟨g, k * 3 + 2, none⟩ = some (.int .i64 x.2.2) ∧ w.frozen? ⟨g, k * 3, none⟩ = false ∧ w.frozen? ⟨g, k * 3 + 1, none⟩ = false ∧ w.frozen? ⟨g, k * 3 + 2, none⟩ = false := by
  have hn : n = ds.length := by
    obtain ⟨A, c', e⟩ := ownD_slice h
    injection e
  subst hn
  have hlt := (List.getElem?_eq_some_iff.1 hx).1
  obtain ⟨a0, a1, a2⟩ := dcells_at ds k x hx
  exact ⟨(World.ownsRow.cellAt h _ (by omega)).trans a0, (World.ownsRow.cellAt h _ (by omega)).trans a1, (World.ownsRow.cellAt h _ (by omega)).trans a2, World.ownsRow.frozenAt h _, World.ownsRow.frozenAt h _, World.ownsRow.frozenAt h _⟩
theorem take_all {ds : List DotA} {k : Nat} (h : ds.length ≤ k) : ds.take k = ds := List.take_of_length_le h

set_option maxRecDepth 100000 in
set_option maxHeartbeats 6400000 in
theorem compact_any (base : Nat) (v : Value) (ds : List DotA) (w : World) (ho : OwnD 44 w base v ds) (hl : ds.length ≤ 1099511627776) :
    Calls Try.prog 147 #[v] w (CompPost base v ds w) := by
  by_cases h2 : ds.length < 2
  · obtain ⟨A, c, hv⟩ := ownD_slice ho
    have HO := Lib.hid ho
    have HC := Lib.hid (compL_one (l := ds) (by omega))
    subst hv
    clear ho
    go_enter Try.func147, Try.ntmps147
    go_wp2
    go_ret
    exact ⟨_, rfl, by rw [HC.out]; exact HO.out, World.grownBy.refl w _, rfl⟩
  · obtain ⟨g, n, c, rfl⟩ : ∃ g n c, v = .slice (some ⟨g, 0, none⟩) n c := by
      rcases ho.2 with ⟨_, h0⟩ | ⟨g, c, _, e, _⟩
      · omega
      · exact ⟨g, _, c, e⟩
    have hgw := (World.ownsRow.lt ho g rfl).2
    have hnc : n = ds.length ∧ n ≤ c := by
      rcases ho.2 with ⟨e, _⟩ | ⟨g', cap, cur, e, _, _, hc, _⟩
      · cases e
      · injection e with e1 e2 e3
        omega
    have HN := Lib.hid hnc.1
    have hc := hnc.2
    have h2n : 2 ≤ n := by omega
    have hln : n ≤ 1099511627776 := by omega
    have HO := Lib.hid ho
    clear hnc ho h2 hl
    go_enter Try.func147, Try.ntmps147
    go_wp2
    go_loopg [3] n (fun m s3 wr => ∃ k : Nat, 1 ≤ k ∧ k ≤ n ∧ n - k ≤ m ∧ s3 = .int .i64 k ∧ Hid (Fresh ds k) ∧ Below w.heap.size w wr)
    case atStart => exact ⟨1, Nat.le_refl _, by omega, by omega, rfl, Lib.hid (Fresh.start ds), Below.refl _ _⟩
    case round =>
      obtain ⟨k, hk1, hk, hm, rfl, HF, hb⟩ := hrel
      have HB := Lib.hid hb
      by_cases hlt : k < n
      · obtain ⟨x, hx⟩ : ∃ x, ds[k]? = some x := ⟨ds[k]'(by have := HN.out; omega), List.getElem?_eq_getElem _⟩
        obtain ⟨y, hy⟩ : ∃ y, ds[k - 1]? = some y := ⟨ds[k - 1]'(by have := HN.out; omega), List.getElem?_eq_getElem _⟩
        obtain ⟨c0, c1, c2, _⟩ := (HO.out.below hb).cells3 hx
        obtain ⟨b0, b1, b2, _⟩ := (HO.out.below hb).cells3 hy
        have HX := Lib.hid hx
        have HY := Lib.hid hy
        have p0 := cell_regrown c0
        have p1 := cell_regrown c1
        have p2 := cell_regrown c2
        have j0 := cell_regrown b0
        have j1 := cell_regrown b1
        have j2 := cell_regrown b2
        have HBB : ∀ dq osq, Hid (Below w.heap.size w (grow (redrawn wr dq) osq)) := fun dq osq => Lib.hid (below_re hb dq osq)
        have hEq := dot_eq x y
        clear hx hy hb c0 c1 c2 b0 b1 b2
        by_cases hxy : x = y
        · have HC0 := Lib.hid (HF.out.dup hk1 HY.out HX.out hxy)
          have e1 : decide (x = y) = true := by simpa using hxy
          rw [e1] at hEq
          clear hxy e1
          go_upto_region 6 with fail
          refine wp_region_quiet_below (by kernel_rfl) (by kernel_rfl) ?_
          repeat (first | go_big_quiet_step (fail) | quiet_step (fail))
          refine wpQuiet_nil ?_
          intro _ hw'
          obtain ⟨⟨dq, osq⟩, hw''⟩ := hw'
          subst hw''
          have HX2 := HBB dq osq
          clear HBB p0 p1 p2 j0 j1 j2 hEq
          generalize grow (redrawn wr dq) osq = w2 at *
          go_wp2
          go_loopg [3, 5] n (fun m s3 s5 wr => ∃ (kk k2 : Nat) (L : List DotA), s3 = .int .i64 kk ∧ s5 = .int .i64 k2 ∧ 1 ≤ k2 ∧ k + k2 ≤ n ∧ n - (k + k2) ≤ m ∧ Hid (Comp ds (k + k2) kk L) ∧ Hid (OwnD 44 wr base (.slice (some ⟨g, 0, none⟩) n c) L) ∧ Hid (w.grownBy wr (some g)))
          case atStart => exact ⟨k, 1, ds, rfl, rfl, Nat.le_refl _, by omega, by omega, HC0, Lib.hid (HO.out.below HX2.out), Lib.hid (grown_of_below HX2.out _)⟩
          case round =>
            obtain ⟨kk, k2, L, rfl, rfl, h1, hle, hg2, HC, HOL, HGR⟩ := hrel
            have hkk := HC.out.lt
            have hLl := HC.out.len
            rw [← HN.out] at hLl
            have HLL := Lib.hid hLl
            by_cases hlt2 : k + k2 < n
            · obtain ⟨x2, hx2⟩ : ∃ x2, ds[k + k2]? = some x2 := ⟨ds[k + k2]'(by have := HN.out; omega), List.getElem?_eq_getElem _⟩
              obtain ⟨y2, hy2⟩ : ∃ y2, ds[k + k2 - 1]? = some y2 := ⟨ds[k + k2 - 1]'(by have := HN.out; omega), List.getElem?_eq_getElem _⟩
              obtain ⟨z2, hz2⟩ : ∃ z2, L[kk]? = some z2 := ⟨L[kk]'(by omega), List.getElem?_eq_getElem _⟩
              obtain ⟨c0, c1, c2, _⟩ := HOL.out.cells3 ((HC.out.high (k + k2) (by omega)).trans hx2)
              obtain ⟨b0, b1, b2, _⟩ := HOL.out.cells3 ((HC.out.high (k + k2 - 1) (by omega)).trans hy2)
              obtain ⟨o0, o1, o2, f0, f1, f2⟩ := HOL.out.cells3 hz2
              rw [Nat.add_mul] at c0 c1 c2
              rw [show k + k2 - 1 = k + (k2 - 1) by omega, Nat.add_mul] at b0 b1 b2
              have HX3 := Lib.hid hx2
              have HY3 := Lib.hid hy2
              have hNe := neDot x2 y2
              clear hLl
              by_cases hxy2 : x2 = y2
              · have HC3 := Lib.hid (HC.out.skip HY3.out HX3.out hxy2)
                have e1 : (!decide (x2 = y2)) = false := by simpa using hxy2
                rw [e1] at hNe
                have p0 := cell_regrown c0
                have p1 := cell_regrown c1
                have p2 := cell_regrown c2
                have j0 := cell_regrown b0
                have j1 := cell_regrown b1
                have j2 := cell_regrown b2
                have HBB : ∀ dq osq, Hid (Below wr.heap.size wr (grow (redrawn wr dq) osq)) := fun dq osq => Lib.hid (below_regrown wr dq osq)
                clear c0 c1 c2 b0 b1 b2 o0 o1 o2 f0 f1 f2
                go_upto_region 11 with fail
                refine wp_region_quiet_below (by kernel_rfl) (by kernel_rfl) ?_
                repeat (first | go_big_quiet_step (fail) | quiet_step (fail))
                refine wpQuiet_nil ?_
                intro _ hw'
                obtain ⟨⟨dq2, osq2⟩, hw''⟩ := hw'
                subst hw''
                have HX4 := HBB dq2 osq2
                clear HBB p0 p1 p2 j0 j1 j2 hNe
                generalize grow (redrawn wr dq2) osq2 = w3 at *
                have HOL3 := Lib.hid (HOL.out.below HX4.out)
                have HGR3 := Lib.hid (grown_trans HGR.out (grown_of_below HX4.out _))
                go_wp2
                go_roundg (n - (k + (k2 + 1)))
                case measure => omega
                case rel => exact ⟨kk, k2 + 1, L, rfl, by go_num, by omega, by omega, Nat.le_refl _, HC3, HOL3, HGR3⟩
              · have HC3 := Lib.hid (HC.out.keep HY3.out HX3.out hxy2)
                have e1 : (!decide (x2 = y2)) = true := by simpa using hxy2
                rw [e1] at hNe
                have p0 := cell_regrown c0
                have p1 := cell_regrown c1
                have p2 := cell_regrown c2
                have j0 := cell_regrown b0
                have j1 := cell_regrown b1
                have j2 := cell_regrown b2
                have HBB : ∀ dq osq, Hid (Below wr.heap.size wr (grow (redrawn wr dq) osq)) := fun dq osq => Lib.hid (below_regrown wr dq osq)
                have HZ := Lib.hid hz2
                have HV := Lib.hid ((HC.out.high (k + k2) (by omega)).trans hx2)
                clear c0 c1 c2 b0 b1 b2 o0 o1 o2 f0 f1 f2 hxy2 e1 hx2 hy2 hz2
                go_upto_region 11 with fail
                refine wp_region_quiet_below (by kernel_rfl) (by kernel_rfl) ?_
                repeat (first | go_big_quiet_step (fail) | quiet_step (fail))
                refine wpQuiet_nil ?_
                intro _ hw'
                obtain ⟨⟨dq2, osq2⟩, hw''⟩ := hw'
                subst hw''
                have HX4 := HBB dq2 osq2
                clear HBB p0 p1 p2 j0 j1 j2 hNe
                generalize grow (redrawn wr dq2) osq2 = w3 at *
                have HOL3 := Lib.hid (HOL.out.below HX4.out)
                have HGR3 := Lib.hid (grown_trans HGR.out (grown_of_below HX4.out _))
                obtain ⟨o0, o1, o2, f0, f1, f2⟩ := HOL3.out.cells3 HZ.out
                obtain ⟨c0, c1, c2, _⟩ := HOL3.out.cells3 HV.out
                rw [Nat.add_mul] at c0 c1 c2
                obtain ⟨hO5, hG5⟩ := HOL3.out.put x2 (k := kk) (by rw [HLL.out]; omega)
                have HO5 := Lib.hid hO5
                have HG5 := Lib.hid (grown_trans HGR3.out hG5)
                clear hO5 hG5
                go_wp2
                go_roundg (n - (k + (k2 + 1)))
                case measure => omega
                case rel => exact ⟨kk + 1, k2 + 1, L.set kk x2, by go_num, by go_num, by omega, by omega, Nat.le_refl _, HC3, HO5, HG5⟩
            · have hend : k + k2 = n := by omega
              obtain ⟨w', hcl, ho3, hg3⟩ := run_clear_dots Try.underlying42 Try.zeroValue44 wr (c' := c - kk) HOL.out (k := kk) (by rw [HLL.out]; omega)
              have HO3 : Hid (OwnD 44 w' base (.slice (some ⟨g, 0, none⟩) kk c) (compL ds)) := Lib.hid (by
                have hc := HC.out
                rw [hend, HN.out] at hc
                rw [← hc.done]
                exact ho3)
              have HG3 := Lib.hid (grown_trans HGR.out hg3)
              clear ho3 hg3 hend hLl
              go_wp2
              go_ret
              exact ⟨_, rfl, HO3.out, HG3.out, rfl⟩
        · have HF2 := Lib.hid (HF.out.next hk1 HY.out HX.out hxy)
          have e1 : decide (x = y) = false := by simpa using hxy
          rw [e1] at hEq
          clear hxy e1
          go_upto_region 6 with fail
          refine wp_region_quiet_below (by kernel_rfl) (by kernel_rfl) ?_
          repeat (first | go_big_quiet_step (fail) | quiet_step (fail))
          refine wpQuiet_nil ?_
          intro _ hw'
          obtain ⟨⟨dq, osq⟩, hw''⟩ := hw'
          subst hw''
          have HX2 := HBB dq osq
          clear HBB
          go_wp2
          go_roundg (n - (k + 1))
          case measure => omega
          case rel => exact ⟨k + 1, by omega, by omega, Nat.le_refl _, by go_num, HF2, HX2.out⟩
      · have hkn : k = n := by omega
        have HE : Hid (compL ds = ds) := Lib.hid (by have := HF.out; unfold Fresh at this; rwa [hkn, HN.out, List.take_length] at this)
        clear hb hkn
        go_wp2
        go_ret
        exact ⟨_, rfl, by rw [HE.out]; exact HO.out.below HB.out, grown_of_below HB.out _, rfl⟩
end Go.Proofs.Ytfplblhmeohhmaa
