/- Normal: its walk, given what gather makes of spans. -/
import Derived.Test.YtfplblhmeohhmaaCSorted
import Derived.Test.YtfplblhmeohhmaaCRefLeq
import Derived.OwnWalk
namespace Go.Proofs.Ytfplblhmeohhmaa
open Go.RowKit Go.Sort Go.BigFrame
open Go.Lib (byteCells byteCells_length)

def spanM (m : DotA) : SpanA := (1, m)
def spanD (d : DotA) : SpanA := (d.2.2, d)
/-- What gather answers: it may turn the row of its spans. -/
def GatherPost (base : Nat) (ss : List SpanA) (w : World) (e : Ending) (w' : World) : Prop :=
  ∃ ms ds mv dv, e = .returned (.agg #[mv, dv]) ∧ OwnD 55 w' w.heap.size mv ms ∧ OwnD 44 w' w.heap.size dv ds ∧ Canon ms ds ∧ (∀ x : DotA, 1 ≤ x.2.2 → (InC ms ds x ↔ ∃ s ∈ ss, Spans s x)) ∧ Below base w w'
def GatherSpec : Prop := ∀ (base : Nat) (v : Value) (ss : List SpanA) (w : World), OwnS 156 w base v ss → (∃ g, _root_.Go.Value.ownBlock v = some g) → base ≤ w.heap.size → ss.length ≤ 2097152 → (∀ s ∈ ss, OkS s) → Calls Try.prog 118 #[v] w (GatherPost base ss w)
def allS (ms ds : List DotA) : List SpanA := ms.map spanM ++ ds.map spanD
theorem spans_tot {ms ds : List DotA} {x : DotA} (hx : 1 ≤ x.2.2) : (∃ s ∈ allS ms ds, Spans s x) ↔ Tot ms ds x := by
  unfold allS Tot Spans
  constructor
  · rintro ⟨s, hs, e1, e2, e3⟩
    rcases List.mem_append.1 hs with hs | hs
    · obtain ⟨m, hm, rfl⟩ := List.mem_map.1 hs
      exact .inl ⟨m, hm, e1, e3⟩
    · obtain ⟨d, hd, rfl⟩ := List.mem_map.1 hs
      refine .inr ?_
      have : x = d := by
        obtain ⟨x1, x2, x3⟩ := x
        obtain ⟨d1, d2, d3⟩ := d
        simp only [spanD, actOf, Prod.mk.injEq] at *
        omega
      rw [this]; exact hd
  · rintro (⟨m, hm, e1, e2⟩ | hd)
    · exact ⟨spanM m, List.mem_append_left _ (List.mem_map_of_mem hm), e1, hx, e2⟩
    · exact ⟨spanD x, List.mem_append_right _ (List.mem_map_of_mem hd), rfl, Int.le_refl _, Int.le_refl _⟩
theorem allS_may {ms ds : List DotA} : (∀ s ∈ allS ms ds, mayB s.2 = true) ↔ AllMay ms ∧ AllMay ds := by
  unfold allS AllMay
  constructor
  · intro h
    exact ⟨fun m hm => h (spanM m) (List.mem_append_left _ (List.mem_map_of_mem hm)), fun d hd => h (spanD d) (List.mem_append_right _ (List.mem_map_of_mem hd))⟩
  · rintro ⟨h1, h2⟩ s hs
    rcases List.mem_append.1 hs with hs | hs
    · obtain ⟨m, hm, rfl⟩ := List.mem_map.1 hs
      exact h1 m hm
    · obtain ⟨d, hd, rfl⟩ := List.mem_map.1 hs
      exact h2 d hd
theorem allS_ok {ms ds : List DotA} (h : AllMay ms ∧ AllMay ds) : ∀ s ∈ allS ms ds, OkS s := fun s hs => by
  refine ⟨allS_may.2 h s hs, ?_⟩
  rcases List.mem_append.1 hs with hs | hs
  · obtain ⟨m, _, rfl⟩ := List.mem_map.1 hs
    exact .inl rfl
  · obtain ⟨d, _, rfl⟩ := List.mem_map.1 hs
    exact .inr rfl
theorem allS_len (ms ds : List DotA) : (allS ms ds).length = ms.length + ds.length := by simp [allS]

set_option maxRecDepth 100000 in
set_option maxHeartbeats 6400000 in
theorem normal_any (HGS : GatherSpec) (v vd : Value) (ms ds : List DotA) (w : World) (hm : RdD w v ms) (hd : RdD w vd ds) (hlm : ms.length ≤ 1048576) (hld : ds.length ≤ 1048576) :
    Calls Try.prog 74 #[v, vd] w (NormPost ms ds w) := by
  obtain ⟨W, hW⟩ : ∃ W, Hid (W = w.alloc (.cells #[.slice none 0 0, .slice none 0 0] 48)) := ⟨_, Lib.hid rfl⟩
  have hb0 : Below w.heap.size w W := by rw [hW.out]; exact (Below.refl _ _).alloc (Nat.le_refl _) _
  have hlt0 : w.heap.size < W.heap.size := by rw [hW.out]; simp
  have hrow : W.heap[w.heap.size]? = some (.cells #[.slice none 0 0, .slice none 0 0] 48 (0, 0)) := by rw [hW.out]; exact heap_alloc_new w _
  have HROW := Lib.hid hrow
  have HB0 := Lib.hid hb0
  obtain ⟨A, c, rfl, hc, hx⟩ := hm
  obtain ⟨A1, c1, rfl, hc1, hx1⟩ := hd
  have HX := Lib.hid (hx.below hb0 (Nat.le_refl _))
  have HX1 := Lib.hid (hx1.below hb0 (Nat.le_refl _))
  obtain ⟨n, hn⟩ : ∃ n, Hid (n = ms.length) := ⟨_, Lib.hid rfl⟩
  obtain ⟨n1, hn1⟩ : ∃ n1, Hid (n1 = ds.length) := ⟨_, Lib.hid rfl⟩
  rw [← hn.out] at hlm hc ⊢
  rw [← hn1.out] at hld hc1 ⊢
  have hsW : w.heap.size ≤ W.heap.size := Nat.le_of_lt hlt0
  have hsum : IntKind.i64.wrap ((n : Int) + (n1 : Int)) = ((n + n1 : Nat) : Int) := by rw [IntWalk.i64_in _ (by omega)]; omega
  obtain ⟨i0, hi0, hz0, hz1, hz2⟩ := info_parts infoSpan
  have hWe := hW.out.symm
  clear hb0 hx hx1 hrow
  go_enter Try.func74, Try.ntmps74
  go_upto_region 1 with fail
  clear hWe
  go_wp2_with (at_make; go_must (refine wpList_make_own _ rfl _ _ 154 rfl W.heap.size 156 i0 _ 4 Try.underlying154 hi0 hz0 hz1 _ _ _ (n + n1) rfl rfl (by omega) (by rw [hz2]; omega) (by unfold maxLen; omega) (Nat.le_refl _) ?_))
  intro w1 ho1 hg1
  have HB1 : Hid (Below W.heap.size W w1) := Lib.hid ⟨hg1.os, hg1.tape, hg1.output, hg1.size, fun k hk => hg1.block k hk (by simp)⟩
  have HO1 : Hid (OwnS 156 w1 W.heap.size (.slice (some ⟨W.heap.size, 0, none⟩) 0 (n + n1)) []) := Lib.hid ho1
  clear ho1 hg1 hi0 hz0 hz1 hz2
  go_wp2
  go_loopw [20, 6] (fun i out wr => ∃ (k : Nat), k ≤ n ∧ i = .int .i64 k ∧ Hid (OwnS 156 wr W.heap.size out ((ms.take k).map spanM)) ∧ Hid (∃ g, _root_.Go.Value.ownBlock out = some g) ∧ Below W.heap.size W wr) (fun i _ _ => n - (intOf i).toNat)
  case atStart => exact ⟨0, Nat.zero_le _, rfl, Lib.hid (by simpa using HO1.out), Lib.hid ⟨_, rfl⟩, HB1.out⟩
  case round =>
    obtain ⟨k, hk, rfl, HO, HNB, hb⟩ := hrel
    have HB := Lib.hid hb
    have hbs := hb.size
    have hxr := HX.out.below hb hsW
    by_cases hlt : k < n
    · obtain ⟨x, hdk⟩ : ∃ x, ms[k]? = some x := ⟨ms[k]'(by have := hn.out; omega), List.getElem?_eq_getElem _⟩
      obtain ⟨ad, rfl, hadlt, hda⟩ := hxr k x hdk
      obtain ⟨d0, d1, d2⟩ := hda
      have HT : Hid ((ms.take (k + 1)).map spanM = (ms.take k).map spanM ++ [(1, x)]) := Lib.hid (by rw [take_at hdk, List.map_append]; rfl)
      clear hdk hxr hb
      obtain ⟨W2, hW2⟩ : ∃ W2, Hid (W2 = wr.alloc (.cells #[.int .i64 x.1, .int .i64 x.2.1, .int .i64 x.2.2] 55)) := ⟨_, Lib.hid rfl⟩
      have hbA : Below wr.heap.size wr W2 := by rw [hW2.out]; exact (Below.refl _ _).alloc (Nat.le_refl _) _
      have g0 : W2.cell? ⟨wr.heap.size, 0, none⟩ = some (.int .i64 x.1) := by rw [hW2.out]; exact box_cell _ _ _ 0
      have g1 : W2.cell? ⟨wr.heap.size, 1, none⟩ = some (.int .i64 x.2.1) := by rw [hW2.out]; exact box_cell _ _ _ 1
      have g2 : W2.cell? ⟨wr.heap.size, 2, none⟩ = some (.int .i64 x.2.2) := by rw [hW2.out]; exact box_cell _ _ _ 2
      have hzW2 : wr.heap.size < W2.heap.size := by rw [hW2.out]; simp
      have HB2 := Lib.hid (HB.out.trans (hbA.mono hbs))
      have HO2 := Lib.hid (HO.out.below hbA)
      have HROWS := Lib.hid (World.ownsRow.lt HO.out)
      have hol : ((ms.take k).map spanM).length ≤ 1099511627776 := by
        have := List.length_take_le k ms
        rw [List.length_map]; omega
      have hbz : W.heap.size ≤ W2.heap.size := by omega
      have hWe2 := hW2.out.symm
      clear hbA
      go_upto_region 5 with fail
      clear hWe2
      go_wp2_with (at_builtin; go_must (refine wpList_append_span (v := u6) Try.underlying154 infoSpan _ rfl (.tmp 24) (.tmp 27) rfl (1, x) (by rfl) (by rfl) HO2.out hol hbz ?_))
      intro v5 w5 ho5 hg5 ht5
      have HB5 : Hid (Below W.heap.size W w5) := Lib.hid (HB2.out.grown hg5 hbz (fun g e => (HROWS.out g e).1))
      have HO5 : Hid (OwnS 156 w5 W.heap.size v5 ((ms.take (k + 1)).map spanM)) := Lib.hid (by rw [HT.out]; simpa [List.map_take] using ho5)
      have HNB5 : Hid (∃ g, _root_.Go.Value.ownBlock v5 = some g) := Lib.hid (by
        rcases ht5 with h | ⟨g, h, _⟩
        · rw [h]; exact HNB.out
        · exact ⟨g, h⟩)
      clear ho5 hg5 ht5 g0 g1 g2
      go_wp2
      go_roundw
      case rel => exact ⟨k + 1, by omega, by go_num, HO5, HNB5, HB5.out⟩
      case measure => simp [intOf]; omega
    · have hkn : k = n := by omega
      have HO3 : Hid (OwnS 156 wr W.heap.size u6 (ms.map spanM ++ (ds.take 0).map spanD)) := Lib.hid (by have := HO.out; rw [hkn, hn.out, List.take_length] at this; simpa using this)
      clear hxr hb HO hkn
      go_wp2
      clear hlt
      obtain ⟨wa, hwa⟩ : ∃ wa : World, wa = wr := ⟨_, rfl⟩
      subst hwa
      go_loopw [32, 6] (fun i out wr => ∃ (k : Nat), k ≤ n1 ∧ i = .int .i64 k ∧ Hid (OwnS 156 wr W.heap.size out (ms.map spanM ++ (ds.take k).map spanD)) ∧ Hid (∃ g, _root_.Go.Value.ownBlock out = some g) ∧ Below W.heap.size W wr) (fun i _ _ => n1 - (intOf i).toNat)
      case atStart => exact ⟨0, Nat.zero_le _, rfl, HO3, HNB, HB.out⟩
      case round =>
        obtain ⟨k2, hk2, rfl, HO, HNB, hb⟩ := hrel
        have HBB := Lib.hid hb
        have hbs2 := hb.size
        have hxr := HX1.out.below hb hsW
        by_cases hlt2 : k2 < n1
        · obtain ⟨x, hdk⟩ : ∃ x, ds[k2]? = some x := ⟨ds[k2]'(by have := hn1.out; omega), List.getElem?_eq_getElem _⟩
          obtain ⟨ad, rfl, hadlt, hda⟩ := hxr k2 x hdk
          obtain ⟨d0, d1, d2⟩ := hda
          have HT : Hid (ms.map spanM ++ (ds.take (k2 + 1)).map spanD = (ms.map spanM ++ (ds.take k2).map spanD) ++ [(x.2.2, x)]) := Lib.hid (by rw [take_at hdk, List.map_append, List.append_assoc]; rfl)
          clear hdk hxr hb
          obtain ⟨W2, hW2⟩ : ∃ W2, Hid (W2 = wr.alloc (.cells #[.int .i64 x.1, .int .i64 x.2.1, .int .i64 x.2.2] 44)) := ⟨_, Lib.hid rfl⟩
          have hbA : Below wr.heap.size wr W2 := by rw [hW2.out]; exact (Below.refl _ _).alloc (Nat.le_refl _) _
          have g0 : W2.cell? ⟨wr.heap.size, 0, none⟩ = some (.int .i64 x.1) := by rw [hW2.out]; exact box_cell _ _ _ 0
          have g1 : W2.cell? ⟨wr.heap.size, 1, none⟩ = some (.int .i64 x.2.1) := by rw [hW2.out]; exact box_cell _ _ _ 1
          have g2 : W2.cell? ⟨wr.heap.size, 2, none⟩ = some (.int .i64 x.2.2) := by rw [hW2.out]; exact box_cell _ _ _ 2
          have hzW2 : wr.heap.size < W2.heap.size := by rw [hW2.out]; simp
          have HB2 := Lib.hid (HBB.out.trans (hbA.mono hbs2))
          have HO2 := Lib.hid (HO.out.below hbA)
          have HROWS := Lib.hid (World.ownsRow.lt HO.out)
          have hol : (ms.map spanM ++ (ds.take k2).map spanD).length ≤ 1099511627776 := by
            have := List.length_take_le k2 ds
            have := hn.out
            rw [List.length_append, List.length_map, List.length_map]; omega
          have hbz : W.heap.size ≤ W2.heap.size := by omega
          have hWe2 := hW2.out.symm
          clear hbA
          go_upto_region 10 with fail
          clear hWe2
          go_wp2_with (at_builtin; go_must (refine wpList_append_span (v := u6) Try.underlying154 infoSpan _ rfl (.tmp 36) (.tmp 41) rfl (x.2.2, x) (by rfl) (by rfl) HO2.out hol hbz ?_))
          intro v5 w5 ho5 hg5 ht5
          have HB5 : Hid (Below W.heap.size W w5) := Lib.hid (HB2.out.grown hg5 hbz (fun g e => (HROWS.out g e).1))
          have HO5 : Hid (OwnS 156 w5 W.heap.size v5 (ms.map spanM ++ (ds.take (k2 + 1)).map spanD)) := Lib.hid (by rw [HT.out]; simpa [List.map_take] using ho5)
          have HNB5 : Hid (∃ g, _root_.Go.Value.ownBlock v5 = some g) := Lib.hid (by
            rcases ht5 with h | ⟨g, h, _⟩
            · rw [h]; exact HNB.out
            · exact ⟨g, h⟩)
          clear ho5 hg5 ht5 g0 g1 g2
          go_wp2
          go_roundw
          case rel => exact ⟨k2 + 1, by omega, by go_num, HO5, HNB5, HB5.out⟩
          case measure => simp [intOf]; omega
        · have hkn2 : k2 = n1 := by omega
          have HO4 : Hid (OwnS 156 wr W.heap.size u6 (allS ms ds)) := Lib.hid (by have := HO.out; rw [hkn2, hn1.out, List.take_length] at this; exact this)
          have hlen : (allS ms ds).length ≤ 2097152 := by rw [allS_len, ← hn.out, ← hn1.out]; omega
          have HLEN := Lib.hid hlen
          have HWR := Lib.hid (anyWrong_any u6 (allS ms ds) wr HO4.out.rd (by omega))
          clear hxr hb HO hkn2 hlen
          go_upto_region 12 with fail
          clear hlt2
          go_wp2_with fail
          (with_reducible refine HWR.out.mono ?_); rintro e w2 ⟨b, rfl, hbi, hb2⟩
          have HB2 := Lib.hid (HBB.out.trans (hb2.mono hbs2))
          have r2 := (HB2.out.block _ hlt0).trans HROW.out
          have HO5 := Lib.hid (HO4.out.below hb2)
          have HBI := Lib.hid hbi
          clear hbi hb2 HWR
          cases b with
          | true =>
            have HNO : Hid (¬ (AllMay ms ∧ AllMay ds)) := Lib.hid (fun h => HBI.out.1 rfl (allS_may.2 h))
            have q0 : w2.cell? ⟨w.heap.size, 0, none⟩ = some (.slice none 0 0) := cell_of_row w2 _ 0 _ _ (0, 0) r2
            have q1 : w2.cell? ⟨w.heap.size, 1, none⟩ = some (.slice none 0 0) := cell_of_row w2 _ 1 _ _ (0, 0) r2
            have f0 : w2.frozen? ⟨w.heap.size, 0, none⟩ = false := frozen_of_row w2 _ 0 _ _ r2
            have f1 : w2.frozen? ⟨w.heap.size, 1, none⟩ = false := frozen_of_row w2 _ 1 _ _ r2
            have HR2 := Lib.hid r2
            clear r2
            go_wp2
            have hr := Joins.block_setCell (Joins.block_setCell HR2.out (i := 0) (.slice none 0 0)) (i := 1) (.slice none 0 0)
            have g0 := cell_of_row _ _ 0 _ _ (0, 0) hr
            have g1 := cell_of_row _ _ 1 _ _ (0, 0) hr
            refine bodyPost_ret (v := .tuple #[nilC, .int .i64 1]) (by simp [results, Try.results74, go_sem, nilC, g0, g1]) rfl ⟨?_, .inl ⟨HNO.out, rfl⟩⟩
            exact ((HB0.out.trans (HB2.out.mono hsW)).setCell (Nat.le_refl _) _).setCell (Nat.le_refl _) _
          | false =>
            have HMAY : Hid (AllMay ms ∧ AllMay ds) := Lib.hid (by
              by_cases h : AllMay ms ∧ AllMay ds
              · exact h
              · exact absurd (HBI.out.2 fun h2 => h (allS_may.1 h2)) (by simp))
            have HGA := Lib.hid (HGS W.heap.size u6 (allS ms ds) w2 HO5.out HNB.out HB2.out.size HLEN.out (allS_ok HMAY.out))
            have hs2 := HB2.out.size
            clear r2
            go_upto_region 14 with fail
            go_wp2_with fail
            (with_reducible refine HGA.out.mono ?_); rintro e w3 ⟨ms2, ds2, mv, dv, rfl, hom, hod, hcan, hsame, hb3⟩
            obtain ⟨A2, c2, rfl⟩ := ownD_slice hom
            obtain ⟨A3, c3, rfl⟩ := ownD_slice hod
            obtain ⟨l2, hl2⟩ : ∃ l2, Hid (l2 = ms2.length) := ⟨_, Lib.hid rfl⟩
            obtain ⟨l3, hl3⟩ : ∃ l3, Hid (l3 = ds2.length) := ⟨_, Lib.hid rfl⟩
            rw [← hl2.out] at hom ⊢
            rw [← hl3.out] at hod ⊢
            have HCAN := Lib.hid hcan
            have HTOT : Hid (∀ x : DotA, 1 ≤ x.2.2 → (InC ms2 ds2 x ↔ Tot ms ds x)) := Lib.hid (fun x hx => (hsame x hx).trans (spans_tot hx))
            obtain ⟨W4, hW4⟩ : ∃ W4, Hid (W4 = w3.alloc (.cells #[.slice A2 l2 c2, .slice A3 l3 c3] 48)) := ⟨_, Lib.hid rfl⟩
            have hb4 : Below w3.heap.size w3 W4 := by rw [hW4.out]; exact (Below.refl _ _).alloc (Nat.le_refl _) _
            have k0 : W4.cell? ⟨w3.heap.size, 0, none⟩ = some (.slice A2 l2 c2) := by rw [hW4.out]; exact box_cell _ _ _ 0
            have k1 : W4.cell? ⟨w3.heap.size, 1, none⟩ = some (.slice A3 l3 c3) := by rw [hW4.out]; exact box_cell _ _ _ 1
            have hzW4 : w3.heap.size < W4.heap.size := by rw [hW4.out]; simp
            have hs3 := hb3.size
            have HB4 : Hid (Below W.heap.size W W4) := Lib.hid ((HB2.out.trans hb3).trans (hb4.mono (by omega)))
            have HM4 := Lib.hid (hom.below hb4)
            have HD4 := Lib.hid (hod.below hb4)
            have HTL := Lib.hid (tooLong_any A3 A2 l3 c3 l2 c2 W4)
            have hWe4 := hW4.out.symm
            clear hom hod hcan hsame hb3 hb4 HGA
            go_upto_region 15 with fail
            clear hWe4
            go_wp2_with fail
            (with_reducible refine HTL.out.mono ?_); rintro e w5 ⟨rfl, hb5⟩
            have HB5 := Lib.hid (HB4.out.trans (hb5.mono HB4.out.size))
            have HM5 := Lib.hid (HM4.out.below hb5)
            have HD5 := Lib.hid (HD4.out.below hb5)
            have j0 := (hb5.cell (p := ⟨w3.heap.size, 0, none⟩) hzW4).trans k0
            have j1 := (hb5.cell (p := ⟨w3.heap.size, 1, none⟩) hzW4).trans k1
            have r1 := (HB5.out.block _ hlt0).trans HROW.out
            have q0 : w5.cell? ⟨w.heap.size, 0, none⟩ = some (.slice none 0 0) := cell_of_row w5 _ 0 _ _ (0, 0) r1
            have q1 : w5.cell? ⟨w.heap.size, 1, none⟩ = some (.slice none 0 0) := cell_of_row w5 _ 1 _ _ (0, 0) r1
            have f0 : w5.frozen? ⟨w.heap.size, 0, none⟩ = false := frozen_of_row w5 _ 0 _ _ r1
            have f1 : w5.frozen? ⟨w.heap.size, 1, none⟩ = false := frozen_of_row w5 _ 1 _ _ r1
            have HR1 := Lib.hid r1
            have hw2s : w.heap.size < w2.heap.size := by omega
            have ap2 : Apart w.heap.size (.slice A2 l2 c2) := fun g e => by have := (World.ownsRow.lt HM5.out g e).1; omega
            have ap3 : Apart w.heap.size (.slice A3 l3 c3) := fun g e => by have := (World.ownsRow.lt HD5.out g e).1; omega
            have HAP := Lib.hid ap2
            have HAQ := Lib.hid ap3
            clear k0 k1 hb5 r1 HTL ap2 ap3
            by_cases hlong : l2 ≤ 64 ∧ l3 ≤ 64
            · have hL : longB l2 l3 = false := by unfold longB; simp; omega
              have HLO := Lib.hid hlong
              rw [hL]
              clear hlong hL
              go_wp2
              have hr := Joins.block_setCell (Joins.block_setCell HR1.out (i := 0) (.slice A2 l2 c2)) (i := 1) (.slice A3 l3 c3)
              have p0 := cell_of_row _ _ 0 _ _ (0, 0) hr
              have p1 := cell_of_row _ _ 1 _ _ (0, 0) hr
              refine bodyPost_ret (v := .tuple #[.agg #[.slice A2 l2 c2, .slice A3 l3 c3], .int .i64 0]) (by simp [results, Try.results74, go_sem, p0, p1]) rfl ⟨?_, .inr ⟨HMAY.out.1, HMAY.out.2, ms2, ds2, HCAN.out, HTOT.out, .inr ⟨?_, ?_, _, _, rfl, ?_, ?_⟩⟩⟩
              · exact ((HB0.out.trans (HB5.out.mono hsW)).setCell (Nat.le_refl _) _).setCell (Nat.le_refl _) _
              · rw [← hl2.out]; exact HLO.out.1
              · rw [← hl3.out]; exact HLO.out.2
              · exact ((HM5.out.setOther HAP.out _).setOther HAP.out _).base_le (by omega)
              · exact ((HD5.out.setOther HAQ.out _).setOther HAQ.out _).base_le (by omega)
            · have hL : longB l2 l3 = true := by unfold longB; simp; omega
              have HNL : Hid (¬ (ms2.length ≤ 64 ∧ ds2.length ≤ 64)) := Lib.hid (by rw [← hl2.out, ← hl3.out]; exact hlong)
              rw [hL]
              clear hlong hL
              go_wp2
              have hr := Joins.block_setCell (Joins.block_setCell HR1.out (i := 0) (.slice none 0 0)) (i := 1) (.slice none 0 0)
              have p0 := cell_of_row _ _ 0 _ _ (0, 0) hr
              have p1 := cell_of_row _ _ 1 _ _ (0, 0) hr
              refine bodyPost_ret (v := .tuple #[nilC, .int .i64 4]) (by simp [results, Try.results74, go_sem, nilC, p0, p1]) rfl ⟨?_, .inr ⟨HMAY.out.1, HMAY.out.2, ms2, ds2, HCAN.out, HTOT.out, .inl ⟨HNL.out, rfl⟩⟩⟩
              exact ((HB0.out.trans (HB5.out.mono hsW)).setCell (Nat.le_refl _) _).setCell (Nat.le_refl _) _
end Go.Proofs.Ytfplblhmeohhmaa
