/- settled, by the document: its walk. -/
import Derived.Test.YtnlohijpcnoamaaCMath
import Derived.Lib.SmallJoins
namespace Go.Proofs.Ytnlohijpcnoamaa
open Go.RowKit Go.Sort Go.BigFrame
open Go.Lib (byteCells byteCells_length)

/-- The one form of a context, without its limits. -/
def Canon (ms ds : List DotA) : Prop := OkM ms ∧ RiseD ds ∧ ∀ d ∈ ds, mayB d = true ∧ markOf ms (actOf d) + 1 < d.2.2
/-- In the midst of the settling. -/
structure Sett (ms ds ms1 ds1 : List DotA) (ag : Bool) : Prop where
  ok : OkM ms1
  rise : RiseD ds1
  may : ∀ d ∈ ds1, mayB d = true
  same : ∀ x : DotA, 1 ≤ x.2.2 → (InC ms1 ds1 x ↔ InC ms ds x)
  len : ms1.length + ds1.length ≤ ms.length + ds.length
  fin : ag = false → ∀ d ∈ ds1, markOf ms1 (actOf d) + 1 < d.2.2
theorem Sett.next {ms ds ms0 ds0 ms1 lf : List DotA} {ag ag2 : Bool} (h : Sett ms ds ms0 ds0 ag) (p : Pass ms0 ds0 ms1 lf ds0.length ag2) : Sett ms ds ms1 lf ag2 := by
  have hsub : lf.Sublist ds0 := by have := p.sub; rwa [List.take_length] at this
  refine ⟨p.ok, h.rise.sublist hsub, fun d hd => h.may d (hsub.subset hd), fun x hx => ?_, by have := p.len; have := h.len; omega, fun e d hd => ?_⟩
  · have := p.same x hx
    rw [List.drop_length, List.append_nil] at this
    rw [this, h.same x hx]
  · obtain ⟨e1, e2⟩ := p.still e
    rw [e1]; exact e2 d hd
def settM : Value → Value → Nat
  | .slice _ n _, .bool true => n + 1
  | _, _ => 0
def SettPost (base : Nat) (ms ds : List DotA) (w : World) (e : Ending) (w' : World) : Prop :=
  ∃ ms1 ds1 mv dv, e = .returned (.agg #[mv, dv]) ∧ OwnD 53 w' base mv ms1 ∧ OwnD 55 w' base dv ds1 ∧ Canon ms1 ds1 ∧ (∀ x : DotA, 1 ≤ x.2.2 → (InC ms1 ds1 x ↔ InC ms ds x)) ∧ ms1.length + ds1.length ≤ ms.length + ds.length ∧ Below w.heap.size w w'
theorem ownD_of_block {T : TypeId} {w w' : World} {base : Nat} {v : Value} {ds : List DotA} (h : OwnD T w base v ds) (hs : ∀ g, _root_.Go.Value.ownBlock v = some g → w'.heap[g]? = w.heap[g]?) : OwnD T w' base v ds := by
  obtain ⟨h1, h2⟩ := h
  refine ⟨h1, ?_⟩
  rcases h2 with h2 | ⟨g, cap, cur, rfl, hb, hg, hr⟩
  · exact .inl h2
  · exact .inr ⟨g, cap, cur, rfl, hb, (hs g rfl).trans hg, hr⟩
theorem ownD_slice {T : TypeId} {w : World} {base : Nat} {v : Value} {ds : List DotA} (h : OwnD T w base v ds) : ∃ A c, v = .slice A ds.length c := by
  rcases h.2 with ⟨rfl, h0⟩ | ⟨g, cap, cur, rfl, _⟩
  · exact ⟨none, 0, by rw [h0]⟩
  · exact ⟨_, _, rfl⟩
def Apart (g : Nat) (a : Value) : Prop := ∀ k, _root_.Go.Value.ownBlock a = some k → k ≠ g
theorem OwnD.setOther {T : TypeId} {w : World} {base : Nat} {v : Value} {ds : List DotA} (h : OwnD T w base v ds) {g i : Nat} (ha : Apart g v) (u : Value) : OwnD T (w.setCell ⟨g, i, none⟩ u) base v ds :=
  ownD_of_block h fun k hk => Below.heap_setCell w ⟨g, i, none⟩ u k (ha k hk)

set_option maxRecDepth 100000 in
set_option maxHeartbeats 12800000 in
theorem settled_ref (base : Nat) (mv dv : Value) (ms ds : List DotA) (w : World) (hbase : base ≤ w.heap.size) (hm : OwnD 53 w base mv ms) (hd : OwnD 55 w base dv ds) (hok : OkM ms) (hri : RiseD ds) (hmay : ∀ d ∈ ds, mayB d = true) (hl : ms.length + ds.length ≤ 104857600) :
    Calls Try.prog 56 #[mv, dv] w (SettPost base ms ds w) := by
  obtain ⟨W, hW⟩ : ∃ W, Hid (W = w.alloc (.cells #[.slice none 0 0, .slice none 0 0] 25)) := ⟨_, Lib.hid rfl⟩
  have hb0 : Below w.heap.size w W := by rw [hW.out]; exact (Below.refl _ _).alloc (Nat.le_refl _) _
  have hlt0 : w.heap.size < W.heap.size := by rw [hW.out]; simp
  have hrow : W.heap[w.heap.size]? = some (.cells #[.slice none 0 0, .slice none 0 0] 25 (0, 0)) := by rw [hW.out]; exact heap_alloc_new w _
  have HROW := Lib.hid hrow
  have HB0 := Lib.hid hb0
  have HM0 := Lib.hid (hm.below hb0)
  have HD0 := Lib.hid (hd.below hb0)
  have HA0 : Hid (Apart w.heap.size mv ∧ Apart w.heap.size dv) := Lib.hid ⟨fun k e => by have := (World.ownsRow.lt hm k e).2; omega, fun k e => by have := (World.ownsRow.lt hd k e).2; omega⟩
  have HST : Hid (Sett ms ds ms ds true) := Lib.hid ⟨hok, hri, hmay, fun x _ => Iff.rfl, Nat.le_refl _, fun e => by cases e⟩
  have hWe := hW.out.symm
  clear hb0 hm hd hok hri hmay hrow
  go_enter Try.func56, Try.ntmps56
  go_wp2
  clear hWe
  go_loopw [0, 1, 5] (fun s0 s1 s5 wr => ∃ (ms1 ds1 : List DotA) (ag : Bool), s5 = .bool ag ∧ Hid (OwnD 53 wr base s0 ms1) ∧ Hid (OwnD 55 wr base s1 ds1) ∧ Hid (Apart w.heap.size s0 ∧ Apart w.heap.size s1) ∧ Hid (Sett ms ds ms1 ds1 ag) ∧ Below W.heap.size W wr) (fun s0 s1 s5 _ => settM s1 s5)
  case atStart => exact ⟨ms, ds, true, rfl, HM0, HD0, HA0, HST, Below.refl _ _⟩
  case round =>
    obtain ⟨ms1, ds1, ag, rfl, HM1, HD1, HA1, HS1, hbw⟩ := hrel
    have HBW := Lib.hid hbw
    obtain ⟨A, c, rfl⟩ := ownD_slice HD1.out
    cases ag with
    | false =>
      obtain ⟨A1, c1, rfl⟩ := ownD_slice HM1.out
      have r1 := (hbw.block _ hlt0).trans HROW.out
      have q0 : wr.cell? ⟨w.heap.size, 0, none⟩ = some (.slice none 0 0) := cell_of_row wr _ 0 _ _ (0, 0) r1
      have q1 : wr.cell? ⟨w.heap.size, 1, none⟩ = some (.slice none 0 0) := cell_of_row wr _ 1 _ _ (0, 0) r1
      have f0 : wr.frozen? ⟨w.heap.size, 0, none⟩ = false := frozen_of_row wr _ 0 _ _ r1
      have f1 : wr.frozen? ⟨w.heap.size, 1, none⟩ = false := frozen_of_row wr _ 1 _ _ r1
      obtain ⟨W2, hW2⟩ : ∃ W2, Hid (W2 = (wr.setCell ⟨w.heap.size, 0, none⟩ (.slice A1 ms1.length c1)).setCell ⟨w.heap.size, 1, none⟩ (.slice A ds1.length c)) := ⟨_, Lib.hid rfl⟩
      have HE2 : Hid (OwnD 53 W2 base (.slice A1 ms1.length c1) ms1 ∧ OwnD 55 W2 base (.slice A ds1.length c) ds1 ∧ Below w.heap.size w W2) := Lib.hid (by
        rw [hW2.out]
        refine ⟨(HM1.out.setOther HA1.out.1 _).setOther HA1.out.1 _, (HD1.out.setOther HA1.out.2 _).setOther HA1.out.2 _, ?_⟩
        exact ((HB0.out.trans (HBW.out.mono (Nat.le_of_lt hlt0))).setCell (Nat.le_refl _) _).setCell (Nat.le_refl _) _)
      have g0 : W2.cell? ⟨w.heap.size, 0, none⟩ = some (.slice A1 ms1.length c1) := by
        have hr := Joins.block_setCell (Joins.block_setCell r1 (i := 0) (.slice A1 ms1.length c1)) (i := 1) (.slice A ds1.length c)
        rw [hW2.out]; exact cell_of_row _ _ 0 _ _ (0, 0) hr
      have g1 : W2.cell? ⟨w.heap.size, 1, none⟩ = some (.slice A ds1.length c) := by
        have hr := Joins.block_setCell (Joins.block_setCell r1 (i := 0) (.slice A1 ms1.length c1)) (i := 1) (.slice A ds1.length c)
        rw [hW2.out]; exact cell_of_row _ _ 1 _ _ (0, 0) hr
      clear hbw r1
      go_wp2
      obtain ⟨HX1, HX2, HX3⟩ := HE2.out
      rw [hW2.out] at g0 g1 HX1 HX2 HX3
      refine bodyPost_ret (v := .agg #[.slice A1 ms1.length c1, .slice A ds1.length c]) (by simp [results, Try.results56, go_sem, g0, g1]) rfl ⟨ms1, ds1, _, _, rfl, HX1, HX2, ⟨HS1.out.ok, HS1.out.rise, fun d hd => ⟨HS1.out.may d hd, HS1.out.fin rfl d hd⟩⟩, HS1.out.same, HS1.out.len, HX3⟩
    | true =>
      have hx : RdDA wr wr.heap.size A ds1 := by
        obtain ⟨A', c', e, hc', hx'⟩ := HD1.out.rd
        injection e with e1 e2 e3
        rw [e1]; exact hx'
      have HX := Lib.hid hx
      obtain ⟨n, hn⟩ : ∃ n, Hid (n = ds1.length) := ⟨_, Lib.hid rfl⟩
      rw [← hn.out]
      have hn20 : n ≤ 104857600 := by have := HS1.out.len; rw [hn.out]; omega
      obtain ⟨wp, hwp⟩ : ∃ wp : World, wp = wr := ⟨_, rfl⟩
      subst hwp
      have hsz : w.heap.size < wp.heap.size := Nat.lt_of_lt_of_le hlt0 hbw.size
      clear hbw hx
      go_wp2
      go_loopw [0, 5, 6, 13] (fun s0 s5 s6 i wr => ∃ (k : Nat) (ms2 lf : List DotA) (ag : Bool), k ≤ n ∧ i = .int .i64 k ∧ s5 = .bool ag ∧ Hid (OwnD 53 wr base s0 ms2) ∧ Hid (OwnD 55 wr wp.heap.size s6 lf) ∧ Hid (∀ g, _root_.Go.Value.ownBlock s0 = some g → _root_.Go.Value.ownBlock s6 ≠ some g) ∧ Hid (Apart w.heap.size s0) ∧ Hid (Pass ms1 ds1 ms2 lf k ag) ∧ Below wp.heap.size wp wr) (fun _ _ _ i _ => n - (intOf i).toNat)
      case atStart => exact ⟨0, ms1, [], false, Nat.zero_le _, rfl, rfl, HM1, Lib.hid (ownD_nil _ _ _), Lib.hid (fun g _ e => by cases e), Lib.hid HA1.out.1, Lib.hid (Pass.start HS1.out.ok), Below.refl _ _⟩
      case round =>
        obtain ⟨k, ms2, lf, ag, hk, rfl, rfl, HM2, HL2, HAP, HA2, HPS, hb⟩ := hrel
        have HB := Lib.hid hb
        have hbs := hb.size
        have hxr := HX.out.below hb (Nat.le_refl _)
        have hlen := HPS.out.len
        have hlen1 := HS1.out.len
        have hm20 : ms2.length ≤ 209715200 := by omega
        have hl20 : lf.length ≤ 209715200 := by omega
        have hl40 : lf.length ≤ 1099511627776 := by omega
        clear hlen hlen1
        by_cases hlt : k < n
        · obtain ⟨x, hd⟩ : ∃ x, ds1[k]? = some x := ⟨ds1[k]'(by have := hn.out; omega), List.getElem?_eq_getElem _⟩
          obtain ⟨ad, rfl, hadlt, hda⟩ := hxr k x hd
          obtain ⟨d0, d1, d2⟩ := hda
          have HD := Lib.hid hd
          have hmx := HS1.out.may x (List.mem_of_getElem? hd)
          have HMX := Lib.hid hmx
          obtain ⟨N, hN⟩ : ∃ N, Hid (N = markOf ms2 (actOf x)) := ⟨_, Lib.hid rfl⟩
          have hN40 : 0 ≤ N ∧ N ≤ 1099511627776 := by rw [hN.out]; exact markOf_le HPS.out.ok _
          clear hd hxr hb hmx
          obtain ⟨x1, x2, x3⟩ := x
          simp only at d0 d1 d2
          obtain ⟨W1, hW1⟩ : ∃ W1, Hid (W1 = wr.alloc (.cells #[.int .i64 x1, .int .i64 x2, .int .i64 x3] 55)) := ⟨_, Lib.hid rfl⟩
          have hbA : Below wr.heap.size wr W1 := by rw [hW1.out]; exact (Below.refl _ _).alloc (Nat.le_refl _) _
          have hzW1 : wr.heap.size < W1.heap.size := by rw [hW1.out]; simp
          have g0 : W1.cell? ⟨wr.heap.size, 0, none⟩ = some (.int .i64 x1) := by rw [hW1.out]; exact box_cell _ _ _ 0
          have g1 : W1.cell? ⟨wr.heap.size, 1, none⟩ = some (.int .i64 x2) := by rw [hW1.out]; exact box_cell _ _ _ 1
          have g2 : W1.cell? ⟨wr.heap.size, 2, none⟩ = some (.int .i64 x3) := by rw [hW1.out]; exact box_cell _ _ _ 2
          have HB1 := Lib.hid (HB.out.trans (hbA.mono hbs))
          have HM3 := Lib.hid (HM2.out.below hbA)
          have HL3 := Lib.hid (HL2.out.below hbA)
          have HMK := Lib.hid (mark_ref u0 ms2 (x1, x2) W1 HM3.out.rd (by omega))
          rw [show markOf ms2 (x1, x2) = N from hN.out.symm] at HMK
          have hlL := World.ownsRow.lt HL2.out
          have hlM := World.ownsRow.lt HM2.out
          have HROWL := Lib.hid hlL
          have HROWM := Lib.hid hlM
          have hWe1 := hW1.out.symm
          have hbz : wp.heap.size ≤ W1.heap.size := by omega
          clear hbA hlL hlM
          go_upto_region 8 with fail
          clear hWe1
          go_wp2_with fail
          (with_reducible refine HMK.out.mono ?_); rintro e w2 ⟨rfl, hb2⟩
          have e0 := (hb2.cell (p := ⟨wr.heap.size, 0, none⟩) hzW1).trans g0
          have e1 := (hb2.cell (p := ⟨wr.heap.size, 1, none⟩) hzW1).trans g1
          have e2 := (hb2.cell (p := ⟨wr.heap.size, 2, none⟩) hzW1).trans g2
          have HB2 := Lib.hid (HB1.out.trans (hb2.mono hbz))
          have HM4 := Lib.hid (HM3.out.below hb2)
          have HL4 := Lib.hid (HL3.out.below hb2)
          have hz2 := hb2.size
          have hbz2 : wp.heap.size ≤ w2.heap.size := by omega
          clear g0 g1 g2 hb2 HMK
          by_cases hle : x3 ≤ N
          · have hle' : decide (x3 ≤ N) = true := by simpa using hle
            have HP : Hid (Pass ms1 ds1 ms2 lf (k + 1) ag) := Lib.hid (HPS.out.drop HD.out (by rw [← hN.out]; exact hle))
            go_wp2
            go_roundw
            case rel => exact ⟨k + 1, ms2, lf, ag, by omega, by go_num, rfl, HM4, HL4, HAP, HA2, HP, HB2.out⟩
            case measure => simp [intOf]; omega
          · have hle' : decide (x3 ≤ N) = false := by simpa using hle
            have hwr : IntKind.i64.wrap (N + 1) = N + 1 := IntWalk.i64_in _ (by omega)
            by_cases heq : x3 = N + 1
            · have heq' : (x3 == N + 1) = true := by simpa using heq
              have HP : Hid (Pass ms1 ds1 (setL (x1, x2, x3) ms2 false) lf (k + 1) true) := Lib.hid (HPS.out.set HD.out HMX.out (by rw [← hN.out]; exact heq))
              have HST2 := Lib.hid (set_ref u0 ms2 (x1, x2, x3) w2 HM4.out.rd (by omega))
              obtain ⟨L, hL⟩ : ∃ L, Hid (L = setL (x1, x2, x3) ms2 false) := ⟨_, Lib.hid rfl⟩
              rw [← hL.out] at HP HST2
              clear heq hle
              go_upto_region 12 with fail
              go_wp2_with fail
              (with_reducible refine HST2.out.mono ?_); rintro e w3 ⟨v3, rfl, ho3, hb3⟩
              have HM5 : Hid (OwnD 53 w3 base v3 L) := Lib.hid (ho3.base_le (by omega))
              have HL5 := Lib.hid (HL4.out.below hb3)
              have hlt3 := World.ownsRow.lt ho3
              have HAP5 : Hid (∀ g, _root_.Go.Value.ownBlock v3 = some g → _root_.Go.Value.ownBlock u6 ≠ some g) := Lib.hid (fun g e e' => by have h1 := (hlt3 g e).1; have h2 := (HROWL.out g e').2; omega)
              have HA5 : Hid (Apart w.heap.size v3) := Lib.hid (fun g e => by have h1 := (hlt3 g e).1; omega)
              have HB5 : Hid (Below wp.heap.size wp w3) := Lib.hid (HB2.out.trans (hb3.mono hbz2))
              clear ho3 hlt3 hb3
              go_wp2
              go_roundw
              case rel => exact ⟨k + 1, L, lf, true, by omega, by go_num, rfl, HM5, HL5, HAP5, HA5, HP, HB5.out⟩
              case measure => simp [intOf]; omega
            · have heq' : (x3 == N + 1) = false := by simpa using heq
              have HP : Hid (Pass ms1 ds1 ms2 (lf ++ [(x1, x2, x3)]) (k + 1) ag) := Lib.hid (HPS.out.keep HD.out (by rw [← hN.out]; show N + 1 < x3; omega))
              clear heq hle
              go_upto_region 9 with fail
              go_wp2_with (at_builtin; go_must (refine wpList_append_dot (v := u6) Try.underlying23 infoDot _ rfl (.tmp 23) (.tmp 25) rfl (x1, x2, x3) (by rfl) (by rfl) HL4.out hl40 hbz2 ?_))
              intro v5 w5 ho5 hg5 ht5
              have HB5 : Hid (Below wp.heap.size wp w5) := Lib.hid (HB2.out.grown hg5 hbz2 (fun g e => (HROWL.out g e).1))
              have HL5 := Lib.hid ho5
              have HM5 : Hid (OwnD 53 w5 base u0 ms2) := Lib.hid (ownD_of_block HM4.out fun g e => hg5.block g (by have := (HROWM.out g e).2; omega) (fun e' => HAP.out g e e'.symm))
              have HAP5 : Hid (∀ g, _root_.Go.Value.ownBlock u0 = some g → _root_.Go.Value.ownBlock v5 ≠ some g) := Lib.hid (fun g e e' => by
                rcases ht5 with h | ⟨g', h1, h2⟩
                · exact HAP.out g e (h ▸ e')
                · have h3 := (HROWM.out g e).2
                  rw [h1] at e'
                  injection e' with e'
                  omega)
              clear ho5 hg5 ht5
              go_wp2
              go_roundw
              case rel => exact ⟨k + 1, ms2, _, ag, by omega, by go_num, rfl, HM5, HL5, HAP5, HA2, HP, HB5.out⟩
              case measure => simp [intOf]; omega
        · have hkn : k = n := by omega
          subst hkn
          have HSN : Hid (Sett ms ds ms2 lf ag) := Lib.hid (HS1.out.next (by rw [← hn.out]; exact HPS.out))
          have HBW2 : Hid (Below W.heap.size W wr) := Lib.hid (HBW.out.trans (HB.out.mono HBW.out.size))
          have HA6 : Hid (Apart w.heap.size u0 ∧ Apart w.heap.size u6) := Lib.hid ⟨HA2.out, fun g e => by have := (World.ownsRow.lt HL2.out g e).1; omega⟩
          have HL6 : Hid (OwnD 55 wr base u6 lf) := Lib.hid (HL2.out.base_le (by omega))
          obtain ⟨A6, c6, hv6⟩ := ownD_slice HL2.out
          subst hv6
          have hless : ag = true → lf.length < k := HPS.out.less
          clear hxr hb
          go_wp2
          go_roundw
          case rel => exact ⟨ms2, lf, ag, rfl, HM2, HL6, HA6, HSN, HBW2.out⟩
          case measure =>
            cases ag with
            | true => have := hless rfl; simp [settM]; omega
            | false => simp [settM]
end Go.Proofs.Ytnlohijpcnoamaa
