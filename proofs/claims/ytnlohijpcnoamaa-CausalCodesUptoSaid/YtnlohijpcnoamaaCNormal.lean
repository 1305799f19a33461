/- Normal, by the document: its walk. -/
import Derived.Test.YtnlohijpcnoamaaCSettle
namespace Go.Proofs.Ytnlohijpcnoamaa
open Go.RowKit Go.Sort Go.BigFrame
open Go.Lib (byteCells byteCells_length)

theorem cmpD_bel {a b : DotA} : cmpD a b < 0 ↔ belB a b = true := by
  rw [belB_iff]
  obtain ⟨a1, a2, a3⟩ := a
  obtain ⟨b1, b2, b3⟩ := b
  simp only [cmpD, cmpA, cmpI, actOf]
  rcases Int.lt_trichotomy a1 b1 with h1 | h1 | h1
  · have e1 : ¬ a1 = b1 := by omega
    simp [e1, h1]
  · rcases Int.lt_trichotomy a2 b2 with h2 | h2 | h2
    · simp [h1, h2]
    · rcases Int.lt_trichotomy a3 b3 with h3 | h3 | h3
      · simp [h1, h2, h3]
      · simp [h1, h2, h3]
      · have e3 : ¬ a3 < b3 := by omega
        simp [h1, h2, h3, e3]
    · have e2 : ¬ a2 = b2 := by omega
      have e3 : ¬ a2 < b2 := by omega
      simp [h1, e2, e3, h2]
  · have e1 : ¬ a1 = b1 := by omega
    have e2 : ¬ a1 < b1 := by omega
    simp [e1, e2, h1]
theorem Canon.ok {ms ds : List DotA} (h : Canon ms ds) (hm : ms.length ≤ 64) (hd : ds.length ≤ 64) : OkC ms ds := by
  obtain ⟨h1, h2, h3⟩ := h
  refine ⟨hm, hd, h1, fun j d hj => h3 d (List.mem_of_getElem? hj), fun j a b ha hb => ?_⟩
  obtain ⟨i1, e1⟩ := List.getElem?_eq_some_iff.1 ha
  obtain ⟨i2, e2⟩ := List.getElem?_eq_some_iff.1 hb
  have := List.pairwise_iff_getElem.1 h2 j (j + 1) i1 i2 (by omega)
  rw [e1, e2] at this
  exact cmpD_bel.2 this
/-- A dot of marks and dots. -/
def Tot (marks dots : List DotA) (x : DotA) : Prop := (∃ m ∈ marks, actOf m = actOf x ∧ x.2.2 ≤ m.2.2) ∨ x ∈ dots
def AllMay (l : List DotA) : Prop := ∀ m ∈ l, mayB m = true
def nilC : Value := .agg #[.slice none 0 0, .slice none 0 0]
/-- What Normal answers, by the document. -/
def NormPost (marks dots : List DotA) (w : World) (e : Ending) (w' : World) : Prop :=
  Below w.heap.size w w' ∧
    ((¬ (AllMay marks ∧ AllMay dots) ∧ e = .returned (.tuple #[nilC, .int .i64 1])) ∨
      (AllMay marks ∧ AllMay dots ∧ ∃ ms ds, Canon ms ds ∧ (∀ x : DotA, 1 ≤ x.2.2 → (InC ms ds x ↔ Tot marks dots x)) ∧
        ((¬ (ms.length ≤ 64 ∧ ds.length ≤ 64) ∧ e = .returned (.tuple #[nilC, .int .i64 4])) ∨
          (ms.length ≤ 64 ∧ ds.length ≤ 64 ∧ ∃ mv dv, e = .returned (.tuple #[.agg #[mv, dv], .int .i64 0]) ∧ OwnD 53 w' w.heap.size mv ms ∧ OwnD 55 w' w.heap.size dv ds))))
/-- The marks so far. -/
structure SetIn (marks : List DotA) (k : Nat) (ms : List DotA) : Prop where
  ok : OkM ms
  len : ms.length ≤ k
  same : ∀ x : DotA, 1 ≤ x.2.2 → (x.2.2 ≤ markOf ms (actOf x) ↔ ∃ m ∈ marks.take k, actOf m = actOf x ∧ x.2.2 ≤ m.2.2)
theorem SetIn.start (marks : List DotA) : SetIn marks 0 [] := ⟨OkM.nil, Nat.le_refl _, fun x hx => by rw [markOf_nil]; simp; omega⟩
theorem SetIn.next {marks : List DotA} {k : Nat} {ms : List DotA} {m : DotA} (h : SetIn marks k ms) (hd : marks[k]? = some m) (hm : mayB m = true) : SetIn marks (k + 1) (setL m ms false) := by
  have h1 := setL_len m ms false
  have h2 := h.len
  have hm0 := mayB_le hm
  refine ⟨setL_ok h.ok hm, by omega, fun x hx => ?_⟩
  rw [markOf_setL (by omega) _ (okM_iff.1 h.ok).2, take_at hd]
  have hs := h.same x hx
  by_cases e : actOf m = actOf x
  · rw [if_pos e]
    constructor
    · intro hle
      by_cases hc : x.2.2 ≤ markOf ms (actOf x)
      · obtain ⟨y, hy, h3⟩ := hs.1 hc
        exact ⟨y, List.mem_append_left _ hy, h3⟩
      · exact ⟨m, by simp, e, by omega⟩
    · rintro ⟨y, hy, h3, h4⟩
      rcases List.mem_append.1 hy with hy | hy
      · have := hs.2 ⟨y, hy, h3, h4⟩
        omega
      · simp at hy
        rw [hy] at h4
        omega
  · rw [if_neg e, hs]
    constructor
    · rintro ⟨y, hy, h3⟩
      exact ⟨y, List.mem_append_left _ hy, h3⟩
    · rintro ⟨y, hy, h3, h4⟩
      rcases List.mem_append.1 hy with hy | hy
      · exact ⟨y, hy, h3, h4⟩
      · simp at hy
        rw [hy] at h3
        exact absurd h3 e
/-- The dots so far. -/
structure InsIn (dots : List DotA) (k : Nat) (ds : List DotA) : Prop where
  rise : RiseD ds
  len : ds.length ≤ k
  same : ∀ x : DotA, x ∈ ds ↔ x ∈ dots.take k
theorem InsIn.start (dots : List DotA) : InsIn dots 0 [] := ⟨List.Pairwise.nil, Nat.le_refl _, fun x => by simp⟩
theorem InsIn.next {dots : List DotA} {k : Nat} {ds : List DotA} {d : DotA} (h : InsIn dots k ds) (hd : dots[k]? = some d) : InsIn dots (k + 1) (insL d ds false) := by
  have h1 := insL_len d ds false
  have h2 := h.len
  refine ⟨insL_rise h.rise, by omega, fun x => ?_⟩
  rw [insL_mem, take_at hd, h.same x]
  simp only [List.mem_append, List.mem_singleton]
  exact ⟨fun e => e.symm, fun e => e.symm⟩

set_option maxRecDepth 100000 in
set_option maxHeartbeats 12800000 in
theorem normal_ref (v vd : Value) (ms ds : List DotA) (w : World) (hm : RdD w v ms) (hd : RdD w vd ds) (hlm : ms.length ≤ 1048576) (hld : ds.length ≤ 1048576) :
    Calls Try.prog 35 #[v, vd] w (NormPost ms ds w) := by
  obtain ⟨W, hW⟩ : ∃ W, Hid (W = w.alloc (.cells #[.slice none 0 0, .slice none 0 0] 25)) := ⟨_, Lib.hid rfl⟩
  have hb0 : Below w.heap.size w W := by rw [hW.out]; exact (Below.refl _ _).alloc (Nat.le_refl _) _
  have hlt0 : w.heap.size < W.heap.size := by rw [hW.out]; simp
  have hrow : W.heap[w.heap.size]? = some (.cells #[.slice none 0 0, .slice none 0 0] 25 (0, 0)) := by rw [hW.out]; exact heap_alloc_new w _
  have HROW := Lib.hid hrow
  have HB0 := Lib.hid hb0
  have HM0 := Lib.hid (hm.below hb0)
  have HD0 := Lib.hid (hd.below hb0)
  obtain ⟨A, c, rfl, hc, hx⟩ := hm
  obtain ⟨A1, c1, rfl, hc1, hx1⟩ := hd
  have HX := Lib.hid (hx.below hb0 (Nat.le_refl _))
  have HX1 := Lib.hid (hx1.below hb0 (Nat.le_refl _))
  obtain ⟨n, hn⟩ : ∃ n, Hid (n = ms.length) := ⟨_, Lib.hid rfl⟩
  obtain ⟨n1, hn1⟩ : ∃ n1, Hid (n1 = ds.length) := ⟨_, Lib.hid rfl⟩
  rw [← hn.out] at hlm hc ⊢
  rw [← hn1.out] at hld hc1 ⊢
  have hsW : w.heap.size ≤ W.heap.size := Nat.le_of_lt hlt0
  have hWe := hW.out.symm
  clear hb0 hx hx1 hrow HM0 HD0
  go_enter Try.func35, Try.ntmps35
  go_wp2
  clear hWe
  go_loopw [19] (fun i wr => ∃ (k : Nat), k ≤ n ∧ i = .int .i64 k ∧ Hid (AllMay (ms.take k)) ∧ Below W.heap.size W wr) (fun i _ => n - (intOf i).toNat)
  case atStart => exact ⟨0, Nat.zero_le _, rfl, Lib.hid (by intro m hm; simp at hm), Below.refl _ _⟩
  case round =>
    obtain ⟨k, hk, rfl, HAM, hb⟩ := hrel
    have HB := Lib.hid hb
    have hbs := hb.size
    have hxr := HX.out.below hb hsW
    by_cases hlt : k < n
    · obtain ⟨x, hdk⟩ : ∃ x, ms[k]? = some x := ⟨ms[k]'(by have := hn.out; omega), List.getElem?_eq_getElem _⟩
      obtain ⟨ad, rfl, hadlt, hda⟩ := hxr k x hdk
      obtain ⟨d0, d1, d2⟩ := hda
      have HDK := Lib.hid hdk
      have r1 := (hb.block _ hlt0).trans HROW.out
      clear hdk hxr hb
      obtain ⟨W1, hW1⟩ : ∃ W1, Hid (W1 = wr.alloc (.cells #[.int .i64 x.1, .int .i64 x.2.1, .int .i64 x.2.2] 53)) := ⟨_, Lib.hid rfl⟩
      have hbA : Below wr.heap.size wr W1 := by rw [hW1.out]; exact (Below.refl _ _).alloc (Nat.le_refl _) _
      have hzW1 : wr.heap.size < W1.heap.size := by rw [hW1.out]; simp
      have g0 : W1.cell? ⟨wr.heap.size, 0, none⟩ = some (.int .i64 x.1) := by rw [hW1.out]; exact box_cell _ _ _ 0
      have g1 : W1.cell? ⟨wr.heap.size, 1, none⟩ = some (.int .i64 x.2.1) := by rw [hW1.out]; exact box_cell _ _ _ 1
      have g2 : W1.cell? ⟨wr.heap.size, 2, none⟩ = some (.int .i64 x.2.2) := by rw [hW1.out]; exact box_cell _ _ _ 2
      have HB1 := Lib.hid (HB.out.trans (hbA.mono hbs))
      have HMK := Lib.hid (mayMark_ref x W1)
      have hWe1 := hW1.out.symm
      have hbz : W.heap.size ≤ W1.heap.size := by omega
      clear hbA r1
      go_upto_region 4 with fail
      clear hWe1
      go_wp2_with fail
      (with_reducible refine HMK.out.mono ?_); rintro e w2 ⟨rfl, hb2⟩
      have HB2 := Lib.hid (HB1.out.trans (hb2.mono hbz))
      have r2 := (HB2.out.block _ hlt0).trans HROW.out
      clear g0 g1 g2 hb2 HMK
      cases hmx : mayB x with
      | true =>
        have HAM2 : Hid (AllMay (ms.take (k + 1))) := Lib.hid (by
          intro m hm
          rw [take_at HDK.out] at hm
          rcases List.mem_append.1 hm with hm | hm
          · exact HAM.out m hm
          · simp at hm; rw [hm]; exact hmx)
        clear r2
        go_wp2
        go_roundw
        case rel => exact ⟨k + 1, by omega, by go_num, HAM2, HB2.out⟩
        case measure => simp [intOf]; omega
      | false =>
        have HNO : Hid (¬ (AllMay ms ∧ AllMay ds)) := Lib.hid (fun h => by have := h.1 x (List.mem_of_getElem? HDK.out); rw [hmx] at this; cases this)
        have q0 : w2.cell? ⟨w.heap.size, 0, none⟩ = some (.slice none 0 0) := cell_of_row w2 _ 0 _ _ (0, 0) r2
        have q1 : w2.cell? ⟨w.heap.size, 1, none⟩ = some (.slice none 0 0) := cell_of_row w2 _ 1 _ _ (0, 0) r2
        have f0 : w2.frozen? ⟨w.heap.size, 0, none⟩ = false := frozen_of_row w2 _ 0 _ _ r2
        have f1 : w2.frozen? ⟨w.heap.size, 1, none⟩ = false := frozen_of_row w2 _ 1 _ _ r2
        have HR2 := Lib.hid r2
        clear r2
        go_wp2
        obtain ⟨W2, hW2⟩ : ∃ W2, Hid (W2 = (w2.setCell ⟨w.heap.size, 0, none⟩ (.slice none 0 0)).setCell ⟨w.heap.size, 1, none⟩ (.slice none 0 0)) := ⟨_, Lib.hid rfl⟩
        have hr := Joins.block_setCell (Joins.block_setCell HR2.out (i := 0) (.slice none 0 0)) (i := 1) (.slice none 0 0)
        have g0 := cell_of_row _ _ 0 _ _ (0, 0) hr
        have g1 := cell_of_row _ _ 1 _ _ (0, 0) hr
        refine bodyPost_ret (v := .tuple #[nilC, .int .i64 1]) (by simp [results, Try.results35, go_sem, nilC, g0, g1]) rfl ⟨?_, .inl ⟨HNO.out, rfl⟩⟩
        exact ((HB0.out.trans (HB2.out.mono hsW)).setCell (Nat.le_refl _) _).setCell (Nat.le_refl _) _
    · have hkn : k = n := by omega
      have HMM : Hid (AllMay ms) := Lib.hid (by have := HAM.out; rw [hkn, hn.out, List.take_length] at this; exact this)
      clear hxr hb HAM hkn
      go_wp2
      clear hlt
      obtain ⟨wa, hwa⟩ : ∃ wa : World, wa = wr := ⟨_, rfl⟩
      subst hwa
      go_loopw [30] (fun i wr => ∃ (k : Nat), k ≤ n1 ∧ i = .int .i64 k ∧ Hid (AllMay (ds.take k)) ∧ Below W.heap.size W wr) (fun i _ => n1 - (intOf i).toNat)
      case atStart => exact ⟨0, Nat.zero_le _, rfl, Lib.hid (by intro m hm; simp at hm), HB.out⟩
      case round =>
        obtain ⟨k2, hk2, rfl, HAM, hb⟩ := hrel
        have HBB := Lib.hid hb
        have hbs2 := hb.size
        have hxr := HX1.out.below hb hsW
        by_cases hlt2 : k2 < n1
        · obtain ⟨x, hdk⟩ : ∃ x, ds[k2]? = some x := ⟨ds[k2]'(by have := hn1.out; omega), List.getElem?_eq_getElem _⟩
          obtain ⟨ad, rfl, hadlt, hda⟩ := hxr k2 x hdk
          obtain ⟨d0, d1, d2⟩ := hda
          have HDK := Lib.hid hdk
          clear hdk hxr hb
          obtain ⟨W1, hW1⟩ : ∃ W1, Hid (W1 = wr.alloc (.cells #[.int .i64 x.1, .int .i64 x.2.1, .int .i64 x.2.2] 55)) := ⟨_, Lib.hid rfl⟩
          have hbA : Below wr.heap.size wr W1 := by rw [hW1.out]; exact (Below.refl _ _).alloc (Nat.le_refl _) _
          have hzW1 : wr.heap.size < W1.heap.size := by rw [hW1.out]; simp
          have g0 : W1.cell? ⟨wr.heap.size, 0, none⟩ = some (.int .i64 x.1) := by rw [hW1.out]; exact box_cell _ _ _ 0
          have g1 : W1.cell? ⟨wr.heap.size, 1, none⟩ = some (.int .i64 x.2.1) := by rw [hW1.out]; exact box_cell _ _ _ 1
          have g2 : W1.cell? ⟨wr.heap.size, 2, none⟩ = some (.int .i64 x.2.2) := by rw [hW1.out]; exact box_cell _ _ _ 2
          have HB1 := Lib.hid (HBB.out.trans (hbA.mono hbs2))
          have HMK := Lib.hid (mayDot_ref x W1)
          have hWe1 := hW1.out.symm
          have hbz : W.heap.size ≤ W1.heap.size := by omega
          clear hbA
          go_upto_region 10 with fail
          clear hWe1
          go_wp2_with fail
          (with_reducible refine HMK.out.mono ?_); rintro e w2 ⟨rfl, hb2⟩
          have HB2 := Lib.hid (HB1.out.trans (hb2.mono hbz))
          have r2 := (HB2.out.block _ hlt0).trans HROW.out
          clear g0 g1 g2 hb2 HMK
          cases hmx : mayB x with
          | true =>
            have HAM2 : Hid (AllMay (ds.take (k2 + 1))) := Lib.hid (by
              intro m hm
              rw [take_at HDK.out] at hm
              rcases List.mem_append.1 hm with hm | hm
              · exact HAM.out m hm
              · simp at hm; rw [hm]; exact hmx)
            clear r2
            go_wp2
            go_roundw
            case rel => exact ⟨k2 + 1, by omega, by go_num, HAM2, HB2.out⟩
            case measure => simp [intOf]; omega
          | false =>
            have HNO : Hid (¬ (AllMay ms ∧ AllMay ds)) := Lib.hid (fun h => by have := h.2 x (List.mem_of_getElem? HDK.out); rw [hmx] at this; cases this)
            have q0 : w2.cell? ⟨w.heap.size, 0, none⟩ = some (.slice none 0 0) := cell_of_row w2 _ 0 _ _ (0, 0) r2
            have q1 : w2.cell? ⟨w.heap.size, 1, none⟩ = some (.slice none 0 0) := cell_of_row w2 _ 1 _ _ (0, 0) r2
            have f0 : w2.frozen? ⟨w.heap.size, 0, none⟩ = false := frozen_of_row w2 _ 0 _ _ r2
            have f1 : w2.frozen? ⟨w.heap.size, 1, none⟩ = false := frozen_of_row w2 _ 1 _ _ r2
            have HR2 := Lib.hid r2
            clear r2
            go_wp2
            obtain ⟨W2, hW2⟩ : ∃ W2, Hid (W2 = (w2.setCell ⟨w.heap.size, 0, none⟩ (.slice none 0 0)).setCell ⟨w.heap.size, 1, none⟩ (.slice none 0 0)) := ⟨_, Lib.hid rfl⟩
            have hr := Joins.block_setCell (Joins.block_setCell HR2.out (i := 0) (.slice none 0 0)) (i := 1) (.slice none 0 0)
            have g0 := cell_of_row _ _ 0 _ _ (0, 0) hr
            have g1 := cell_of_row _ _ 1 _ _ (0, 0) hr
            refine bodyPost_ret (v := .tuple #[nilC, .int .i64 1]) (by simp [results, Try.results35, go_sem, nilC, g0, g1]) rfl ⟨?_, .inl ⟨HNO.out, rfl⟩⟩
            exact ((HB0.out.trans (HB2.out.mono hsW)).setCell (Nat.le_refl _) _).setCell (Nat.le_refl _) _
        · have hkn2 : k2 = n1 := by omega
          have HDM : Hid (AllMay ds) := Lib.hid (by have := HAM.out; rw [hkn2, hn1.out, List.take_length] at this; exact this)
          clear hxr hb HAM hkn2
          go_wp2
          clear hlt2
          obtain ⟨wb, hwb⟩ : ∃ wb : World, wb = wr := ⟨_, rfl⟩
          subst hwb
          go_loopw [41, 10] (fun i out wr => ∃ (k : Nat) (ms1 : List DotA), k ≤ n ∧ i = .int .i64 k ∧ Hid (OwnD 53 wr W.heap.size out ms1) ∧ Hid (SetIn ms k ms1) ∧ Below W.heap.size W wr) (fun i _ _ => n - (intOf i).toNat)
          case atStart => exact ⟨0, [], Nat.zero_le _, rfl, Lib.hid (ownD_nil _ _ _), Lib.hid (SetIn.start _), HBB.out⟩
          case round =>
            obtain ⟨k3, ms1, hk3, rfl, HOM, HSI, hb⟩ := hrel
            have HBC := Lib.hid hb
            have hbs3 := hb.size
            have hxr := HX.out.below hb hsW
            have hml := HSI.out.len
            by_cases hlt3 : k3 < n
            · obtain ⟨x, hdk⟩ : ∃ x, ms[k3]? = some x := ⟨ms[k3]'(by have := hn.out; omega), List.getElem?_eq_getElem _⟩
              obtain ⟨ad, rfl, hadlt, hda⟩ := hxr k3 x hdk
              obtain ⟨d0, d1, d2⟩ := hda
              have HSI2 := Lib.hid (HSI.out.next hdk (HMM.out x (List.mem_of_getElem? hdk)))
              clear hdk hxr hb
              obtain ⟨W1, hW1⟩ : ∃ W1, Hid (W1 = wr.alloc (.cells #[.int .i64 x.1, .int .i64 x.2.1, .int .i64 x.2.2] 53)) := ⟨_, Lib.hid rfl⟩
              have hbA : Below wr.heap.size wr W1 := by rw [hW1.out]; exact (Below.refl _ _).alloc (Nat.le_refl _) _
              have g0 : W1.cell? ⟨wr.heap.size, 0, none⟩ = some (.int .i64 x.1) := by rw [hW1.out]; exact box_cell _ _ _ 0
              have g1 : W1.cell? ⟨wr.heap.size, 1, none⟩ = some (.int .i64 x.2.1) := by rw [hW1.out]; exact box_cell _ _ _ 1
              have g2 : W1.cell? ⟨wr.heap.size, 2, none⟩ = some (.int .i64 x.2.2) := by rw [hW1.out]; exact box_cell _ _ _ 2
              have hzW1 : wr.heap.size < W1.heap.size := by rw [hW1.out]; simp
              have HB1 := Lib.hid (HBC.out.trans (hbA.mono hbs3))
              have HMK := Lib.hid (set_ref u10 ms1 x W1 (HOM.out.below hbA).rd (by omega))
              obtain ⟨L, hL⟩ : ∃ L, Hid (L = setL x ms1 false) := ⟨_, Lib.hid rfl⟩
              rw [← hL.out] at HMK HSI2
              have hWe1 := hW1.out.symm
              have hbz : W.heap.size ≤ W1.heap.size := by omega
              clear hbA
              go_upto_region 17 with fail
              clear hWe1
              go_wp2_with fail
              (with_reducible refine HMK.out.mono ?_); rintro e w2 ⟨v2, rfl, ho2, hb2⟩
              have HB2 := Lib.hid (HB1.out.trans (hb2.mono hbz))
              have HO2 : Hid (OwnD 53 w2 W.heap.size v2 L) := Lib.hid (ho2.base_le hbz)
              clear g0 g1 g2 hb2 HMK ho2
              go_wp2
              go_roundw
              case rel => exact ⟨k3 + 1, L, by omega, by go_num, HO2, HSI2, HB2.out⟩
              case measure => simp [intOf]; omega
            · have hkn3 : k3 = n := by omega
              have HSN : Hid (SetIn ms ms.length ms1) := Lib.hid (by have := HSI.out; rw [hkn3, hn.out] at this; exact this)
              clear hxr hb HSI hkn3
              go_wp2
              clear hlt3
              obtain ⟨wc, hwc⟩ : ∃ wc : World, wc = wr := ⟨_, rfl⟩
              subst hwc
              go_loopw [51, 13] (fun i out wr => ∃ (k : Nat) (ds1 : List DotA), k ≤ n1 ∧ i = .int .i64 k ∧ Hid (OwnD 55 wr W.heap.size out ds1) ∧ Hid (OwnD 53 wr W.heap.size u10 ms1) ∧ Hid (InsIn ds k ds1) ∧ Below W.heap.size W wr) (fun i _ _ => n1 - (intOf i).toNat)
              case atStart => exact ⟨0, [], Nat.zero_le _, rfl, Lib.hid (ownD_nil _ _ _), HOM, Lib.hid (InsIn.start _), HBC.out⟩
              case round =>
                obtain ⟨k4, ds1, hk4, rfl, HOD, HOM2, HII, hb⟩ := hrel
                have HBD := Lib.hid hb
                have hbs4 := hb.size
                have hxr := HX1.out.below hb hsW
                have hdl := HII.out.len
                by_cases hlt4 : k4 < n1
                · obtain ⟨x, hdk⟩ : ∃ x, ds[k4]? = some x := ⟨ds[k4]'(by have := hn1.out; omega), List.getElem?_eq_getElem _⟩
                  obtain ⟨ad, rfl, hadlt, hda⟩ := hxr k4 x hdk
                  obtain ⟨d0, d1, d2⟩ := hda
                  have HII2 := Lib.hid (HII.out.next hdk)
                  clear hdk hxr hb
                  obtain ⟨W1, hW1⟩ : ∃ W1, Hid (W1 = wr.alloc (.cells #[.int .i64 x.1, .int .i64 x.2.1, .int .i64 x.2.2] 55)) := ⟨_, Lib.hid rfl⟩
                  have hbA : Below wr.heap.size wr W1 := by rw [hW1.out]; exact (Below.refl _ _).alloc (Nat.le_refl _) _
                  have g0 : W1.cell? ⟨wr.heap.size, 0, none⟩ = some (.int .i64 x.1) := by rw [hW1.out]; exact box_cell _ _ _ 0
                  have g1 : W1.cell? ⟨wr.heap.size, 1, none⟩ = some (.int .i64 x.2.1) := by rw [hW1.out]; exact box_cell _ _ _ 1
                  have g2 : W1.cell? ⟨wr.heap.size, 2, none⟩ = some (.int .i64 x.2.2) := by rw [hW1.out]; exact box_cell _ _ _ 2
                  have hzW1 : wr.heap.size < W1.heap.size := by rw [hW1.out]; simp
                  have HB1 := Lib.hid (HBD.out.trans (hbA.mono hbs4))
                  have HOM3 := Lib.hid (HOM2.out.below hbA)
                  have HMK := Lib.hid (insert_ref u13 ds1 x W1 (HOD.out.below hbA).rd (by omega))
                  obtain ⟨L, hL⟩ : ∃ L, Hid (L = insL x ds1 false) := ⟨_, Lib.hid rfl⟩
                  rw [← hL.out] at HMK HII2
                  have hWe1 := hW1.out.symm
                  have hbz : W.heap.size ≤ W1.heap.size := by omega
                  clear hbA
                  go_upto_region 23 with fail
                  clear hWe1
                  go_wp2_with fail
                  (with_reducible refine HMK.out.mono ?_); rintro e w2 ⟨v2, rfl, ho2, hb2⟩
                  have HB2 := Lib.hid (HB1.out.trans (hb2.mono hbz))
                  have HOM4 := Lib.hid (HOM3.out.below hb2)
                  have HO2 : Hid (OwnD 55 w2 W.heap.size v2 L) := Lib.hid (ho2.base_le hbz)
                  clear g0 g1 g2 hb2 HMK ho2
                  go_wp2
                  go_roundw
                  case rel => exact ⟨k4 + 1, L, by omega, by go_num, HO2, HOM4, HII2, HB2.out⟩
                  case measure => simp [intOf]; omega
                · have hkn4 : k4 = n1 := by omega
                  have hII := HII.out
                  rw [hkn4, hn1.out] at hII
                  have HTOT : Hid (∀ x : DotA, 1 ≤ x.2.2 → (InC ms1 ds1 x ↔ Tot ms ds x)) := Lib.hid (fun x hx => by
                    have h1 := HSN.out.same x hx
                    have h2 := hII.same x
                    rw [List.take_length] at h1 h2
                    unfold InC Tot
                    rw [h2, h1]
                    exact ⟨fun h => h.elim (fun h => .inl h.2) .inr, fun h => h.elim (fun h => .inl ⟨hx, h⟩) .inr⟩)
                  have HSR := Lib.hid (settled_ref W.heap.size u10 u13 ms1 ds1 wr hbs4 HOM2.out HOD.out HSN.out.ok hII.rise (fun d hd => HDM.out d (by have := (hII.same d).1 hd; rw [List.take_length] at this; exact this)) (by omega))
                  clear hxr hb HII hII hkn4
                  go_upto_region 25 with fail
                  go_wp2_with fail
                  (with_reducible refine HSR.out.mono ?_); rintro e w2 ⟨ms2, ds2, mv, dv, rfl, hom, hod, hcan, hsame, hlen2, hb2⟩
                  have HB2 := Lib.hid (HBD.out.trans (hb2.mono hbs4))
                  obtain ⟨A2, c2, rfl⟩ := ownD_slice hom
                  obtain ⟨A3, c3, rfl⟩ := ownD_slice hod
                  obtain ⟨l2, hl2⟩ : ∃ l2, Hid (l2 = ms2.length) := ⟨_, Lib.hid rfl⟩
                  obtain ⟨l3, hl3⟩ : ∃ l3, Hid (l3 = ds2.length) := ⟨_, Lib.hid rfl⟩
                  rw [← hl2.out] at hom ⊢
                  rw [← hl3.out] at hod ⊢
                  have HM2 := Lib.hid hom
                  have HD2 := Lib.hid hod
                  have HCAN := Lib.hid hcan
                  have HTOT2 : Hid (∀ x : DotA, 1 ≤ x.2.2 → (InC ms2 ds2 x ↔ Tot ms ds x)) := Lib.hid (fun x hx => (hsame x hx).trans (HTOT.out x hx))
                  have hz2 := hb2.size
                  clear hom hod hcan hsame hlen2 hb2 HSR
                  by_cases hlong : l2 ≤ 64 ∧ l3 ≤ 64
                  · have d1 : decide (64 < (l2 : Int)) = false := by simp; omega
                    have d2 : decide (64 < (l3 : Int)) = false := by simp; omega
                    have HLO := Lib.hid hlong
                    clear hlong
                    obtain ⟨W3, hW3⟩ : ∃ W3, Hid (W3 = w2.alloc (.cells #[.slice A2 l2 c2, .slice A3 l3 c3] 25)) := ⟨_, Lib.hid rfl⟩
                    have hb3 : Below w2.heap.size w2 W3 := by rw [hW3.out]; exact (Below.refl _ _).alloc (Nat.le_refl _) _
                    have g0 : W3.cell? ⟨w2.heap.size, 0, none⟩ = some (.slice A2 l2 c2) := by rw [hW3.out]; exact box_cell _ _ _ 0
                    have g1 : W3.cell? ⟨w2.heap.size, 1, none⟩ = some (.slice A3 l3 c3) := by rw [hW3.out]; exact box_cell _ _ _ 1
                    have HB3 := Lib.hid (HB2.out.trans (hb3.mono HB2.out.size))
                    have HM3 := Lib.hid (HM2.out.below hb3)
                    have HD3 := Lib.hid (HD2.out.below hb3)
                    have r1 := (HB3.out.block _ hlt0).trans HROW.out
                    have q0 : W3.cell? ⟨w.heap.size, 0, none⟩ = some (.slice none 0 0) := cell_of_row W3 _ 0 _ _ (0, 0) r1
                    have q1 : W3.cell? ⟨w.heap.size, 1, none⟩ = some (.slice none 0 0) := cell_of_row W3 _ 1 _ _ (0, 0) r1
                    have f0 : W3.frozen? ⟨w.heap.size, 0, none⟩ = false := frozen_of_row W3 _ 0 _ _ r1
                    have f1 : W3.frozen? ⟨w.heap.size, 1, none⟩ = false := frozen_of_row W3 _ 1 _ _ r1
                    have HR1 := Lib.hid r1
                    have hWe3 := hW3.out.symm
                    clear hb3 r1
                    go_upto_region 26 with fail
                    clear hWe3
                    go_wp2
                    have hr := Joins.block_setCell (Joins.block_setCell HR1.out (i := 0) (.slice A2 l2 c2)) (i := 1) (.slice A3 l3 c3)
                    have p0 := cell_of_row _ _ 0 _ _ (0, 0) hr
                    have p1 := cell_of_row _ _ 1 _ _ (0, 0) hr
                    have ap2 : Apart w.heap.size (.slice A2 l2 c2) := fun g e => by have := (World.ownsRow.lt HM3.out g e).1; omega
                    have ap3 : Apart w.heap.size (.slice A3 l3 c3) := fun g e => by have := (World.ownsRow.lt HD3.out g e).1; omega
                    refine bodyPost_ret (v := .tuple #[.agg #[.slice A2 l2 c2, .slice A3 l3 c3], .int .i64 0]) (by simp [results, Try.results35, go_sem, p0, p1]) rfl ⟨?_, .inr ⟨HMM.out, HDM.out, ms2, ds2, HCAN.out, HTOT2.out, .inr ⟨?_, ?_, _, _, rfl, ?_, ?_⟩⟩⟩
                    · exact ((HB0.out.trans (HB3.out.mono hsW)).setCell (Nat.le_refl _) _).setCell (Nat.le_refl _) _
                    · rw [← hl2.out]; exact HLO.out.1
                    · rw [← hl3.out]; exact HLO.out.2
                    · exact ((HM3.out.setOther ap2 _).setOther ap2 _).base_le hsW
                    · exact ((HD3.out.setOther ap3 _).setOther ap3 _).base_le hsW
                  · have HNL : Hid (¬ (ms2.length ≤ 64 ∧ ds2.length ≤ 64)) := Lib.hid (by rw [← hl2.out, ← hl3.out]; exact hlong)
                    obtain ⟨W3, hW3⟩ : ∃ W3, Hid (W3 = w2.alloc (.cells #[.slice A2 l2 c2, .slice A3 l3 c3] 25)) := ⟨_, Lib.hid rfl⟩
                    have hb3 : Below w2.heap.size w2 W3 := by rw [hW3.out]; exact (Below.refl _ _).alloc (Nat.le_refl _) _
                    have g0 : W3.cell? ⟨w2.heap.size, 0, none⟩ = some (.slice A2 l2 c2) := by rw [hW3.out]; exact box_cell _ _ _ 0
                    have g1 : W3.cell? ⟨w2.heap.size, 1, none⟩ = some (.slice A3 l3 c3) := by rw [hW3.out]; exact box_cell _ _ _ 1
                    have HB3 := Lib.hid (HB2.out.trans (hb3.mono HB2.out.size))
                    have r1 := (HB3.out.block _ hlt0).trans HROW.out
                    have q0 : W3.cell? ⟨w.heap.size, 0, none⟩ = some (.slice none 0 0) := cell_of_row W3 _ 0 _ _ (0, 0) r1
                    have q1 : W3.cell? ⟨w.heap.size, 1, none⟩ = some (.slice none 0 0) := cell_of_row W3 _ 1 _ _ (0, 0) r1
                    have f0 : W3.frozen? ⟨w.heap.size, 0, none⟩ = false := frozen_of_row W3 _ 0 _ _ r1
                    have f1 : W3.frozen? ⟨w.heap.size, 1, none⟩ = false := frozen_of_row W3 _ 1 _ _ r1
                    have hr := Joins.block_setCell (Joins.block_setCell r1 (i := 0) (.slice none 0 0)) (i := 1) (.slice none 0 0)
                    have HR1 := Lib.hid hr
                    have hWe3 := hW3.out.symm
                    clear hb3 r1 hr
                    have HHL := Lib.hid hlong
                    clear hlong
                    by_cases h2 : 64 < l2
                    · have d1 : decide (64 < (l2 : Int)) = true := by simp; omega
                      clear h2
                      go_upto_region 26 with fail
                      clear hWe3
                      go_wp2
                      have p0 := cell_of_row _ _ 0 _ _ (0, 0) HR1.out
                      have p1 := cell_of_row _ _ 1 _ _ (0, 0) HR1.out
                      refine bodyPost_ret (v := .tuple #[nilC, .int .i64 4]) (by simp [results, Try.results35, go_sem, nilC, p0, p1]) rfl ⟨?_, .inr ⟨HMM.out, HDM.out, ms2, ds2, HCAN.out, HTOT2.out, .inl ⟨HNL.out, rfl⟩⟩⟩
                      exact ((HB0.out.trans (HB3.out.mono hsW)).setCell (Nat.le_refl _) _).setCell (Nat.le_refl _) _
                    · have d1 : decide (64 < (l2 : Int)) = false := by simp; omega
                      have d2 : decide (64 < (l3 : Int)) = true := by have := HHL.out; simp; omega
                      clear h2
                      go_upto_region 26 with fail
                      clear hWe3
                      go_wp2
                      have p0 := cell_of_row _ _ 0 _ _ (0, 0) HR1.out
                      have p1 := cell_of_row _ _ 1 _ _ (0, 0) HR1.out
                      refine bodyPost_ret (v := .tuple #[nilC, .int .i64 4]) (by simp [results, Try.results35, go_sem, nilC, p0, p1]) rfl ⟨?_, .inr ⟨HMM.out, HDM.out, ms2, ds2, HCAN.out, HTOT2.out, .inl ⟨HNL.out, rfl⟩⟩⟩
                      exact ((HB0.out.trans (HB3.out.mono hsW)).setCell (Nat.le_refl _) _).setCell (Nat.le_refl _) _
end Go.Proofs.Ytnlohijpcnoamaa
