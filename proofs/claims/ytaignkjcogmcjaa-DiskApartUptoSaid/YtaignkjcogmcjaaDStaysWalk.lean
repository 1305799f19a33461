/- DiskStays, walked. -/
import Derived.Test.YtaignkjcogmcjaaDPrefix
import Derived.Deep.Cut
namespace Go.Proofs.Ytaignkjcogmcjaa
open Go.RowKit
open Go.Lib (byteCells byteCells_length)

theorem Has.left2 {w w' w2 : World} {room : Int} {d : Nat} {tag : Nat → Option Tag} {fs gs : List FileA} (h : Has w room d tag fs w') (hl : Left w' tag d room gs w2) : ∃ tag', Has w room d tag' gs w2 ∧ Turned w' w2 tag ∧ Wider w' tag tag' := by
  obtain ⟨tag', h1, h2, h3⟩ := hl
  refine ⟨tag', ⟨h1, ⟨h2.os.trans h.2.1.os, h2.tape.trans h.2.1.tape, h2.output.trans h.2.1.output, Nat.le_trans h.2.1.size h2.size, fun k hk => ?_⟩, fun k hk => ?_⟩, h2, h3⟩
  · refine (h2.block k (Nat.lt_of_lt_of_le hk h.2.1.size) ?_).trans (h.2.1.block k hk)
    cases e : tag k with
    | none => rfl
    | some t => have := h.2.2 k (by rw [e]; simp); omega
  · rcases h3 k hk with h4 | h4
    · exact h.2.2 k h4
    · exact Nat.le_trans h.2.1.size h4
theorem strS_ne {a b : ByteArray} (h : a ≠ b) : (a.toList == b.toList) = false := by
  rw [beq_eq_false_iff_ne]
  intro e
  rw [ByteArray.toList_eq, ByteArray.toList_eq] at e
  obtain ⟨⟨x⟩⟩ := a
  obtain ⟨⟨y⟩⟩ := b
  have e' : x = y := e
  exact h (by rw [e'])
theorem strS_eq {a b : ByteArray} (h : a = b) : (a.toList == b.toList) = true := by rw [h, beq_iff_eq]
theorem data_inj {a b : ByteArray} (h : a.data.toList = b.data.toList) : a = b := ByteArray.ext (Array.toList_inj.1 h)

/-- Bytes of the law's own, beside the disk. -/
structure Beside (wr : World) (tag : Nat → Option Tag) (lo hi : Nat) (A : Option Addr) (bs : List UInt8) : Prop where
  rd : RdA wr lo hi A bs
  free : ∀ k, lo ≤ k → k < hi → tag k = none
  le : hi ≤ wr.heap.size
theorem Beside.below {wr w2 : World} {tag : Nat → Option Tag} {lo hi : Nat} {A : Option Addr} {bs : List UInt8} (h : Beside wr tag lo hi A bs) (hb : Below wr.heap.size wr w2) : Beside w2 tag lo hi A bs :=
  ⟨h.rd.keep fun _ _ h2 => hb.cell (Nat.lt_of_lt_of_le h2 h.le), h.free, Nat.le_trans h.le hb.size⟩
theorem Beside.turned {wr w2 : World} {tag tag' : Nat → Option Tag} {lo hi : Nat} {A : Option Addr} {bs : List UInt8} (h : Beside wr tag lo hi A bs) (ht : Turned wr w2 tag) (hw : Wider wr tag tag') : Beside w2 tag' lo hi A bs := by
  refine ⟨h.rd.keep fun p h1 h2 => World.cell?_of_block (ht.block p.block (Nat.lt_of_lt_of_le h2 h.le) (h.free p.block h1 h2)), fun k h1 h2 => ?_, Nat.le_trans h.le ht.size⟩
  cases e : tag' k with
  | none => rfl
  | some t =>
    rcases hw k (by rw [e]; simp) with h3 | h3
    · exact absurd (h.free k h1 h2) h3
    · have := h.le; omega

set_option maxRecDepth 100000 in
set_option maxHeartbeats 6400000 in
theorem stays_walk (room : Int) (v1 v2 : Value) (os ms : List DoA) (nm : ByteArray) (w : World) (hr1 : RdDos w v1 os) (hr2 : RdDos w v2 ms) (hl1 : os.length ≤ 1048576) (hl2 : ms.length ≤ 1048576) (hnm : nm.size ≤ 9223372036854775807) :
    Calls Try.prog 6 #[.int .i64 room, v1, v2, .string nm] w fun e w' => e = .returned (.bool true) ∧ Below w.heap.size w w' := by
  have HB := Lib.hid (begun_any room v1 os w hr1 hl1)
  have HR := Lib.hid hr2
  obtain ⟨A2, c2, rfl, hc2, hx2⟩ := hr2
  clear hx2 hr1
  obtain ⟨n, hn⟩ : ∃ n, Hid (n = ms.length) := ⟨_, Lib.hid rfl⟩
  rw [← hn.out] at hl2 hc2 ⊢
  go_enter Try.func6, Try.ntmps6
  go_wp2_with fail
  (with_reducible refine HB.out.mono ?_); rintro e w1 (⟨rfl, hb1⟩ | ⟨d, tag, fs, rfl, hh⟩)
  · have HAW := Lib.hid (awake_any w1)
    have HB1 := Lib.hid hb1
    clear hb1
    go_wp2_with fail
    (with_reducible refine HAW.out.mono ?_); rintro e w2 ⟨rfl, hb2⟩
    go_wp2
    go_ret
    exact ⟨rfl, HB1.out.trans (hb2.mono HB1.out.size)⟩
  have HAW := Lib.hid (awake_any w1)
  have HH := Lib.hid hh
  clear hh
  go_wp2_with fail
  (with_reducible refine HAW.out.mono ?_); rintro e w2 ⟨rfl, hb2⟩
  have hh2 := HH.out.alloc hb2
  have HH2 := Lib.hid hh2
  have HRD := Lib.hid (read_made hh2.1 nm hnm)
  clear hb2 hh2
  go_wp2_with fail
  (with_reducible refine HRD.out.mono ?_); rintro e w3 ⟨hb3, hcase⟩
  have hh3 := HH2.out.alloc hb3
  have HH3 := Lib.hid hh3
  have HSZ := Lib.hid (size_made hh3.1 nm hnm)
  clear hh3
  rcases hcase with ⟨hc3, rfl⟩ | ⟨hc3, hl3, rfl⟩ | ⟨hc3, x, vb, hl3, rfl, hown⟩
  · clear hb3 hc3
    go_wp2_with fail
    (with_reducible refine HSZ.out.mono ?_); rintro e w4 ⟨rfl, hb4⟩
    have hb4' := (HH3.out.alloc hb4).2.1
    clear hb4
    go_wp2
    go_ret
    exact ⟨rfl, hb4'⟩
  · clear hb3 hc3 hl3
    go_wp2_with fail
    (with_reducible refine HSZ.out.mono ?_); rintro e w4 ⟨rfl, hb4⟩
    have hb4' := (HH3.out.alloc hb4).2.1
    clear hb4
    go_wp2
    go_ret
    exact ⟨rfl, hb4'⟩
  · have hsz : sizeA fs nm.data.toList = ((x.1.length : Int), (x.2 : Int), 0) := ans_here hc3 hl3
    rw [hsz] at HSZ
    simp only at HSZ
    have hx0 : x.2 ≤ x.1.length := by
      obtain ⟨_, _, _, _, _, _, g5⟩ := HH3.out.1.struct
      obtain ⟨_, _, _, _, _, h5⟩ := g5 _ (look_some hl3)
      exact h5
    have hx1 : x.1.length ≤ 16777216 := by
      have h1 := used_mem (look_some hl3)
      have h2 := HH3.out.1.fit
      have h3 := HH3.out.1.room1
      simp only at h1
      omega
    obtain ⟨A, c, rfl, hcx, hrx⟩ := hown.rd
    have hbe : Beside w3 tag w2.heap.size w3.heap.size A x.1 := ⟨hrx, fun k h1 h2 => by
      cases e : tag k with
      | none => rfl
      | some t => have := HH2.out.1.tags k (by rw [e]; simp); omega, Nat.le_refl _⟩
    have HBE := Lib.hid hbe
    have hkp : Keeps fs nm.data.toList (x.1.take x.2) := ⟨x, hl3, by rw [List.length_take]; omega, List.take_prefix _ _⟩
    have HKP := Lib.hid hkp
    have HC3 := Lib.hid hc3
    have i0 : decide ((x.2 : Int) < 0) = false := by simp
    have i1 : decide (x.1.length < x.2) = false := by simp; omega
    have i2 : (0 : Int) ≤ (x.2 : Int) := by omega
    have i3 : (x.2 : Int) ≤ (c : Int) := by omega
    clear hsz hown hrx hbe hkp hc3 hl3 hb3
    go_wp2_with fail
    (with_reducible refine HSZ.out.mono ?_); rintro e w4 ⟨rfl, hb4⟩
    have HH4 := Lib.hid (HH3.out.alloc hb4)
    have HBE4 := Lib.hid (HBE.out.below hb4)
    clear hb4
    go_wp2
    go_loopw [55] (fun i wr => ∃ (k : Nat) (tag' : Nat → Option Tag) (gs : List FileA), k ≤ n ∧ i = .int .i64 k ∧ Has w room d tag' gs wr ∧ Beside wr tag' w2.heap.size w3.heap.size A x.1 ∧ Keeps gs nm.data.toList (x.1.take x.2)) (fun i _ => n - (intOf i).toNat)
    case atStart => exact ⟨0, tag, fs, Nat.zero_le _, rfl, HH4.out, HBE4.out, HKP.out⟩
    case round =>
      obtain ⟨k, tag', gs, hk, rfl, hh, hbs, hks⟩ := hrel
      have HH5 := Lib.hid hh
      have HBS := Lib.hid hbs
      have HKS := Lib.hid hks
      clear hbs hks
      by_cases hlt : k < n
      · obtain ⟨o, ho⟩ : ∃ o, ms[k]? = some o := ⟨ms[k]'(by have := hn.out; omega), List.getElem?_eq_getElem _⟩
        obtain ⟨A', c', e', _, hx'⟩ := HR.out.same hh.2.1
        obtain ⟨ad, v3, v4, e1, h0, h1, h2, h3, h4, h5, h6⟩ := hx' k o ho
        injection e' with e2 _ e4
        subst e2
        subst e4
        subst e1
        obtain ⟨Jb, cb, evb, _, _⟩ := h6.rb
        obtain ⟨Jt, ct, evt, _, _⟩ := h6.rt
        subst evb
        subst evt
        have H6 := Lib.hid h6
        obtain ⟨q, hq⟩ : ∃ q, q = opN o.op := ⟨_, rfl⟩
        have hq8 : q < 8 := by rw [hq]; exact op_lt _
        have hop : (IntKind.u64.wrap o.op).tmod 8 = (q : Int) := by rw [op_eq, hq]
        clear hx' ho hh h6
        have fin : Hid (Has w room d tag' gs (wr.alloc (.cells #[.int .i64 o.op, .string o.nm, .string o.ot, .slice Jb o.bs.length cb, .slice Jt o.ts.length ct] 34))) := Lib.hid (HH5.out.alloc ((Below.refl _ _).alloc (Nat.le_refl _) _))
        by_cases h40 : k ≤ 40
        · have g40 : ¬ ((40 : Int) < (k : Int)) := by omega
          rcases (by omega : q = 7 ∨ q = 5 ∨ q = 4 ∨ (q ≠ 7 ∧ q ≠ 5 ∧ q ≠ 4)) with rfl | rfl | rfl | ⟨n7, n5, n4⟩
          · skip
            have e7 : ((IntKind.u64.wrap o.op).tmod 8 == 7) = true := by rw [hop]; rfl
            have e5 : ((IntKind.u64.wrap o.op).tmod 8 == 5) = false := by rw [hop]; rfl
            have e4 : ((IntKind.u64.wrap o.op).tmod 8 == 4) = false := by rw [hop]; rfl
            clear hop hq hq8
            go_wp2
            go_ret
            exact ⟨rfl, fin.out.2.1⟩
          · skip
            have e7 : ((IntKind.u64.wrap o.op).tmod 8 == 7) = false := by rw [hop]; rfl
            have e5 : ((IntKind.u64.wrap o.op).tmod 8 == 5) = true := by rw [hop]; rfl
            have e4 : ((IntKind.u64.wrap o.op).tmod 8 == 4) = false := by rw [hop]; rfl
            by_cases hnn : o.nm = nm
            · have HSN := Lib.hid (strS_eq hnn); clear hnn
              clear hop hq hq8
              go_upto_region 14 with fail
              have sn := HSN.out
              go_wp2
              go_ret
              exact ⟨rfl, fin.out.2.1⟩
            · have HSN := Lib.hid (strS_ne hnn)
              have hgn : ¬ gone o nm.data.toList := by
                rintro (h | ⟨_, h⟩ | ⟨h, _⟩)
                · omega
                · exact hnn (data_inj h)
                · omega
              have HGN := Lib.hid hgn
              have HC := Lib.hid (call_made fin.out.1 o _ _ (H6.out.below ((Below.refl _ _).alloc (Nat.le_refl _) _)))
              have hxs : ∀ f ∈ gs, f.2.2 ≤ f.2.1.length := fun f hf => by
                obtain ⟨_, _, _, _, _, _, g5⟩ := HH5.out.1.struct
                obtain ⟨_, _, _, _, _, h5⟩ := g5 f hf
                exact h5
              have HK6 : Hid (Keeps (callF room gs o) nm.data.toList (x.1.take x.2)) := Lib.hid (call_keeps hxs HKS.out hgn)
              clear hgn hxs hop hq hq8
              clear hnn
              go_upto_region 14 with fail
              have sn := HSN.out
              go_wp2_with fail
              (with_reducible refine HC.out.mono ?_); rintro e w6 ⟨rfl, hl6⟩
              obtain ⟨tag6, hh6, ht6, hw6⟩ := fin.out.left2 hl6
              have HH6 := Lib.hid hh6
              have HB6 := Lib.hid ((HBS.out.below ((Below.refl _ _).alloc (Nat.le_refl _) (.cells #[.int .i64 o.op, .string o.nm, .string o.ot, .slice Jb o.bs.length cb, .slice Jt o.ts.length ct] 34))).turned ht6 hw6)
              have HR6 := Lib.hid (read_made hh6.1 nm hnm)
              clear hl6 hh6 ht6 hw6
              go_wp2_with fail
              (with_reducible refine HR6.out.mono ?_); rintro e w7 ⟨hb7, (⟨hc7, rfl⟩ | ⟨hc7, hl7, rfl⟩ | ⟨hc7, y, v7, hl7, rfl, hown7⟩)⟩
              · rw [HC3.out] at hc7; cases hc7
              · obtain ⟨_, hz, _⟩ := HK6.out
                rw [hl7] at hz; cases hz
              · have hst : startsB y.1 (x.1.take x.2) = true := by
                  obtain ⟨z, hz, _, hp⟩ := HK6.out
                  rw [hl7] at hz
                  injection hz with hz
                  subst hz
                  exact starts_of hp
                have HH7 := Lib.hid (HH6.out.alloc hb7)
                have HB7 := Lib.hid (HB6.out.below hb7)
                have HP : Hid (Calls Try.prog 31 #[v7, .slice A x.2 c] w7 fun e w' => e = .returned (.bool true) ∧ ∃ n, w' = w7.drewN n) := Lib.hid (by
                  have := hasPrefix_any v7 (.slice A x.2 c) y.1 (x.1.take x.2) _ _ _ _ w7 hown7.rd ⟨A, c, by rw [List.length_take, Nat.min_eq_left hx0], by rw [List.length_take]; omega, HB7.out.rd.take _⟩
                  rw [hst] at this
                  exact this)
                obtain ⟨A7, c7, rfl, _, _⟩ := hown7.rd
                clear hst hl7 hc7 hb7 hown7
                go_wp2_with fail
                (with_reducible refine HP.out.mono ?_); rintro e w8 ⟨rfl, j, rfl⟩
                go_wp2
                go_roundw
                case rel => exact ⟨k + 1, tag6, _, by omega, by go_num, HH7.out.alloc (below_drewN (Below.refl _ _) j), HB7.out.below (below_drewN (Below.refl _ _) j), HK6.out⟩
                case measure => simp [intOf]; omega
          · skip
            have e7 : ((IntKind.u64.wrap o.op).tmod 8 == 7) = false := by rw [hop]; rfl
            have e5 : ((IntKind.u64.wrap o.op).tmod 8 == 5) = false := by rw [hop]; rfl
            have e4 : ((IntKind.u64.wrap o.op).tmod 8 == 4) = true := by rw [hop]; rfl
            by_cases hnn : o.nm = nm
            · have HSN := Lib.hid (strS_eq hnn); clear hnn
              clear hop hq hq8
              go_upto_region 14 with fail
              have sn := HSN.out
              go_wp2
              go_ret
              exact ⟨rfl, fin.out.2.1⟩
            by_cases hno : o.ot = nm
            · have HSN := Lib.hid (strS_ne hnn)
              have HSO := Lib.hid (strS_eq hno); clear hno
              clear hop hq hq8
              clear hnn
              go_upto_region 14 with fail
              have sn := HSN.out
              have so := HSO.out
              go_wp2
              go_ret
              exact ⟨rfl, fin.out.2.1⟩
            · have HSN := Lib.hid (strS_ne hnn)
              have HSO := Lib.hid (strS_ne hno)
              have hgn : ¬ gone o nm.data.toList := by
                rintro (h | ⟨h, _⟩ | ⟨_, h | h⟩)
                · omega
                · omega
                · exact hnn (data_inj h)
                · exact hno (data_inj h)
              have HGN := Lib.hid hgn
              have HC := Lib.hid (call_made fin.out.1 o _ _ (H6.out.below ((Below.refl _ _).alloc (Nat.le_refl _) _)))
              have hxs : ∀ f ∈ gs, f.2.2 ≤ f.2.1.length := fun f hf => by
                obtain ⟨_, _, _, _, _, _, g5⟩ := HH5.out.1.struct
                obtain ⟨_, _, _, _, _, h5⟩ := g5 f hf
                exact h5
              have HK6 : Hid (Keeps (callF room gs o) nm.data.toList (x.1.take x.2)) := Lib.hid (call_keeps hxs HKS.out hgn)
              clear hgn hxs hop hq hq8
              clear hnn
              go_upto_region 14 with fail
              have sn := HSN.out
              have so := HSO.out
              go_wp2_with fail
              (with_reducible refine HC.out.mono ?_); rintro e w6 ⟨rfl, hl6⟩
              obtain ⟨tag6, hh6, ht6, hw6⟩ := fin.out.left2 hl6
              have HH6 := Lib.hid hh6
              have HB6 := Lib.hid ((HBS.out.below ((Below.refl _ _).alloc (Nat.le_refl _) (.cells #[.int .i64 o.op, .string o.nm, .string o.ot, .slice Jb o.bs.length cb, .slice Jt o.ts.length ct] 34))).turned ht6 hw6)
              have HR6 := Lib.hid (read_made hh6.1 nm hnm)
              clear hl6 hh6 ht6 hw6
              go_wp2_with fail
              (with_reducible refine HR6.out.mono ?_); rintro e w7 ⟨hb7, (⟨hc7, rfl⟩ | ⟨hc7, hl7, rfl⟩ | ⟨hc7, y, v7, hl7, rfl, hown7⟩)⟩
              · rw [HC3.out] at hc7; cases hc7
              · obtain ⟨_, hz, _⟩ := HK6.out
                rw [hl7] at hz; cases hz
              · have hst : startsB y.1 (x.1.take x.2) = true := by
                  obtain ⟨z, hz, _, hp⟩ := HK6.out
                  rw [hl7] at hz
                  injection hz with hz
                  subst hz
                  exact starts_of hp
                have HH7 := Lib.hid (HH6.out.alloc hb7)
                have HB7 := Lib.hid (HB6.out.below hb7)
                have HP : Hid (Calls Try.prog 31 #[v7, .slice A x.2 c] w7 fun e w' => e = .returned (.bool true) ∧ ∃ n, w' = w7.drewN n) := Lib.hid (by
                  have := hasPrefix_any v7 (.slice A x.2 c) y.1 (x.1.take x.2) _ _ _ _ w7 hown7.rd ⟨A, c, by rw [List.length_take, Nat.min_eq_left hx0], by rw [List.length_take]; omega, HB7.out.rd.take _⟩
                  rw [hst] at this
                  exact this)
                obtain ⟨A7, c7, rfl, _, _⟩ := hown7.rd
                clear hst hl7 hc7 hb7 hown7
                go_wp2_with fail
                (with_reducible refine HP.out.mono ?_); rintro e w8 ⟨rfl, j, rfl⟩
                go_wp2
                go_roundw
                case rel => exact ⟨k + 1, tag6, _, by omega, by go_num, HH7.out.alloc (below_drewN (Below.refl _ _) j), HB7.out.below (below_drewN (Below.refl _ _) j), HK6.out⟩
                case measure => simp [intOf]; omega
          · skip
            have e7 : ((IntKind.u64.wrap o.op).tmod 8 == 7) = false := by rw [hop, beq_eq_false_iff_ne]; omega
            have e5 : ((IntKind.u64.wrap o.op).tmod 8 == 5) = false := by rw [hop, beq_eq_false_iff_ne]; omega
            have e4 : ((IntKind.u64.wrap o.op).tmod 8 == 4) = false := by rw [hop, beq_eq_false_iff_ne]; omega
            have hgn : ¬ gone o nm.data.toList := by
              rintro (h | ⟨h, _⟩ | ⟨h, _⟩) <;> omega
            have HGN := Lib.hid hgn
            have HC := Lib.hid (call_made fin.out.1 o _ _ (H6.out.below ((Below.refl _ _).alloc (Nat.le_refl _) _)))
            have hxs : ∀ f ∈ gs, f.2.2 ≤ f.2.1.length := fun f hf => by
              obtain ⟨_, _, _, _, _, _, g5⟩ := HH5.out.1.struct
              obtain ⟨_, _, _, _, _, h5⟩ := g5 f hf
              exact h5
            have HK6 : Hid (Keeps (callF room gs o) nm.data.toList (x.1.take x.2)) := Lib.hid (call_keeps hxs HKS.out hgn)
            clear hgn hxs hop hq hq8
            go_wp2_with fail
            (with_reducible refine HC.out.mono ?_); rintro e w6 ⟨rfl, hl6⟩
            obtain ⟨tag6, hh6, ht6, hw6⟩ := fin.out.left2 hl6
            have HH6 := Lib.hid hh6
            have HB6 := Lib.hid ((HBS.out.below ((Below.refl _ _).alloc (Nat.le_refl _) (.cells #[.int .i64 o.op, .string o.nm, .string o.ot, .slice Jb o.bs.length cb, .slice Jt o.ts.length ct] 34))).turned ht6 hw6)
            have HR6 := Lib.hid (read_made hh6.1 nm hnm)
            clear hl6 hh6 ht6 hw6
            go_wp2_with fail
            (with_reducible refine HR6.out.mono ?_); rintro e w7 ⟨hb7, (⟨hc7, rfl⟩ | ⟨hc7, hl7, rfl⟩ | ⟨hc7, y, v7, hl7, rfl, hown7⟩)⟩
            · rw [HC3.out] at hc7; cases hc7
            · obtain ⟨_, hz, _⟩ := HK6.out
              rw [hl7] at hz; cases hz
            · have hst : startsB y.1 (x.1.take x.2) = true := by
                obtain ⟨z, hz, _, hp⟩ := HK6.out
                rw [hl7] at hz
                injection hz with hz
                subst hz
                exact starts_of hp
              have HH7 := Lib.hid (HH6.out.alloc hb7)
              have HB7 := Lib.hid (HB6.out.below hb7)
              have HP : Hid (Calls Try.prog 31 #[v7, .slice A x.2 c] w7 fun e w' => e = .returned (.bool true) ∧ ∃ n, w' = w7.drewN n) := Lib.hid (by
                have := hasPrefix_any v7 (.slice A x.2 c) y.1 (x.1.take x.2) _ _ _ _ w7 hown7.rd ⟨A, c, by rw [List.length_take, Nat.min_eq_left hx0], by rw [List.length_take]; omega, HB7.out.rd.take _⟩
                rw [hst] at this
                exact this)
              obtain ⟨A7, c7, rfl, _, _⟩ := hown7.rd
              clear hst hl7 hc7 hb7 hown7
              go_wp2_with fail
              (with_reducible refine HP.out.mono ?_); rintro e w8 ⟨rfl, j, rfl⟩
              go_wp2
              go_roundw
              case rel => exact ⟨k + 1, tag6, _, by omega, by go_num, HH7.out.alloc (below_drewN (Below.refl _ _) j), HB7.out.below (below_drewN (Below.refl _ _) j), HK6.out⟩
              case measure => simp [intOf]; omega
        · have g40 : (40 : Int) < (k : Int) := by omega
          clear hop
          go_wp2
          go_ret
          exact ⟨rfl, fin.out.2.1⟩
      · obtain rfl : k = n := by omega
        clear hh
        go_wp2
        go_ret
        exact ⟨rfl, HH5.out.2.1⟩
end Go.Proofs.Ytaignkjcogmcjaa
