/- DiskApart, walked. -/
import Derived.Test.YtaignkjcogmcjaaDApartM
import Derived.Test.YtaignkjcogmcjaaDStaysWalk
namespace Go.Proofs.Ytaignkjcogmcjaa
open Go.RowKit
open Go.Lib (byteCells byteCells_length)

set_option maxRecDepth 100000 in
set_option maxHeartbeats 12800000 in
theorem apart_walk (room : Int) (v1 : Value) (os : List DoA) (o : DoA) (J1 : Option Addr) (c1 : Nat) (J2 : Option Addr) (c2 : Nat) (w : World) (hr1 : RdDos w v1 os) (hl1 : os.length ≤ 1048576) (hi : DoIn w o (.slice J1 o.bs.length c1) (.slice J2 o.ts.length c2)) :
    Calls Try.prog 8 #[.int .i64 room, v1, .agg #[.int .i64 o.op, .string o.nm, .string o.ot, .slice J1 o.bs.length c1, .slice J2 o.ts.length c2]] w fun e w' => e = .returned (.bool true) ∧ Below w.heap.size w w' := by
  obtain ⟨k, hk⟩ : ∃ k, Hid (k = opN o.op) := ⟨_, Lib.hid rfl⟩
  have hk8 : k < 8 := by rw [hk.out]; exact op_lt _
  have hop : (IntKind.u64.wrap o.op).tmod 8 = (k : Int) := by rw [op_eq, hk.out]
  obtain ⟨op, nm, ot, bs, ts⟩ := o
  simp only at hop hk ⊢
  obtain ⟨nb, hnb⟩ : ∃ nb, Hid (nb = bs.length) := ⟨_, Lib.hid rfl⟩
  obtain ⟨nt, hnt⟩ : ∃ nt, Hid (nt = ts.length) := ⟨_, Lib.hid rfl⟩
  simp only at hi
  rw [← hnb.out, ← hnt.out] at hi ⊢
  obtain ⟨W, hW⟩ : ∃ W, Hid (W = w.alloc (.cells #[.int .i64 op, .string nm, .string ot, .slice J1 nb c1, .slice J2 nt c2] 34)) := ⟨_, Lib.hid rfl⟩
  have hb0 : Below w.heap.size w W := by rw [hW.out]; exact (Below.refl _ _).alloc (Nat.le_refl _) _
  have hnew := heap_alloc_new w (.cells #[.int .i64 op, .string nm, .string ot, .slice J1 nb c1, .slice J2 nt c2] 34)
  rw [← hW.out] at hnew
  have HNEW := Lib.hid hnew
  have hWlt : w.heap.size < W.heap.size := (Array.getElem?_eq_some_iff.1 hnew).1
  have HB0 := Lib.hid hb0
  have HI := Lib.hid hi
  have HBG := Lib.hid (begun_can room v1 os W (hr1.same hb0) hl1)
  obtain ⟨A1, cc1, rfl, hc1, hx1⟩ := hr1
  obtain ⟨m, hm⟩ : ∃ m, Hid (m = os.length) := ⟨_, Lib.hid rfl⟩
  rw [← hm.out] at hc1 HBG ⊢
  have hWe := hW.out.symm
  clear hx1 hb0 hnew hi
  go_enter Try.func8, Try.ntmps8
  go_wp2_with fail
  (with_reducible refine HBG.out.mono ?_); rintro e w1 (⟨rfl, hb1⟩ | ⟨d, tag, fs, rfl, hh, hcan⟩)
  · have HAW := Lib.hid (awake_any w1)
    have HB1 := Lib.hid (HB0.out.trans (hb1.mono HB0.out.size))
    clear hb1 hop
    go_wp2_with fail
    (with_reducible refine HAW.out.mono ?_); rintro e w2 ⟨rfl, hb2⟩
    go_wp2
    go_ret
    exact ⟨rfl, HB1.out.trans (hb2.mono HB1.out.size)⟩
  have HAW := Lib.hid (awake_any w1)
  have HH := Lib.hid hh
  have HCAN := Lib.hid hcan
  clear hh hcan hWe
  by_cases hk5 : k ≤ 5
  · have d5 : decide (5 < (IntKind.u64.wrap op).tmod 8) = false := by rw [hop]; simp; omega
    have HOP := Lib.hid hop
    clear hop
    go_wp2_with fail
    (with_reducible refine HAW.out.mono ?_); rintro e w2 ⟨rfl, hb2⟩
    have hh2 := HH.out.alloc hb2
    have HH2 := Lib.hid hh2
    have HCP := Lib.hid (copy_made hh2.1)
    have b0 : w2.cell? ⟨w.heap.size, 0, none⟩ = some (.int .i64 op) := (hh2.2.1.cell (p := ⟨w.heap.size, 0, none⟩) hWlt).trans (cell_of_row W _ 0 _ _ (0, 0) HNEW.out)
    clear hb2 hh2
    go_wp2_with fail
    (with_reducible refine HCP.out.mono ?_); rintro e w3 ⟨c, tc, rfl, hc3⟩
    have hp3 := HH2.out.pair hc3
    have HP3 := Lib.hid hp3
    have q0 : w3.cell? ⟨w.heap.size, 0, none⟩ = some (.int .i64 op) := (hp3.below.cell (p := ⟨w.heap.size, 0, none⟩) hWlt).trans (cell_of_row W _ 0 _ _ (0, 0) HNEW.out)
    have q1 : w3.cell? ⟨w.heap.size, 1, none⟩ = some (.string nm) := (hp3.below.cell (p := ⟨w.heap.size, 1, none⟩) hWlt).trans (cell_of_row W _ 1 _ _ (0, 0) HNEW.out)
    have q2 : w3.cell? ⟨w.heap.size, 2, none⟩ = some (.string ot) := (hp3.below.cell (p := ⟨w.heap.size, 2, none⟩) hWlt).trans (cell_of_row W _ 2 _ _ (0, 0) HNEW.out)
    have q3 : w3.cell? ⟨w.heap.size, 3, none⟩ = some (.slice J1 nb c1) := (hp3.below.cell (p := ⟨w.heap.size, 3, none⟩) hWlt).trans (cell_of_row W _ 3 _ _ (0, 0) HNEW.out)
    have q4 : w3.cell? ⟨w.heap.size, 4, none⟩ = some (.slice J2 nt c2) := (hp3.below.cell (p := ⟨w.heap.size, 4, none⟩) hWlt).trans (cell_of_row W _ 4 _ _ (0, 0) HNEW.out)
    have HCL := Lib.hid (call_made hp3.one.1 ⟨op, nm, ot, bs, ts⟩ _ _ (HI.out.below (HB0.out.trans (hp3.below.mono HB0.out.size))))
    clear hp3 hc3 b0
    go_wp2_with fail
    (with_reducible refine HCL.out.mono ?_); rintro e w4 ⟨rfl, hl4⟩
    obtain ⟨gs, hgs⟩ : ∃ gs, Hid (gs = callF room fs ⟨op, nm, ot, bs, ts⟩) := ⟨_, Lib.hid rfl⟩
    rw [← hgs.out] at hl4
    obtain ⟨t4, hp4⟩ := HP3.out.left hl4
    have HP4 := Lib.hid hp4
    have HCAN2 : Hid (canAll gs) := Lib.hid (by rw [hgs.out]; exact callF_can HCAN.out)
    have HF4 := Lib.hid (files_made hp4.one.1)
    clear hl4 hp4 q0 q1 q2 q3 q4
    go_wp2_with fail
    (with_reducible refine HF4.out.mono ?_); rintro e w5 ⟨v5, rfl, ho5, hb5⟩
    have hp5 := HP4.out.alloc hb5
    have HP5 := Lib.hid hp5
    have HO5 := Lib.hid ho5
    have HF5 := Lib.hid (files_made hp5.two.1)
    have hz5 := hb5.size
    clear ho5 hb5 hp5
    go_wp2_with fail
    (with_reducible refine HF5.out.mono ?_); rintro e w6 ⟨v6, rfl, ho6, hb6⟩
    have HP6 := Lib.hid (HP5.out.alloc hb6)
    have HO56 := Lib.hid (row_below HO5.out hb6)
    have HO6 := Lib.hid ho6
    have hz6 := hb6.size
    have hg64 := HP6.out.one.1.few
    have hf64 := HP6.out.two.1.few
    clear ho6 hb6
    go_wp2_with (at_builtin; refine wpList_append_names _ rfl (.tmp 44) (.tmp 46) rfl rfl rfl HO56.out HO6.out (by omega) (by omega) ?_)
    intro v7 w7 ho7 hg7
    have hlt5 : ∀ g, v5.ownBlock = some g → w4.heap.size ≤ g := fun g hg => (World.ownsRow.lt HO56.out g hg).1
    have HP7 := Lib.hid (HP6.out.grown HP4.out.one.1.tags HP4.out.two.1.tags HP4.out.below.size (by omega) hg7 hlt5)
    obtain ⟨N, hN⟩ : ∃ N, Hid (N = gs.length + fs.length) := ⟨_, Lib.hid rfl⟩
    rw [← hN.out] at ho7
    have hN128 : N ≤ 128 := by rw [hN.out]; omega
    have hform : ∃ A c, v7 = .slice A N c ∧ N ≤ c := by
      rcases ho7.2 with ⟨rfl, h0⟩ | ⟨g, cap, cur, rfl, _, _, h5, _⟩
      · exact ⟨none, 0, by rw [h0], by omega⟩
      · exact ⟨_, cap, rfl, h5⟩
    obtain ⟨A7, c7, rfl, hc7⟩ := hform
    have HO7 := Lib.hid ho7
    clear ho7 hg7 hlt5
    go_wp2
    go_loopw [49] (fun i wr => ∃ (k2 : Nat), k2 ≤ N ∧ i = .int .i64 k2 ∧ Below w7.heap.size w7 wr) (fun i _ => N - (intOf i).toNat)
    case atStart => exact ⟨0, Nat.zero_le _, rfl, Below.refl _ _⟩
    case round =>
      obtain ⟨k2, hkn, rfl, hbr⟩ := hrel
      have HBR := Lib.hid hbr
      clear hbr
      by_cases hlt : k2 < N
      · obtain ⟨g, cg, e, _, hg⟩ := World.ownsRow.form HO7.out (by omega)
        injection e with e1 _ e3
        subst e1
        subst e3
        have HPR := Lib.hid (HP7.out.alloc HBR.out)
        obtain ⟨f, hmem, hf⟩ : ∃ f : FileA, (f ∈ gs ∨ f ∈ fs) ∧ (names gs ++ names fs)[k2]? = some (.string ⟨f.1.toArray⟩) := by
          by_cases hg2 : k2 < gs.length
          · exact ⟨gs[k2], .inl (List.getElem_mem hg2), by rw [List.getElem?_append_left (by rw [names_length]; exact hg2)]; exact names_at (List.getElem?_eq_getElem hg2)⟩
          · have h2 : k2 - gs.length < fs.length := by have := hN.out; omega
            exact ⟨fs[k2 - gs.length], .inr (List.getElem_mem h2), by rw [List.getElem?_append_right (by rw [names_length]; omega), names_length]; exact names_at (List.getElem?_eq_getElem h2)⟩
        obtain ⟨s, hs⟩ : ∃ s : ByteArray, Hid (s = ⟨f.1.toArray⟩) := ⟨_, Lib.hid rfl⟩
        have hsl : s.data.toList = f.1 := by rw [hs.out]
        have hqc : wr.cell? ⟨g, k2, none⟩ = some (.string s) := by
          refine (HBR.out.cell (p := ⟨g, k2, none⟩) hg).trans ?_
          rw [World.ownsRow.cellAt HO7.out k2 (by omega), hf, hs.out]
        have ead : (⟨g, 0, none⟩ : Addr).add k2 = ⟨g, k2, none⟩ := by unfold Addr.add; split <;> simp_all
        have hcan : canS f.1 = true := hmem.elim (HCAN2.out f) (HCAN.out f)
        have hsz : s.size ≤ 9223372036854775807 := by
          have h1 := canS_size hcan
          have h2 := slen s
          rw [hsl] at h2
          omega
        have HCN : Hid (canS s.data.toList = true) := Lib.hid (by rw [hsl]; exact hcan)
        have hbW : Below W.heap.size W wr := HPR.out.below
        have hq0 : wr.cell? ⟨w.heap.size, 0, none⟩ = some (.int .i64 op) := (hbW.cell (p := ⟨w.heap.size, 0, none⟩) hWlt).trans (cell_of_row W _ 0 _ _ (0, 0) HNEW.out)
        have hq1 : wr.cell? ⟨w.heap.size, 1, none⟩ = some (.string nm) := (hbW.cell (p := ⟨w.heap.size, 1, none⟩) hWlt).trans (cell_of_row W _ 1 _ _ (0, 0) HNEW.out)
        have hq2 : wr.cell? ⟨w.heap.size, 2, none⟩ = some (.string ot) := (hbW.cell (p := ⟨w.heap.size, 2, none⟩) hWlt).trans (cell_of_row W _ 2 _ _ (0, 0) HNEW.out)
        have hop := HOP.out
        clear ead hcan hf hbW
        by_cases hsn : s = nm
        · have sn := strS_eq hsn
          clear hsn hop
          go_wp2
          go_roundw
          case rel => exact ⟨k2 + 1, by omega, by go_num, HBR.out⟩
          case measure => simp [intOf]; omega
        · by_cases hso : s = ot
          · by_cases h4 : k = 4
            · have sn := strS_ne hsn
              have so := strS_eq hso
              have e4 : ((IntKind.u64.wrap op).tmod 8 == 4) = true := by rw [hop, h4]; rfl
              clear hsn hso hop h4
              go_wp2
              go_roundw
              case rel => exact ⟨k2 + 1, by omega, by go_num, HBR.out⟩
              case measure => simp [intOf]; omega
            · have sn := strS_ne hsn
              have so := strS_eq hso
              have e4 : ((IntKind.u64.wrap op).tmod 8 == 4) = false := by rw [hop, beq_eq_false_iff_ne]; omega
              have hap := call_apart (room := room) (fs := fs) (o := ⟨op, nm, ot, bs, ts⟩) (n := s.data.toList) (by simp only; rw [← hk.out]; omega) (fun e => hsn (data_inj e).symm) (fun e4 e => by simp only at e4; rw [← hk.out] at e4; exact h4 e4)
              rw [← hgs.out] at hap
              obtain ⟨y, hy⟩ : ∃ y, look fs s.data.toList = some y := by
                rcases hmem with hmem | hmem
                · exact ⟨f.2, by rw [← hap, hsl]; exact look_mem HPR.out.one.1.rise hmem⟩
                · exact ⟨f.2, by rw [hsl]; exact look_mem HPR.out.two.1.rise hmem⟩
              have HL1 : Hid (look gs s.data.toList = some y) := Lib.hid (hap.trans hy)
              have HL2 : Hid (look fs s.data.toList = some y) := Lib.hid hy
              clear hap hy

              clear hsn hso hmem hsl h4
              have HR := Lib.hid (read_made HPR.out.one.1 s hsz)
              clear hop
              go_wp2_with fail
              (with_reducible refine HR.out.mono ?_); rintro e w8 ⟨hb8, (⟨hc8, rfl⟩ | ⟨hc8, hl8, rfl⟩ | ⟨hc8, x, p, hl8, rfl, ho8⟩)⟩
              · rw [HCN.out] at hc8; cases hc8
              · rw [HL1.out] at hl8; cases hl8
              obtain rfl : x = y := by rw [HL1.out] at hl8; injection hl8 with hl8; exact hl8.symm
              have hp8 := HPR.out.alloc hb8
              have HP8 := Lib.hid hp8
              have HO8 := Lib.hid ho8
              have HB8 := Lib.hid (HBR.out.trans (hb8.mono HBR.out.size))
              have HR2 := Lib.hid (read_made hp8.two.1 s hsz)
              clear hl8 hc8 ho8 hb8 hp8
              go_wp2_with fail
              (with_reducible refine HR2.out.mono ?_); rintro e w9 ⟨hb9, (⟨hc9, rfl⟩ | ⟨hc9, hl9, rfl⟩ | ⟨hc9, x', p2, hl9, rfl, ho9⟩)⟩
              · rw [HCN.out] at hc9; cases hc9
              · rw [HL2.out] at hl9; cases hl9
              obtain rfl : x' = x := by rw [HL2.out] at hl9; injection hl9 with hl9; exact hl9.symm
              have hp9 := HP8.out.alloc hb9
              have HP9 := Lib.hid hp9
              have HO89 := Lib.hid (HO8.out.below hb9)
              have HO9 := Lib.hid ho9
              have HB9 := Lib.hid (HB8.out.trans (hb9.mono HB8.out.size))
              have hS := size_made hp9.one.1 s hsz
              rw [show sizeA gs s.data.toList = ((x'.1.length : Int), (x'.2 : Int), 0) from ans_here HCN.out HL1.out] at hS
              have HS := Lib.hid hS
              clear hl9 hc9 ho9 hb9 hp9 hS
              go_wp2_with fail
              (with_reducible refine HS.out.mono ?_); rintro e w10 ⟨rfl, hb10⟩
              have hp10 := HP9.out.alloc hb10
              have HP10 := Lib.hid hp10
              have HO810 := Lib.hid (HO89.out.below hb10)
              have HO910 := Lib.hid (HO9.out.below hb10)
              have HB10 := Lib.hid (HB9.out.trans (hb10.mono HB9.out.size))
              have hS := size_made hp10.two.1 s hsz
              rw [show sizeA fs s.data.toList = ((x'.1.length : Int), (x'.2 : Int), 0) from ans_here HCN.out HL2.out] at hS
              have HS2 := Lib.hid hS
              clear hb10 hp10 hS
              go_wp2_with fail
              (with_reducible refine HS2.out.mono ?_); rintro e w11 ⟨rfl, hb11⟩
              have hE := equalB_any p p2 x'.1 x'.1 _ _ _ _ w11 (HO810.out.below hb11).rd (HO910.out.below hb11).rd
              rw [show (x'.1 == x'.1) = true by simp] at hE
              have HEE := Lib.hid hE
              have HB11 := Lib.hid (HB10.out.trans (hb11.mono HB10.out.size))
              clear hb11 hE
              go_wp2_with fail
              (with_reducible refine HEE.out.mono ?_); rintro e w12 ⟨rfl, j, rfl⟩
              have HX := Lib.hid (below_drewN HB11.out j)
              go_wp2
              go_roundw
              case rel => exact ⟨k2 + 1, by omega, by go_num, HX.out⟩
              case measure => simp [intOf]; omega

          · have sn := strS_ne hsn
            have so := strS_ne hso
            have hap := call_apart (room := room) (fs := fs) (o := ⟨op, nm, ot, bs, ts⟩) (n := s.data.toList) (by simp only; rw [← hk.out]; omega) (fun e => hsn (data_inj e).symm) (fun e4 e => hso (data_inj e).symm)
            rw [← hgs.out] at hap
            obtain ⟨y, hy⟩ : ∃ y, look fs s.data.toList = some y := by
              rcases hmem with hmem | hmem
              · exact ⟨f.2, by rw [← hap, hsl]; exact look_mem HPR.out.one.1.rise hmem⟩
              · exact ⟨f.2, by rw [hsl]; exact look_mem HPR.out.two.1.rise hmem⟩
            have HL1 : Hid (look gs s.data.toList = some y) := Lib.hid (hap.trans hy)
            have HL2 : Hid (look fs s.data.toList = some y) := Lib.hid hy
            clear hap hy

            clear hsn hso hmem hsl
            have HR := Lib.hid (read_made HPR.out.one.1 s hsz)
            clear hop
            go_wp2_with fail
            (with_reducible refine HR.out.mono ?_); rintro e w8 ⟨hb8, (⟨hc8, rfl⟩ | ⟨hc8, hl8, rfl⟩ | ⟨hc8, x, p, hl8, rfl, ho8⟩)⟩
            · rw [HCN.out] at hc8; cases hc8
            · rw [HL1.out] at hl8; cases hl8
            obtain rfl : x = y := by rw [HL1.out] at hl8; injection hl8 with hl8; exact hl8.symm
            have hp8 := HPR.out.alloc hb8
            have HP8 := Lib.hid hp8
            have HO8 := Lib.hid ho8
            have HB8 := Lib.hid (HBR.out.trans (hb8.mono HBR.out.size))
            have HR2 := Lib.hid (read_made hp8.two.1 s hsz)
            clear hl8 hc8 ho8 hb8 hp8
            go_wp2_with fail
            (with_reducible refine HR2.out.mono ?_); rintro e w9 ⟨hb9, (⟨hc9, rfl⟩ | ⟨hc9, hl9, rfl⟩ | ⟨hc9, x', p2, hl9, rfl, ho9⟩)⟩
            · rw [HCN.out] at hc9; cases hc9
            · rw [HL2.out] at hl9; cases hl9
            obtain rfl : x' = x := by rw [HL2.out] at hl9; injection hl9 with hl9; exact hl9.symm
            have hp9 := HP8.out.alloc hb9
            have HP9 := Lib.hid hp9
            have HO89 := Lib.hid (HO8.out.below hb9)
            have HO9 := Lib.hid ho9
            have HB9 := Lib.hid (HB8.out.trans (hb9.mono HB8.out.size))
            have hS := size_made hp9.one.1 s hsz
            rw [show sizeA gs s.data.toList = ((x'.1.length : Int), (x'.2 : Int), 0) from ans_here HCN.out HL1.out] at hS
            have HS := Lib.hid hS
            clear hl9 hc9 ho9 hb9 hp9 hS
            go_wp2_with fail
            (with_reducible refine HS.out.mono ?_); rintro e w10 ⟨rfl, hb10⟩
            have hp10 := HP9.out.alloc hb10
            have HP10 := Lib.hid hp10
            have HO810 := Lib.hid (HO89.out.below hb10)
            have HO910 := Lib.hid (HO9.out.below hb10)
            have HB10 := Lib.hid (HB9.out.trans (hb10.mono HB9.out.size))
            have hS := size_made hp10.two.1 s hsz
            rw [show sizeA fs s.data.toList = ((x'.1.length : Int), (x'.2 : Int), 0) from ans_here HCN.out HL2.out] at hS
            have HS2 := Lib.hid hS
            clear hb10 hp10 hS
            go_wp2_with fail
            (with_reducible refine HS2.out.mono ?_); rintro e w11 ⟨rfl, hb11⟩
            have hE := equalB_any p p2 x'.1 x'.1 _ _ _ _ w11 (HO810.out.below hb11).rd (HO910.out.below hb11).rd
            rw [show (x'.1 == x'.1) = true by simp] at hE
            have HEE := Lib.hid hE
            have HB11 := Lib.hid (HB10.out.trans (hb11.mono HB10.out.size))
            clear hb11 hE
            go_wp2_with fail
            (with_reducible refine HEE.out.mono ?_); rintro e w12 ⟨rfl, j, rfl⟩
            have HX := Lib.hid (below_drewN HB11.out j)
            go_wp2
            go_roundw
            case rel => exact ⟨k2 + 1, by omega, by go_num, HX.out⟩
            case measure => simp [intOf]; omega

      · obtain rfl : k2 = N := by omega
        go_wp2
        go_ret
        exact ⟨rfl, HB0.out.trans ((HP7.out.alloc HBR.out).below.mono HB0.out.size)⟩
  · have d5 : decide (5 < (IntKind.u64.wrap op).tmod 8) = true := by rw [hop]; simp; omega
    clear hop
    go_wp2_with fail
    (with_reducible refine HAW.out.mono ?_); rintro e w2 ⟨rfl, hb2⟩
    have hh2 := HH.out.alloc hb2
    have b0 : w2.cell? ⟨w.heap.size, 0, none⟩ = some (.int .i64 op) := (hh2.2.1.cell (p := ⟨w.heap.size, 0, none⟩) hWlt).trans (cell_of_row W _ 0 _ _ (0, 0) HNEW.out)
    have HB2 := Lib.hid (HB0.out.trans (hh2.2.1.mono HB0.out.size))
    clear hb2 hh2
    go_wp2
    go_ret
    exact ⟨rfl, HB2.out⟩
end Go.Proofs.Ytaignkjcogmcjaa
