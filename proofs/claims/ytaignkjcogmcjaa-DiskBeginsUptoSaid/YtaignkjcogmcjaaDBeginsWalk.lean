/- DiskBegins, walked. -/
import Derived.Test.YtaignkjcogmcjaaDBeginsM
namespace Go.Proofs.Ytaignkjcogmcjaa
open Go.RowKit
open Go.Lib (byteCells byteCells_length)

set_option maxRecDepth 100000 in
set_option maxHeartbeats 12800000 in
theorem begins_walk (room : Int) (v1 v2 : Value) (os : List DoA) (ts : List TearA) (w : World) (hr1 : RdDos w v1 os) (hl1 : os.length ≤ 1048576) (hr2 : RdTears w v2 ts) (hl2 : ts.length ≤ 1048576) (hs2 : ∀ t ∈ ts, t.1.size ≤ 9223372036854775807) (hk2 : ∀ t ∈ ts, t.2.1 ≤ 9223372036854775807) :
    Calls Try.prog 7 #[.int .i64 room, v1, v2] w fun e w' => e = .returned (.bool true) ∧ Below w.heap.size w w' := by
  obtain ⟨i0, hi0, hz0, hz1, hz2⟩ := info_parts infoTear
  have HBG := Lib.hid (begun_can room v1 os w hr1 hl1)
  have HR2 := Lib.hid hr2
  obtain ⟨A1, c1, rfl, hc1, hx1⟩ := hr1
  obtain ⟨A2, c2, rfl, hc2, hx2⟩ := hr2
  obtain ⟨m, hm⟩ : ∃ m, Hid (m = os.length) := ⟨_, Lib.hid rfl⟩
  obtain ⟨n, hn⟩ : ∃ n, Hid (n = ts.length) := ⟨_, Lib.hid rfl⟩
  rw [← hm.out] at hc1 HBG ⊢
  rw [← hn.out] at hc2 hl2 ⊢
  have HS2 := Lib.hid hs2
  have HK2 := Lib.hid hk2
  clear hx1 hx2 hs2 hk2
  go_enter Try.func7, Try.ntmps7
  go_wp2_with fail
  (with_reducible refine HBG.out.mono ?_); rintro e w1 (⟨rfl, hb1⟩ | ⟨d, tag, fs, rfl, hh, hcan⟩)
  · have HAW := Lib.hid (awake_any w1)
    have HB1 := Lib.hid hb1
    clear hb1
    go_wp2_with fail
    (with_reducible refine HAW.out.mono ?_); rintro e w2 ⟨rfl, hb2⟩
    go_wp2
    go_ret
    exact ⟨rfl, HB1.out.trans (hb2.mono HB1.out.size)⟩
  have HAW := Lib.hid (awake_any w1)
  have HH := Lib.hid hh
  have HCAN := Lib.hid hcan
  clear hh hcan
  go_wp2_with fail
  (with_reducible refine HAW.out.mono ?_); rintro e w2 ⟨rfl, hb2⟩
  have HH2 := Lib.hid (HH.out.alloc hb2)
  clear hb2
  go_wp2
  go_loopw [8, 34] (fun out i wr => ∃ k : Nat, k ≤ n ∧ i = .int .i64 k ∧ Below w2.heap.size w2 wr ∧ wr.ownsRow w2.heap.size 65 3 out k (tcells (strip (ts.take k)) (List.replicate k (.slice none 0 0)))) (fun _ i _ => n - (intOf i).toNat)
  case atStart => exact ⟨0, Nat.zero_le _, rfl, Below.refl _ _, World.ownsRow_nil _ _ _ _⟩
  case round =>
    obtain ⟨k, hk, rfl, hb, hown⟩ := hrel
    have HB := Lib.hid hb
    have HOWN := Lib.hid hown
    have hbs := hb.size
    by_cases hlt : k < n
    · obtain ⟨t, ht⟩ : ∃ t, ts[k]? = some t := ⟨ts[k]'(by have := hn.out; omega), List.getElem?_eq_getElem _⟩
      obtain ⟨A', c', e', _, hx'⟩ := HR2.out.below (HH2.out.2.1.trans (hb.mono HH2.out.2.1.size))
      obtain ⟨ad, J, cj, e1, h0, h1, h2, h3, _⟩ := hx' k t ht
      injection e' with e2 _ e4
      subst e2
      subst e4
      subst e1
      have HT := Lib.hid ht
      obtain ⟨nm, kp, js⟩ := t
      simp only at h1 h2 h3
      have hB4 : Below wr.heap.size wr ((wr.alloc (.cells #[.string nm, .int .i64 kp, .slice J js.length cj] 65)).alloc (.cells #[.string nm, .int .i64 kp, .slice none 0 0] 65)) := ((Below.refl _ _).alloc (Nat.le_refl _) _).alloc (by simp) _
      have HRO := Lib.hid (row_below hown hB4)
      have HB4 := Lib.hid hB4
      have HNW := Lib.hid (heap_alloc_new (wr.alloc (.cells #[.string nm, .int .i64 kp, .slice J js.length cj] 65)) (.cells #[.string nm, .int .i64 kp, .slice none 0 0] 65))
      clear hx' hb hown ht hB4
      go_wp2_with (at_builtin; go_must (refine wpList_append_own_at _ rfl (.tmp 38) (.tmp 44) 32 rfl w2.heap.size 65 i0 _ 3 48 Try.underlying32 hi0 hz0 hz1 hz2 rfl (by decide) _ k _ rfl HRO.out ⟨wr.heap.size + 1, 0, none⟩ 1 1 [.string nm, .int .i64 kp, .slice none 0 0] rfl rfl ?_ ?_ ?_ ?_ ?_ ?_))
      case refine_2 => exact ⟨rfl, rfl, rfl⟩
      case refine_3 => unfold maxLen; omega
      case refine_4 => omega
      case refine_5 => omega
      intro v' w5 hown5 hg5 _ hat5
      have etk : strip (ts.take (k + 1)) = strip (ts.take k) ++ [(nm, kp, [])] := by
        rw [List.take_add_one, HT.out]
        unfold strip
        simp
      have erp : List.replicate (k + 1) (Value.slice none 0 0) = List.replicate k (Value.slice none 0 0) ++ [Value.slice none 0 0] := by rw [List.replicate_succ']
      have hln : (strip (ts.take k)).length = (List.replicate k (Value.slice none 0 0)).length := by
        rw [strip_length, List.length_take, List.length_replicate]
        have := hn.out
        omega
      have HRW : Hid (w5.ownsRow w2.heap.size 65 3 v' (k + 1) (tcells (strip (ts.take (k + 1))) (List.replicate (k + 1) (.slice none 0 0)))) := Lib.hid (by
        rw [etk, erp, tcells_snoc _ _ _ _ hln]
        exact hown5)
      have HBL : Hid (Below w2.heap.size w2 w5) := Lib.hid ((HB.out.trans (HB4.out.mono hbs)).grown hg5 (by simp; omega) (fun g hg => (World.ownsRow.lt HOWN.out g hg).1))
      clear etk erp hln hown5 hg5 hat5
      go_wp2
      go_roundw
      case rel => exact ⟨k + 1, by omega, by go_num, HBL.out, HRW.out⟩
      case measure => simp [intOf]; omega
    · obtain rfl : k = n := by omega
      have hln : (strip ts).length = k := by rw [strip_length]; exact hn.out.symm
      have hrow : wr.ownsRow w2.heap.size 65 3 u8 (strip ts).length (tcells (strip ts) (List.replicate k (.slice none 0 0))) := by
        have := HOWN.out
        rw [List.take_of_length_le (by rw [← hn.out]; omega)] at this
        rw [hln]
        exact this
      have hjk : Junks wr w2.heap.size u8 (strip ts) (List.replicate k (.slice none 0 0)) := by
        refine ⟨by rw [hln, List.length_replicate], fun i v t hv ht => ?_⟩
        have e1 : v = .slice none 0 0 := List.eq_of_mem_replicate (List.mem_of_getElem? hv)
        have e2 := (strip_mem (List.mem_of_getElem? ht)).1
        rw [e1, e2]
        exact ⟨own_nil _ _, fun g hg => by cases hg⟩
      have HRT := Lib.hid (tears_rd hrow hjk)
      have hh3 := HH2.out.alloc hb
      have HH3 := Lib.hid hh3
      have HCP := Lib.hid (copy_made hh3.1)
      clear hln hrow hjk hh3 hb hown
      go_wp2_with fail
      (with_reducible refine HCP.out.mono ?_); rintro e w4 ⟨c, tc, rfl, hc4⟩
      have hp4 := HH3.out.pair hc4
      have HP4 := Lib.hid hp4
      have htl : ∀ k, tag k ≠ none → k < w2.heap.size := HH2.out.1.tags
      have HCR := Lib.hid (crash_made hp4.one.1 w2.heap.size htl u8 (strip ts) (HRT.out.below hc4.2.1) (by rw [strip_length, ← hn.out]; exact hl2) (fun t ht => by
        obtain ⟨_, u, hu, e1, _⟩ := strip_mem ht
        rw [← e1]; exact HS2.out u hu) (fun t ht => by
        obtain ⟨_, u, hu, _, e2⟩ := strip_mem ht
        rw [← e2]; exact HK2.out u hu))
      obtain ⟨z, hz⟩ : ∃ z, Hid (z = crashC fs (strip ts)) := ⟨_, Lib.hid rfl⟩
      rw [← hz.out] at HCR
      clear hp4 hc4 htl
      go_wp2_with fail
      (with_reducible refine HCR.out.mono ?_); rintro e w5 ⟨rfl, hl5⟩
      by_cases hz0 : z = 0
      · have hc0 : tearC fs [] (strip ts) = 0 := by have := hz.out; unfold crashC at this; rw [← this]; exact hz0
        have ecr : crashFs fs (strip ts) = crashF fs (strip ts) := by unfold crashFs; rw [if_pos hc0]
        rw [ecr] at hl5
        have HC0 := Lib.hid hc0
        obtain ⟨t5, hp5⟩ := HP4.out.left hl5
        have HP5 := Lib.hid hp5
        have hq : (z != 0) = false := by rw [hz0]; rfl
        have HF := Lib.hid (files_made hp5.two.1)
        clear hl5 hp5 ecr hc0 hz0
        go_wp2_with fail
        (with_reducible refine HF.out.mono ?_); rintro e w6 ⟨v6, rfl, ho6, hb6⟩
        have HP6 := Lib.hid (HP5.out.alloc hb6)
        obtain ⟨q, hq6⟩ : ∃ q, Hid (q = fs.length) := ⟨_, Lib.hid rfl⟩
        rw [← hq6.out] at ho6
        have hform : ∃ A c, v6 = .slice A q c ∧ q ≤ c := by
          rcases ho6.2 with ⟨rfl, h0⟩ | ⟨g, cap, cur, rfl, _, _, h5, _⟩
          · exact ⟨none, 0, by rw [h0], by omega⟩
          · exact ⟨_, cap, rfl, h5⟩
        have hq64 : q ≤ 64 := by rw [hq6.out]; exact HP6.out.two.1.few
        obtain ⟨A6, c6, rfl, hc6⟩ := hform
        have HO6 := Lib.hid ho6
        clear ho6 hb6
        go_wp2
        go_loopw [61] (fun i wr => ∃ (k : Nat), k ≤ q ∧ i = .int .i64 k ∧ Below w6.heap.size w6 wr) (fun i _ => q - (intOf i).toNat)
        case atStart => exact ⟨0, Nat.zero_le _, rfl, Below.refl _ _⟩
        case round =>
          obtain ⟨k2, hk, rfl, hbr⟩ := hrel
          have HBR := Lib.hid hbr
          clear hbr
          by_cases hlt : k2 < q
          · obtain ⟨g, cg, e, _, hg⟩ := World.ownsRow.form HO6.out (by omega)
            injection e with e1 _ e3
            subst e1
            subst e3
            obtain ⟨f, hf⟩ : ∃ f, fs[k2]? = some f := ⟨fs[k2]'(by rw [← hq6.out]; exact hlt), List.getElem?_eq_getElem _⟩
            obtain ⟨s, hs⟩ : ∃ s : ByteArray, Hid (s = ⟨f.1.toArray⟩) := ⟨_, Lib.hid rfl⟩
            have hsl : s.data.toList = f.1 := by rw [hs.out]
            have hqc : wr.cell? ⟨g, k2, none⟩ = some (.string s) := by
              refine (HBR.out.cell (p := ⟨g, k2, none⟩) hg).trans ?_
              rw [World.ownsRow.cellAt HO6.out k2 (by omega), names_at hf, hs.out]
            have ead : (⟨g, 0, none⟩ : Addr).add k2 = ⟨g, k2, none⟩ := by unfold Addr.add; split <;> simp_all
            have hcan := HCAN.out f (List.mem_of_getElem? hf)
            have hsz : s.size ≤ 9223372036854775807 := by
              have h1 := canS_size hcan
              have h2 := slen s
              rw [hsl] at h2
              omega
            have HL1 : Hid (look fs s.data.toList = some f.2) := Lib.hid (by rw [hsl]; exact look_mem HP6.out.two.1.rise (List.mem_of_getElem? hf))
            have hx0 : f.2.2 ≤ f.2.1.length := by
              obtain ⟨_, _, _, _, _, _, g5⟩ := HP6.out.two.1.struct
              obtain ⟨_, _, _, _, _, h5⟩ := g5 f (List.mem_of_getElem? hf)
              exact h5
            obtain ⟨y, hy1, hy2, hy3⟩ := begins HC0.out HL1.out hx0
            have HL2 := Lib.hid hy1
            have HY2 : Hid (f.2.2 ≤ y.length) := Lib.hid hy2
            have HY3 := Lib.hid (starts_of hy3)
            have HCN : Hid (canS s.data.toList = true) := Lib.hid (by rw [hsl]; exact hcan)
            have HP7 := Lib.hid (HP6.out.alloc HBR.out)
            have HR := Lib.hid (read_made HP7.out.two.1 s hsz)
            clear hsl ead hcan hf hy1 hy2 hy3 hx0
            go_wp2_with fail
            (with_reducible refine HR.out.mono ?_); rintro e w7 ⟨hb7, (⟨hc7, rfl⟩ | ⟨hc7, hl7, rfl⟩ | ⟨hc7, x, p, hl7, rfl, ho7⟩)⟩
            · rw [HCN.out] at hc7; cases hc7
            · rw [HL1.out] at hl7; cases hl7
            obtain rfl : x = f.2 := by rw [HL1.out] at hl7; injection hl7 with hl7; exact hl7.symm
            have hp7 := HP7.out.alloc hb7
            have HPP := Lib.hid hp7
            have HO7 := Lib.hid ho7
            have HB7 := Lib.hid (HBR.out.trans (hb7.mono HBR.out.size))
            have hS := size_made hp7.two.1 s hsz
            rw [show sizeA fs s.data.toList = ((f.2.1.length : Int), (f.2.2 : Int), 0) from ans_here HCN.out HL1.out] at hS
            have HS := Lib.hid hS
            clear hl7 hc7 ho7 hb7 hp7 hS
            go_wp2_with fail
            (with_reducible refine HS.out.mono ?_); rintro e w8 ⟨rfl, hb8⟩
            have hp8 := HPP.out.alloc hb8
            have HP8 := Lib.hid hp8
            have HO8 := Lib.hid (HO7.out.below hb8)
            have HB8 := Lib.hid (HB7.out.trans (hb8.mono HB7.out.size))
            have HR2 := Lib.hid (read_made hp8.one.1 s hsz)
            clear hb8 hp8
            go_wp2_with fail
            (with_reducible refine HR2.out.mono ?_); rintro e w9 ⟨hb9, (⟨hc9, rfl⟩ | ⟨hc9, hl9, rfl⟩ | ⟨hc9, x, p2, hl9, rfl, ho9⟩)⟩
            · rw [HCN.out] at hc9; cases hc9
            · rw [HL2.out] at hl9; cases hl9
            obtain rfl : x = (y, y.length) := by rw [HL2.out] at hl9; injection hl9 with hl9; exact hl9.symm
            have hP := hasPrefix_any p p2 f.2.1 y _ _ _ _ w9 (HO8.out.below hb9).rd (show Own w9 _ p2 y from ho9).rd
            rw [HY3.out] at hP
            have HPX := Lib.hid hP
            have HB9 := Lib.hid (HB8.out.trans (hb9.mono HB8.out.size))
            obtain ⟨Ap, cp, rfl, _, _⟩ := (show Own w9 _ p2 y from ho9).rd
            have hyl := HY2.out
            have dl : decide (y.length < f.2.2) = false := by simp; omega
            clear hl9 hc9 ho9 hb9 hP hyl
            go_wp2_with fail
            (with_reducible refine HPX.out.mono ?_); rintro e w10 ⟨rfl, j, rfl⟩
            have HX := Lib.hid (below_drewN HB9.out j)
            go_wp2
            go_roundw
            case rel => exact ⟨k2 + 1, by omega, by go_num, HX.out⟩
            case measure => simp [intOf]; omega
          · obtain rfl : k2 = q := by omega
            have hp7 := HP6.out.alloc HBR.out
            have HP7 := Lib.hid hp7
            have HCP2 := Lib.hid (copy_made hp7.one.1)
            clear hp7
            go_wp2_with fail
            (with_reducible refine HCP2.out.mono ?_); rintro e w7 ⟨c7, t7, rfl, hc7⟩
            have hpn := HP7.out.one.pair hc7
            have HPN := Lib.hid hpn
            have HP8 := Lib.hid (HP7.out.alloc hc7.2.1)
            have HCR2 := Lib.hid (crash_made hpn.one.1 w7.heap.size hpn.one.1.tags (.slice none 0 0) [] (tears_none _ _) (by simp) (by simp) (by simp))
            have eg : crashFs (crashF fs (strip ts)) [] = crashF fs (strip ts) := by
              unfold crashFs
              rw [if_pos (show tearC (crashF fs (strip ts)) [] [] = 0 from rfl)]
              exact crash_again crash_full
            rw [eg] at HCR2
            rw [show crashC (crashF fs (strip ts)) [] = 0 from rfl] at HCR2
            clear hpn hc7 eg
            go_wp2_with fail
            (with_reducible refine HCR2.out.mono ?_); rintro e w8 ⟨rfl, hl8⟩
            have hwas := HP8.out.two.1.beside HP8.out.apart hl8
            have HWAS := Lib.hid hwas
            obtain ⟨t8, hpn8⟩ := HPN.out.left hl8
            have HPN8 := Lib.hid hpn8
            have HAL := Lib.hid (alike_any hpn8.one.1 hpn8.two.1 false ⟨rfl, fun e => by cases e⟩ (crash_can HCAN.out))
            clear hwas hl8 hpn8
            go_wp2_with fail
            (with_reducible refine HAL.out.mono ?_); rintro e w9 ⟨rfl, hb9⟩
            have HPN9 := Lib.hid (HPN8.out.alloc hb9)
            have HWAS9 := Lib.hid (HWAS.out.same hb9.size fun i hi => hb9.block i (HWAS.out.tags i hi))
            have HF9 := Lib.hid (files_made HPN9.out.one.1)
            clear hb9
            go_wp2_with fail
            (with_reducible refine HF9.out.mono ?_); rintro e w10 ⟨v10, rfl, ho10, hb10⟩
            have HPN10 := Lib.hid (HPN9.out.alloc hb10)
            have HO10 := Lib.hid ho10
            have HF10 := Lib.hid (files_made (HWAS9.out.same hb10.size fun i hi => hb10.block i (HWAS9.out.tags i hi)))
            clear ho10 hb10
            go_wp2_with fail
            (with_reducible refine HF10.out.mono ?_); rintro e w11 ⟨v11, rfl, ho11, hb11⟩
            have HPN11 := Lib.hid (HPN10.out.alloc hb11)
            have HE := Lib.hid (eqNames (row_below HO10.out hb11) ho11 (crashF_names fs (strip ts)).symm (by unfold crashF; rw [List.length_map, ← hq6.out]; omega))
            clear ho11 hb11
            go_wp2_with fail
            (with_reducible refine HE.out.mono ?_); rintro e w12 ⟨rfl, j, rfl⟩
            have HX := Lib.hid (below_drewN HPN11.out.below j)
            go_wp2
            go_ret
            exact ⟨rfl, HX.out⟩
      · have ecr : crashFs fs (strip ts) = fs := by
          unfold crashFs
          rw [if_neg]
          intro h
          exact hz0 (by rw [hz.out]; exact h)
        rw [ecr] at hl5
        obtain ⟨t5, hp5⟩ := HP4.out.left hl5
        have HP5 := Lib.hid hp5
        have hq : (z != 0) = true := by simpa using hz0
        have HAL := Lib.hid (alike_any hp5.one.1 hp5.two.1 true ⟨rfl, fun _ => rfl⟩ HCAN.out)
        clear hl5 hp5 ecr hz0
        go_wp2_with fail
        (with_reducible refine HAL.out.mono ?_); rintro e w6 ⟨rfl, hb6⟩
        have HB6 := Lib.hid (HP5.out.alloc hb6).below
        clear hb6
        go_wp2
        go_ret
        exact ⟨rfl, HB6.out⟩
end Go.Proofs.Ytaignkjcogmcjaa
