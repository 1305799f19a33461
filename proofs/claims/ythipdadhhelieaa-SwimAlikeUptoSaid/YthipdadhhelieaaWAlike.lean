/- SwimAlike. -/
import Derived.Test.YthipdadhhelieaaWAlikeS
namespace Go.Proofs.Ythipdadhhelieaa
open Go.RowKit Go.Sort Go.BigFrame

set_option maxRecDepth 100000 in
set_option maxHeartbeats 12800000 in
theorem alike_walk (lv : Value) (l : List PeerA) (Ao : Option Addr) (no co : Nat) (An : Option Addr) (nn cn : Nat) (w : World) (h : RdD w lv l) (hl : l.length ≤ 1048576) (ho : RdN .u64 w Ao no) (hno : no ≤ co ∧ no ≤ 1048576) (hn : RdN .i64 w An nn) :
    Calls Try.prog 7 #[lv, .slice Ao no co, .slice An nn cn] w fun e w' => e = .returned (.bool true) ∧ Below w.heap.size w w' := by
  obtain ⟨Al, cl, rfl, hcl, hx⟩ := h
  obtain ⟨n, hnl⟩ : ∃ n, Hid (n = l.length) := ⟨_, Lib.hid rfl⟩
  rw [← hnl.out] at hl hcl ⊢
  have HX := Lib.hid hx
  have HO := Lib.hid ho
  have HN := Lib.hid hn
  have hno1 := hno.2
  obtain ⟨W0, hW0⟩ : ∃ W0, Hid (W0 = w.alloc (.cells #[.slice An nn cn] 77)) := ⟨_, Lib.hid rfl⟩
  have HB0 : Hid (Below w.heap.size w W0) := Lib.hid (by rw [hW0.out]; exact (Below.refl _ _).alloc (Nat.le_refl _) _)
  have HZ0 : Hid (W0.heap.size = w.heap.size + 1) := Lib.hid (by rw [hW0.out]; simp)
  have HC0 : Hid (W0.cell? ⟨w.heap.size, 0, none⟩ = some (.slice An nn cn)) := Lib.hid (by rw [hW0.out]; exact box_cell _ _ _ 0)
  have HNA := Lib.hid (new_zero W0)
  have HNB := fun w' => Lib.hid (new_one w')
  have HAW := fun w' => Lib.hid (awake_any w')
  clear hx ho hn hno
  go_enter Try.func7, Try.ntmps7
  go_upto_region 1 with fail
  rw [← hW0.out]
  go_upto_region 5 with (first
    | (go_at_call 11
       (with_reducible refine HNA.out.mono ?_); rintro e w1 ⟨g0, hg0, rfl, ht0, hb1⟩
       have HT0 := Lib.hid ht0
       have HG0 := Lib.hid hg0
       have HB1 := Lib.hid hb1
       clear ht0 hg0 hb1)
    | (go_at_call 11
       (with_reducible refine (HNB _).out.mono ?_); rintro e w2 ⟨g1, hg1, rfl, ht1, hb2⟩
       have HT1 := Lib.hid ht1
       have HG1 := Lib.hid hg1
       have HB2 := Lib.hid hb2
       clear ht1 hg1 hb2)
    | (go_at_call 13
       (with_reducible refine (HAW _).out.mono ?_); rintro e W ⟨rfl, hb3⟩
       have HB3 := Lib.hid hb3
       clear hb3))
  have HL0 : Hid (g0 < w1.heap.size) := Lib.hid HT0.out.lt
  have HL1 : Hid (g1 < w2.heap.size) := Lib.hid HT1.out.lt
  have HFX : Hid (Fx w.heap.size g0 g1 w.heap.size W.heap.size) := Lib.hid (by
    have a1 := HZ0.out; have a2 := HG0.out; have a3 := HG1.out; have a4 := HL0.out; have a5 := HL1.out; have a6 := HB3.out.size; have a7 := HB2.out.size; have a8 := HB1.out.size
    exact ⟨by omega, by omega, by omega, by omega, by omega, by omega, by omega⟩)
  have HBW : Hid (Below w.heap.size w W) := Lib.hid (((HB0.out.trans (HB1.out.mono HB0.out.size)).trans (HB2.out.mono (Nat.le_trans HB0.out.size HB1.out.size))).trans (HB3.out.mono (Nat.le_trans HB0.out.size (Nat.le_trans HB1.out.size HB2.out.size))))
  have HTA : Hid (TabAt W g0 T1) := Lib.hid ((HT0.out.below HB2.out HL0.out).below HB3.out (Nat.lt_of_lt_of_le HL0.out HB2.out.size))
  have HTB : Hid (TabAt W g1 U1) := Lib.hid (HT1.out.below HB3.out HL1.out)
  have HCW : Hid (W.cell? ⟨w.heap.size, 0, none⟩ = some (.slice An nn cn)) := Lib.hid (by
    have a1 := HZ0.out; have a8 := HB1.out.size; have a7 := HB2.out.size
    rw [HB3.out.cell (p := ⟨w.heap.size, 0, none⟩) (by show w.heap.size < _; omega), HB2.out.cell (p := ⟨w.heap.size, 0, none⟩) (by show w.heap.size < _; omega), HB1.out.cell (p := ⟨w.heap.size, 0, none⟩) (by show w.heap.size < _; omega)]
    exact HC0.out)
  have HXW : Hid (RdDA W w.heap.size Al l) := Lib.hid (HX.out.below HBW.out (Nat.le_refl _))
  clear HNA HNB HAW HX HT0 HT1 HB0 HB1 HB2 HB3 HG0 HG1 HL0 HL1 HZ0 HC0 hW0
  go_wp2
  go_loopw [49, 11] (fun i x wr => ∃ (k : Nat) (v : Value), k ≤ n ∧ v = x ∧ i = .int .i64 k ∧ Hid (OwnD 38 wr W.heap.size v (selP (l.take k))) ∧ Hid (Below W.heap.size W wr)) (fun i _ _ => n - (intOf i).toNat)
  case atStart => exact ⟨0, _, Nat.zero_le _, rfl, rfl, Lib.hid (ownD_nil _ _ _), Lib.hid (Below.refl _ _)⟩
  case round =>
    obtain ⟨k, v, hk, rfl, rfl, HOW, HBR⟩ := hrel
    by_cases hlt : k < n
    · obtain ⟨d, hd⟩ : ∃ d, l[k]? = some d := ⟨l[k]'(by have := hnl.out; omega), List.getElem?_eq_getElem _⟩
      obtain ⟨ad, rfl, hadlt, d0, d1, d2⟩ := (HXW.out.below HBR.out HBW.out.size) k d hd
      have HS := Lib.hid (selP_take hd)
      obtain ⟨V, hV⟩ : ∃ V, Hid (V = wr.alloc (.cells #[.int .i64 d.1, .int .i64 d.2.1, .int .i64 d.2.2] 38)) := ⟨_, Lib.hid rfl⟩
      have v0 : V.cell? ⟨wr.heap.size, 0, none⟩ = some (.int .i64 d.1) := by rw [hV.out]; exact box_cell _ _ _ 0
      have v1 : V.cell? ⟨wr.heap.size, 1, none⟩ = some (.int .i64 d.2.1) := by rw [hV.out]; exact box_cell _ _ _ 1
      have v2 : V.cell? ⟨wr.heap.size, 2, none⟩ = some (.int .i64 d.2.2) := by rw [hV.out]; exact box_cell _ _ _ 2
      have hbV : Below wr.heap.size wr V := by rw [hV.out]; exact (Below.refl _ _).alloc (Nat.le_refl _) _
      have HBV : Hid (Below W.heap.size W V) := Lib.hid (HBR.out.trans (hbV.mono HBR.out.size))
      have HOV := Lib.hid (HOW.out.below hbV)
      clear hd hbV
      go_upto_region 9 with fail
      rw [← hV.out]
      clear d0 d1 d2
      cases hq : decide (d.1 > 1) with
      | true =>
        have HS2 : Hid (selP (l.take (k + 1)) = selP (l.take k) ++ [d]) := Lib.hid (by rw [HS.out, hq]; rfl)
        have hbA : Below V.heap.size V (V.alloc (.cells #[.int .i64 d.1, .int .i64 d.2.1, .int .i64 d.2.2] 38)) := (Below.refl _ _).alloc (Nat.le_refl _) _
        have HOA := Lib.hid (HOV.out.below hbA)
        have HR1 : Hid (RdDA (V.alloc (.cells #[.int .i64 d.1, .int .i64 d.2.1, .int .i64 d.2.2] 38)) (V.heap.size + 1) (some ⟨V.heap.size, 0, none⟩) [d]) := Lib.hid (fun j x hj => by
          match j, hj with
          | 0, hj =>
            have e : d = x := by simpa using hj
            subst e
            exact ⟨_, rfl, Nat.lt_succ_self _, box_cell _ _ _ 0, box_cell _ _ _ 1, box_cell _ _ _ 2⟩
          | j + 1, hj => simp at hj)
        have HBA : Hid (Below W.heap.size W (V.alloc (.cells #[.int .i64 d.1, .int .i64 d.2.1, .int .i64 d.2.2] 38))) := Lib.hid (HBV.out.trans (hbA.mono HBV.out.size))
        have h63 : (selP (l.take k)).length + [d].length ≤ 1099511627776 := by
          have h1 := selP_len (l.take k)
          have h2 : (l.take k).length ≤ k := by rw [List.length_take]; exact Nat.min_le_left _ _
          simp only [List.length_cons, List.length_nil]; omega
        have hzz := HBA.out.size
        clear hbA
        go_wp2_with (at_builtin; go_must (refine wpList_append_dots Try.underlying31 infoPeer _ rfl (.tmp 56) (.tmp 58) rfl (by rfl) HOA.out (by rfl) (by rfl) HR1.out h63 hzz ?_))
        intro v5 w5 ho5 hg5 _
        obtain ⟨A5, c5, hv5⟩ := ownD_slice ho5
        obtain ⟨m5, hm5⟩ : ∃ m5, Hid (m5 = (selP (l.take k) ++ [d]).length) := ⟨_, Lib.hid rfl⟩
        rw [← hm5.out] at hv5
        subst hv5
        have HO5 : Hid (OwnD 38 w5 W.heap.size (.slice A5 m5 c5) (selP (l.take (k + 1)))) := Lib.hid (by rw [HS2.out]; exact ho5)
        have HB5 : Hid (Below W.heap.size W w5) := Lib.hid (HBA.out.grown hg5 hzz (fun g e => (World.ownsRow.lt HOA.out g e).1))
        clear ho5 hg5 h63 hzz
        go_wp2
        go_roundw
        case rel => exact ⟨k + 1, _, by omega, rfl, by go_num, HO5, HB5⟩
        case measure => simp [intOf]; omega
      | false =>
        have HO5 : Hid (OwnD 38 V W.heap.size v (selP (l.take (k + 1)))) := Lib.hid (by rw [HS.out, hq]; simpa using HOV.out)
        go_wp2
        go_roundw
        case rel => exact ⟨k + 1, _, by omega, rfl, by go_num, HO5, HBV⟩
        case measure => simp [intOf]; omega
    · obtain rfl : k = n := by omega
      have hoa : OwnD 38 wr W.heap.size v (selP l) := by have := HOW.out; rw [hnl.out, List.take_length] at this; exact this
      obtain ⟨Aa, ca, hva⟩ := ownD_slice hoa
      obtain ⟨na, hna⟩ : ∃ na, Hid (na = (selP l).length) := ⟨_, Lib.hid rfl⟩
      rw [← hna.out] at hva
      subst hva
      have HLA : Hid (na ≤ 1048576) := Lib.hid (by have := selP_len l; have := hna.out; have := hnl.out; omega)
      have hla := HLA.out
      have HSW : Hid (Sw w wr g0 g1 w.heap.size W.heap.size (.slice An nn cn) (.slice Aa na ca) (selP l) T1 U1) := Lib.hid ⟨HBW.out.trans (HBR.out.mono HBW.out.size), HTA.out.below HBR.out HTA.out.lt, HTB.out.below HBR.out HTB.out.lt, hoa, (HBR.out.cell (p := ⟨w.heap.size, 0, none⟩) (World.block_lt_of_cell? W _ HCW.out)).trans HCW.out⟩
      have HTWO : Hid (∀ y ∈ selP l, 2 ≤ y.1) := Lib.hid fun y hy => selP_two hy
      generalize selP l = all at *
      clear hoa HOW HBR HXW hnl hl
      obtain ⟨wo, hwo⟩ : ∃ wo : World, wo = wr := ⟨_, rfl⟩
      subst hwo
      go_wp2
      go_loopw [64] (fun i wr => ∃ (k : Nat) (ta : TabA), k ≤ na ∧ i = .int .i64 k ∧ Hid (Sw w wr g0 g1 w.heap.size W.heap.size (.slice An nn cn) (.slice Aa na ca) all ta U1) ∧ Hid (Inv T1 ta (all.take k))) (fun i _ => na - (intOf i).toNat)
      case atStart => exact ⟨0, T1, Nat.zero_le _, rfl, HSW, Lib.hid inv_T1⟩
      case round =>
        obtain ⟨k, ta, hk, rfl, HSR, HIR⟩ := hrel
        by_cases hlt : k < na
        · obtain ⟨d, hd⟩ : ∃ d, all[k]? = some d := ⟨all[k]'(by have := hna.out; omega), List.getElem?_eq_getElem _⟩
          have HT1 : Hid (all.take (k + 1) = all.take k ++ [d]) := Lib.hid (by rw [List.take_add_one, hd]; rfl)
          have HD2 : Hid (2 ≤ d.1) := Lib.hid (HTWO.out d (List.mem_of_getElem? hd))
          obtain ⟨A9, c9, he9, _, hr9⟩ := HSR.out.own.rd
          have eA : A9 = Aa := by injection he9 with e1 e2 e3; exact e1.symm
          rw [eA] at hr9
          obtain ⟨ad, rfl, hadlt, d0, d1, d2⟩ := hr9 k d hd
          clear he9 hr9 eA
          obtain ⟨V, hV⟩ : ∃ V, Hid (V = wr.alloc (.cells #[.int .i64 d.1, .int .i64 d.2.1, .int .i64 d.2.2] 38)) := ⟨_, Lib.hid rfl⟩
          have v0 : V.cell? ⟨wr.heap.size, 0, none⟩ = some (.int .i64 d.1) := by rw [hV.out]; exact box_cell _ _ _ 0
          have v1 : V.cell? ⟨wr.heap.size, 1, none⟩ = some (.int .i64 d.2.1) := by rw [hV.out]; exact box_cell _ _ _ 1
          have v2 : V.cell? ⟨wr.heap.size, 2, none⟩ = some (.int .i64 d.2.2) := by rw [hV.out]; exact box_cell _ _ _ 2
          have HSV : Hid (Sw w V g0 g1 w.heap.size W.heap.size (.slice An nn cn) (.slice (some ad) na ca) all ta U1) := Lib.hid (HSR.out.below (V := V) (by rw [hV.out]; exact (Below.refl _ _).alloc (Nat.le_refl _) _))
          have HWN : ∀ U : World, Below V.heap.size V U → Hid (Calls Try.prog 30 #[.int .i64 (k : Int), .pointer (some ⟨w.heap.size, 0, none⟩)] U fun e w' => (∃ x : Int, e = .returned (.int .i64 x)) ∧ U = w') := fun U hU => Lib.hid (when_any _ An nn cn k U (HSV.out.below hU).cell (HN.out.below (HSV.out.below hU).bel))
          have HHE : ∀ (U : World) (x : Int), Below V.heap.size V U → U.heap[V.heap.size]? = some (.cells #[.int .i64 d.1, .int .i64 d.2.1, .int .i64 d.2.2] 38 (0, 0)) → Hid (Calls Try.prog 15 #[.pointer (some ⟨g0, 0, none⟩), .slice (some ⟨V.heap.size, 0, none⟩) 1 1, .int .i64 x] U fun e w' => (∃ v, e = .returned v) ∧ ∃ T, Hid (Sw w w' g0 g1 w.heap.size W.heap.size (.slice An nn cn) (.slice (some ad) na ca) all T U1) ∧ Hid (Inv T1 T (all.take (k + 1)))) := by
            intro U x hU hrU
            have hSU := HSV.out.below hU
            obtain ⟨hs, hkn⟩ := knowsA HIR.out
            refine Lib.hid ((hear_sem g0 V.heap.size ta d HD2.out 0 (by decide) hs hkn x U hSU.a hrU (by have := HSV.out.a.lt; omega)).mono ?_)
            rintro e w' ⟨he, ⟨T, hT, hS⟩, hg⟩
            exact ⟨he, T, Lib.hid (hSU.turnA HFX.out hT hg), Lib.hid (by rw [HT1.out]; exact HIR.out.step hS)⟩
          clear hd
          go_upto_region 16 with fail
          rw [← hV.out]
          clear d0 d1 d2
          go_region_law (first
            | (go_simp; go_at_call 30
               (with_reducible refine (HWN _ ?_).out.mono ?_)
               · first | exact Below.refl _ _ | exact (Below.refl _ _).drew | exact ((Below.refl _ _).drew).alloc (Nat.le_refl _) _ | exact (Below.refl _ _).alloc (Nat.le_refl _) _
               rintro e w2 ⟨⟨x2, rfl⟩, rfl⟩)
            | (go_simp; go_at_call 15
               (with_reducible refine (HHE _ _ ?_ ?_).out.mono ?_)
               · first | exact ((Below.refl _ _).drew).alloc (Nat.le_refl _) _ | exact (Below.refl _ _).alloc (Nat.le_refl _) _
               · exact heap_alloc_new _ _
               rintro e w3 ⟨⟨v3, rfl⟩, T, hST, hIT⟩))
          all_goals
            go_wp2
            go_roundw
            case rel => exact ⟨k + 1, T, by omega, by go_num, hST, hIT⟩
            case measure => simp [intOf]; omega
        · obtain rfl : na = k := by omega
          have HIA : Hid (Inv T1 ta all) := Lib.hid (by have := HIR.out; rw [hna.out, List.take_length] at this; exact this)
          clear HIR HSW
          obtain ⟨wo, hwo⟩ : ∃ wo : World, wo = wr := ⟨_, rfl⟩
          subst hwo
          go_wp2
          go_loopw [79] (fun i wr => ∃ (k : Nat) (tb : TabA) (M : List PeerA), k ≤ no ∧ i = .int .i64 k ∧ Hid (Sw w wr g0 g1 w.heap.size W.heap.size (.slice An nn cn) (.slice Aa na ca) all ta tb) ∧ Hid (Inv U1 tb M) ∧ Hid (∀ y ∈ M, y ∈ all)) (fun i _ => no - (intOf i).toNat)
          case atStart => exact ⟨0, U1, [], Nat.zero_le _, rfl, HSR, Lib.hid inv_U1, Lib.hid (fun y hy => by cases hy)⟩
          case round =>
            obtain ⟨k, tb, M, hk, rfl, HSR2, HIB, HMA⟩ := hrel
            by_cases hlt : k < no
            · obtain ⟨ao, rfl, haolt, z, hz, hz0, hz1⟩ := HO.out.below HSR2.out.bel k hlt
              by_cases hp : 0 < na
              · obtain ⟨q, rfl⟩ : ∃ q : Nat, z = (q : Int) := ⟨z.toNat, (Int.toNat_of_nonneg hz0).symm⟩
                have eqm : (q : Int).tmod (na : Int) = ((q % na : Nat) : Int) := Int.ofNat_tmod q na
                have hqm : q % na < na := Nat.mod_lt _ hp
                obtain ⟨m, hm⟩ : ∃ m, m = q % na := ⟨_, rfl⟩
                rw [← hm] at eqm hqm
                have ewn : IntKind.u64.wrap (na : Int) = (na : Int) := IntWalk.u64_in _ (by omega)
                have enz : ¬ IntKind.u64.wrap (na : Int) = 0 := by rw [ewn]; omega
                rw [← ewn] at eqm
                have b0 : (0 : Int) ≤ (m : Int) := by omega
                have b1 : (m : Int) < (na : Int) := by omega
                clear ewn hz0 hz1
                obtain ⟨d, hd⟩ : ∃ d, all[m]? = some d := ⟨all[m]'(by have := hna.out; omega), List.getElem?_eq_getElem _⟩
                have HD2 : Hid (2 ≤ d.1) := Lib.hid (HTWO.out d (List.mem_of_getElem? hd))
                have HDA : Hid (d ∈ all) := Lib.hid (List.mem_of_getElem? hd)
                obtain ⟨A9, c9, he9, _, hr9⟩ := HSR2.out.own.rd
                have eA : A9 = Aa := by injection he9 with e1 e2 e3; exact e1.symm
                rw [eA] at hr9
                obtain ⟨ad, rfl, hadlt, d0, d1, d2⟩ := hr9 m d hd
                clear he9 hr9 eA
                have HWN : ∀ U : World, Below wr.heap.size wr U → Hid (Calls Try.prog 30 #[.int .i64 (k : Int), .pointer (some ⟨w.heap.size, 0, none⟩)] U fun e w' => (∃ x : Int, e = .returned (.int .i64 x)) ∧ U = w') := fun U hU => Lib.hid (when_any _ An nn cn k U (HSR2.out.below hU).cell (HN.out.below (HSR2.out.below hU).bel))
                have HHE : ∀ (U : World) (x : Int), Below wr.heap.size wr U → U.heap[wr.heap.size]? = some (.cells #[.int .i64 d.1, .int .i64 d.2.1, .int .i64 d.2.2] 38 (0, 0)) → Hid (Calls Try.prog 15 #[.pointer (some ⟨g1, 0, none⟩), .slice (some ⟨wr.heap.size, 0, none⟩) 1 1, .int .i64 x] U fun e w' => (∃ v, e = .returned v) ∧ ∃ T, Hid (Sw w w' g0 g1 w.heap.size W.heap.size (.slice An nn cn) (.slice (some ad) na ca) all ta T) ∧ Hid (Inv U1 T (M ++ [d]))) := by
                  intro U x hU hrU
                  have hSU := HSR2.out.below hU
                  obtain ⟨hs, hkn⟩ := knowsB HIB.out
                  refine Lib.hid ((hear_sem g1 wr.heap.size tb d HD2.out 1 (by decide) hs hkn x U hSU.b hrU (by have := HSR2.out.b.lt; omega)).mono ?_)
                  rintro e w' ⟨he, ⟨T, hT, hS⟩, hg⟩
                  exact ⟨he, T, Lib.hid (hSU.turnB HFX.out hT hg), Lib.hid (HIB.out.step hS)⟩
                clear hd hm
                go_upto_region 22 with fail
                go_region_law (first
                  | (go_simp; go_at_call 30
                     (with_reducible refine (HWN _ ?_).out.mono ?_)
                     · first | exact Below.refl _ _ | exact (Below.refl _ _).drew | exact ((Below.refl _ _).drew).alloc (Nat.le_refl _) _ | exact (Below.refl _ _).alloc (Nat.le_refl _) _
                     rintro e w2 ⟨⟨x2, rfl⟩, rfl⟩)
                  | (go_simp; go_at_call 15
                     (with_reducible refine (HHE _ _ ?_ ?_).out.mono ?_)
                     · first | exact ((Below.refl _ _).drew).alloc (Nat.le_refl _) _ | exact (Below.refl _ _).alloc (Nat.le_refl _) _
                     · exact heap_alloc_new _ _
                     rintro e w3 ⟨⟨v3, rfl⟩, T, hST, hIT⟩))
                all_goals
                  go_wp2
                  go_roundw
                  case rel => exact ⟨k + 1, T, M ++ [d], by omega, by go_num, hST, hIT, Lib.hid (fun y hy => by
                    rcases List.mem_append.1 hy with hy | hy
                    · exact HMA.out y hy
                    · have e : y = d := by simpa using hy
                      rw [e]; exact HDA.out)⟩
                  case measure => simp [intOf]; omega
              · obtain rfl : na = 0 := by omega
                go_wp2
                go_roundw
                case rel => exact ⟨k + 1, tb, M, by omega, by go_num, HSR2, HIB, HMA⟩
                case measure => simp [intOf]; omega
            · obtain rfl : no = k := by omega
              obtain ⟨wo, hwo⟩ : ∃ wo : World, wo = wr := ⟨_, rfl⟩
              subst hwo
              go_wp2
              clear HO HN HSR
              go_loopw [104] (fun i wr => ∃ (k : Nat) (tb : TabA) (M : List PeerA), k ≤ na ∧ i = .int .i64 k ∧ Hid (Sw w wr g0 g1 w.heap.size W.heap.size (.slice An nn cn) (.slice Aa na ca) all ta tb) ∧ Hid (Inv U1 tb M) ∧ Hid (∀ y ∈ M, y ∈ all) ∧ Hid (∀ j d, na ≤ j + k → all[j]? = some d → d ∈ M)) (fun i _ => na - (intOf i).toNat)
              case atStart => exact ⟨0, tb, M, Nat.zero_le _, rfl, HSR2, HIB, HMA, Lib.hid (fun j d h1 h2 => by
                have := (List.getElem?_eq_some_iff.1 h2).1
                have := hna.out
                omega)⟩
              case round =>
                clear HSR2 HIB HMA
                obtain ⟨k, tb, M, hk, rfl, HSR2, HIB, HMA, HMB⟩ := hrel
                by_cases hlt : k < na
                · obtain ⟨m, hm⟩ : ∃ m : Nat, m + k + 1 = na := ⟨na - k - 1, by omega⟩
                  have ew1 : IntKind.i64.wrap ((na : Int) - 1) = (na : Int) - 1 := IntWalk.i64_in _ (by omega)
                  have ew2 : IntKind.i64.wrap ((na : Int) - 1 - (k : Int)) = (m : Int) := by rw [IntWalk.i64_in _ (by omega)]; omega
                  have b0 : (0 : Int) ≤ (m : Int) := by omega
                  have b1 : (m : Int) < (na : Int) := by omega
                  obtain ⟨d, hd⟩ : ∃ d, all[m]? = some d := ⟨all[m]'(by have := hna.out; omega), List.getElem?_eq_getElem _⟩
                  have HD2 : Hid (2 ≤ d.1) := Lib.hid (HTWO.out d (List.mem_of_getElem? hd))
                  have HDA : Hid (d ∈ all) := Lib.hid (List.mem_of_getElem? hd)
                  have HMC : Hid (∀ j x, na ≤ j + (k + 1) → all[j]? = some x → x ∈ M ++ [d]) := Lib.hid (fun j x h1 h2 => by
                    by_cases hj : na ≤ j + k
                    · exact List.mem_append.2 (.inl (HMB.out j x hj h2))
                    · obtain rfl : j = m := by omega
                      rw [hd] at h2
                      injection h2 with h2
                      exact List.mem_append.2 (.inr (by rw [h2]; exact List.mem_singleton.2 rfl)))
                  obtain ⟨A9, c9, he9, _, hr9⟩ := HSR2.out.own.rd
                  have eA : A9 = Aa := by injection he9 with e1 e2 e3; exact e1.symm
                  rw [eA] at hr9
                  obtain ⟨ad, rfl, hadlt, d0, d1, d2⟩ := hr9 m d hd
                  clear he9 hr9 eA
                  have HHE : ∀ (U : World) (x : Int), Below wr.heap.size wr U → U.heap[wr.heap.size]? = some (.cells #[.int .i64 d.1, .int .i64 d.2.1, .int .i64 d.2.2] 38 (0, 0)) → Hid (Calls Try.prog 15 #[.pointer (some ⟨g1, 0, none⟩), .slice (some ⟨wr.heap.size, 0, none⟩) 1 1, .int .i64 x] U fun e w' => (∃ v, e = .returned v) ∧ ∃ T, Hid (Sw w w' g0 g1 w.heap.size W.heap.size (.slice An nn cn) (.slice (some ad) na ca) all ta T) ∧ Hid (Inv U1 T (M ++ [d]))) := by
                    intro U x hU hrU
                    have hSU := HSR2.out.below hU
                    obtain ⟨hs, hkn⟩ := knowsB HIB.out
                    refine Lib.hid ((hear_sem g1 wr.heap.size tb d HD2.out 1 (by decide) hs hkn x U hSU.b hrU (by have := HSR2.out.b.lt; omega)).mono ?_)
                    rintro e w' ⟨he, ⟨T, hT, hS⟩, hg⟩
                    exact ⟨he, T, Lib.hid (hSU.turnB HFX.out hT hg), Lib.hid (HIB.out.step hS)⟩
                  clear hd
                  go_wp2_with (first
                    | (go_at_call 15
                       (with_reducible refine (HHE _ _ ?_ ?_).out.mono ?_)
                       · exact (Below.refl _ _).alloc (Nat.le_refl _) _
                       · exact heap_alloc_new _ _
                       rintro e w3 ⟨⟨v3, rfl⟩, T, hST, hIT⟩))
                  go_roundw
                  case rel => exact ⟨k + 1, T, M ++ [d], by omega, by go_num, hST, hIT, Lib.hid (fun y hy => by
                    rcases List.mem_append.1 hy with hy | hy
                    · exact HMA.out y hy
                    · have e : y = d := by simpa using hy
                      rw [e]; exact HDA.out), HMC⟩
                  case measure => simp [intOf]; omega
                · obtain rfl : na = k := by omega
                  have HEQ : Hid (∀ y, y ∈ all ↔ y ∈ M) := Lib.hid fun y => ⟨fun hy => by
                    obtain ⟨j, hj⟩ := List.getElem?_of_mem hy
                    exact HMB.out j y (by omega) hj, fun hy => HMA.out y hy⟩
                  have HOE : Hid (ta.others = tb.others) := Lib.hid (others_eq HIA.out HIB.out HEQ.out)
                  obtain ⟨a1, a2⟩ := knowsA HIA.out
                  obtain ⟨q1, q2⟩ := knowsB HIB.out
                  have HLO : Hid (ta.others.length ≤ 1048576) := Lib.hid (by have := peers_len ta 8; rw [peersA HIA.out] at this; simp only [List.length_cons] at this; omega)
                  have HC1 : ∀ U : World, Below wr.heap.size wr U → Hid (Calls Try.prog 31 #[.pointer (some ⟨g0, 0, none⟩)] U fun e w' => ∃ v, e = .returned v ∧ RdD w' v ta.others ∧ Below U.heap.size U w') := fun U hU => Lib.hid (others_any g0 ta 0 (by decide) a1 a2 (0, 0, 1) (by decide) (peersA HIA.out) (others_two HIA.out) U (HSR2.out.below hU).a)
                  have HC2 : ∀ U : World, Below wr.heap.size wr U → Hid (Calls Try.prog 31 #[.pointer (some ⟨g1, 0, none⟩)] U fun e w' => ∃ v, e = .returned v ∧ RdD w' v tb.others ∧ Below U.heap.size U w') := fun U hU => Lib.hid (others_any g1 tb 1 (by decide) q1 q2 (1, 0, 1) (by decide) (peersB HIB.out) (others_two HIB.out) U (HSR2.out.below hU).b)
                  have HBE := Lib.hid HSR2.out.bel
                  clear a1 a2 q1 q2 HEQ HMA HMB HIA HIB HSR2
                  go_upto_region 30 with fail
                  go_wp2_with (first
                    | (go_at_call 31
                       (with_reducible refine (HC1 _ ?_).out.mono ?_)
                       · exact Below.refl _ _
                       rintro e w1 ⟨v1, rfl, hr1, hb1⟩
                       have HR1 := Lib.hid hr1
                       have HB1 := Lib.hid hb1
                       clear hr1 hb1)
                    | (go_at_call 31
                       (with_reducible refine (HC2 _ ?_).out.mono ?_)
                       · exact HB1.out
                       rintro e w2 ⟨v2, rfl, hr2, hb2⟩
                       have HE := Lib.hid (equalP_same v1 v2 ta.others w2 (HR1.out.below hb2) (by rw [HOE.out]; exact hr2) HLO.out)
                       have HB2 := Lib.hid (HB1.out.trans (hb2.mono HB1.out.size))
                       clear hr2 hb2)
                    | (go_at_call 17
                       (with_reducible refine HE.out.mono ?_)
                       rintro e w3 ⟨rfl, hb3⟩))
                  go_ret
                  exact ⟨rfl, HBE.out.trans ((HB2.out.trans (hb3.mono HB2.out.size)).mono HBE.out.size)⟩
end Go.Proofs.Ythipdadhhelieaa
