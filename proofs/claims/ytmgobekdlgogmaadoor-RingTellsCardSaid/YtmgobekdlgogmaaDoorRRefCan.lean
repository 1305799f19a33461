/- The shape of a ring, and whether a ring may be: the document's answers. -/
import Derived.Test.YtmgobekdlgogmaaDoorRShape
namespace Go.Proofs.YtmgobekdlgogmaaDoor
open Go.RowKit Go.Sort Go.BigFrame
open Go.Lib (byteCells byteCells_length)

theorem below_drewM {B : Nat} {a w : World} (h : Below B a w) (n : Nat) : Below B a (w.drewN n) := ⟨h.os, h.tape, h.output, h.size, h.block⟩

set_option maxRecDepth 100000 in
set_option maxHeartbeats 1600000 in
theorem refShape_any (p c s : Int) (A : Option Addr) (n cap : Nat) (w : World) :
    Calls Tryd.prog 33 #[.agg #[.int .i64 p, .int .i64 c, .int .i64 s, .slice A n cap]] w fun e w' => e = .returned (.bool (okShape p c s)) ∧ Below w.heap.size w w' := by
  obtain ⟨W, hW⟩ : ∃ W, Hid (W = w.alloc (.cells #[.int .i64 p, .int .i64 c, .int .i64 s, .slice A n cap] 24)) := ⟨_, Lib.hid rfl⟩
  have HB : Hid (Below w.heap.size w W) := Lib.hid (by rw [hW.out]; exact (Below.refl _ _).alloc (Nat.le_refl _) _)
  have k0 : W.cell? ⟨w.heap.size, 0, none⟩ = some (.int .i64 p) := by rw [hW.out]; exact box_cellR _ _ _ 0
  have k1 : W.cell? ⟨w.heap.size, 1, none⟩ = some (.int .i64 c) := by rw [hW.out]; exact box_cellR _ _ _ 1
  have k2 : W.cell? ⟨w.heap.size, 2, none⟩ = some (.int .i64 s) := by rw [hW.out]; exact box_cellR _ _ _ 2
  have HP : Hid (∃ u, Calls Tryd.prog 41 #[.int .u64 0, .int .i64 p] W fun e w' => e = .returned (.tuple #[.int .i64 u, .bool (isPow p)]) ∧ W = w') := Lib.hid (by
    cases hp : isPow p with
    | true => exact ⟨_, refPartition_yes 0 (Int.le_refl _) (by decide) p hp W⟩
    | false => exact ⟨_, refPartition_no 0 p hp W⟩)
  obtain ⟨x, hx⟩ : ∃ x, Hid (x = isPow p) := ⟨_, Lib.hid rfl⟩
  obtain ⟨r, hr⟩ : ∃ r, Hid (r = okShape p c s) := ⟨_, Lib.hid rfl⟩
  have E : Hid (r = (x && withinB c 5 && withinB s 16)) := Lib.hid (by rw [hr.out, hx.out]; rfl)
  rw [← hx.out] at HP
  rw [← hr.out]
  obtain ⟨u, hP⟩ := HP.out
  have HP2 := Lib.hid hP
  have hWe := hW.out.symm
  clear hP
  go_enter Tryd.func33, Tryd.ntmps33
  go_upto_region 1 with fail
  clear hWe
  go_wp2_with fail
  (with_reducible refine HP2.out.mono ?_); rintro e w1 ⟨rfl, rfl⟩
  cases x with
  | false =>
    go_wp2
    go_ret
    exact ⟨ret_bool (by rw [E.out]; rfl), HB.out⟩
  | true =>
    by_cases c1 : 1 ≤ c
    · by_cases c5 : c ≤ 5
      · have F : Hid (withinB c 5 = true) := Lib.hid (by unfold withinB; simp [c1, c5])
        by_cases s1 : 1 ≤ s
        · by_cases s2 : s ≤ 16
          · have F2 : Hid (withinB s 16 = true) := Lib.hid (by unfold withinB; simp [s1, s2])
            go_wp2
            go_ret
            exact ⟨ret_bool (by rw [E.out, F.out, F2.out]; rfl), HB.out⟩
          · have F2 : Hid (withinB s 16 = false) := Lib.hid (by unfold withinB; simp [s2])
            go_wp2
            go_ret
            exact ⟨ret_bool (by rw [E.out, F.out, F2.out]; simp [s2]), HB.out⟩
        · have F2 : Hid (withinB s 16 = false) := Lib.hid (by unfold withinB; simp [s1])
          go_wp2
          go_ret
          exact ⟨ret_bool (by rw [E.out, F.out, F2.out]; rfl), HB.out⟩
      · have F : Hid (withinB c 5 = false) := Lib.hid (by unfold withinB; simp [c5])
        go_wp2
        go_ret
        exact ⟨ret_bool (by rw [E.out, F.out]; rfl), HB.out⟩
    · have F : Hid (withinB c 5 = false) := Lib.hid (by unfold withinB; simp [c1])
      go_wp2
      go_ret
      exact ⟨ret_bool (by rw [E.out, F.out]; rfl), HB.out⟩

set_option maxRecDepth 100000 in
set_option maxHeartbeats 3200000 in
theorem refCan_any (p c s : Int) (v : Value) (ms : List MemA) (w : World) (h : RdM w v ms) (hl : ms.length ≤ 4398046511104) :
    Calls Tryd.prog 13 #[.agg #[.int .i64 p, .int .i64 c, .int .i64 s, v]] w (CanPost (OkR p c s ms) w) := by
  obtain ⟨A, cap, rfl, hc, hx⟩ := h
  obtain ⟨n, hn⟩ : ∃ n, Hid (n = ms.length) := ⟨_, Lib.hid rfl⟩
  have HX := Lib.hid hx
  rw [← hn.out] at hl hc ⊢
  obtain ⟨W, hW⟩ : ∃ W, Hid (W = w.alloc (.cells #[.int .i64 p, .int .i64 c, .int .i64 s, .slice A n cap] 24)) := ⟨_, Lib.hid rfl⟩
  have HB : Hid (Below w.heap.size w W) := Lib.hid (by rw [hW.out]; exact (Below.refl _ _).alloc (Nat.le_refl _) _)
  have k3 : W.cell? ⟨w.heap.size, 3, none⟩ = some (.slice A n cap) := by rw [hW.out]; exact box_cellR _ _ _ 3
  have HLT : Hid (w.heap.size < W.heap.size) := Lib.hid (by rw [hW.out]; exact (Array.getElem?_eq_some_iff.1 (heap_alloc_new w _)).1)
  obtain ⟨x, hx'⟩ : ∃ x, Hid (x = okShape p c s) := ⟨_, Lib.hid rfl⟩
  have k0 : W.cell? ⟨w.heap.size, 0, none⟩ = some (.int .i64 p) := by rw [hW.out]; exact box_cellR _ _ _ 0
  have k1 : W.cell? ⟨w.heap.size, 1, none⟩ = some (.int .i64 c) := by rw [hW.out]; exact box_cellR _ _ _ 1
  have k2 : W.cell? ⟨w.heap.size, 2, none⟩ = some (.int .i64 s) := by rw [hW.out]; exact box_cellR _ _ _ 2
  have HS := Lib.hid (refShape_any p c s A n cap W)
  rw [← hx'.out] at HS
  have K3 := Lib.hid k3
  have hWe := hW.out.symm
  clear hx
  go_enter Tryd.func13, Tryd.ntmps13
  go_upto_region 1 with fail
  clear hWe
  go_wp2_with fail
  (with_reducible refine HS.out.mono ?_); rintro e w1 ⟨rfl, hb1⟩
  have HB1 : Hid (Below w.heap.size w w1) := Lib.hid (HB.out.trans (hb1.mono HB.out.size))
  have HC1 : Hid (w1.cell? ⟨w.heap.size, 3, none⟩ = some (.slice A n cap)) := Lib.hid ((hb1.cell (p := ⟨w.heap.size, 3, none⟩) HLT.out).trans K3.out)
  have HL1 : Hid (w.heap.size < w1.heap.size) := Lib.hid (Nat.lt_of_lt_of_le HLT.out hb1.size)
  clear hb1 k0 k1 k2 k3
  cases x with
  | false =>
    go_wp2
    go_ret
    exact ⟨false, rfl, by simp [OkR, ← hx'.out], HB1.out⟩
  | true =>
    go_wp2
    go_loopw [3] (fun i wr => ∃ k : Nat, k ≤ n ∧ i = .int .i64 k ∧ Hid (OkMs (ms.take k)) ∧ Below w1.heap.size w1 wr) (fun i _ => n - (intOf i).toNat)
    case atStart => exact ⟨0, Nat.zero_le _, rfl, Lib.hid (by simpa using OkMs.nil), Below.refl _ _⟩
    case round =>
      obtain ⟨k, hk, rfl, HO, hb⟩ := hrel
      have HBR : Hid (Below w.heap.size w wr) := Lib.hid (HB1.out.trans (hb.mono HB1.out.size))
      have hbs := hb.size
      have hcr : wr.cell? ⟨w.heap.size, 3, none⟩ = some (.slice A n cap) := (hb.cell (p := ⟨w.heap.size, 3, none⟩) HL1.out).trans HC1.out
      by_cases hlt : k < n
      · obtain ⟨d, hd⟩ : ∃ d, ms[k]? = some d := ⟨ms[k]'(by have := hn.out; omega), List.getElem?_eq_getElem _⟩
        have hxr := HX.out.below HBR.out (Nat.le_refl _)
        obtain ⟨ad, rfl, hadlt, hda⟩ := hxr k d hd
        have HD := Lib.hid hd
        obtain ⟨d0, d1, d2, d3⟩ := hda
        obtain ⟨V, hV⟩ : ∃ V, Hid (V = wr.alloc (.cells #[.int .i64 d.1, .int .i64 d.2.1, .int .i64 d.2.2.1, .int .i64 d.2.2.2] 40)) := ⟨_, Lib.hid rfl⟩
        have hbV : Below wr.heap.size wr V := by rw [hV.out]; exact (Below.refl _ _).alloc (Nat.le_refl _) _
        have k0 : V.cell? ⟨wr.heap.size, 0, none⟩ = some (.int .i64 d.1) := by rw [hV.out]; exact box_cellR _ _ _ 0
        have k1 : V.cell? ⟨wr.heap.size, 1, none⟩ = some (.int .i64 d.2.1) := by rw [hV.out]; exact box_cellR _ _ _ 1
        have k2 : V.cell? ⟨wr.heap.size, 2, none⟩ = some (.int .i64 d.2.2.1) := by rw [hV.out]; exact box_cellR _ _ _ 2
        have k3 : V.cell? ⟨wr.heap.size, 3, none⟩ = some (.int .i64 d.2.2.2) := by rw [hV.out]; exact box_cellR _ _ _ 3
        have hcV : V.cell? ⟨w.heap.size, 3, none⟩ = some (.slice (some ad) n cap) := (hbV.cell (p := ⟨w.heap.size, 3, none⟩) (Nat.lt_of_lt_of_le HL1.out hbs)).trans hcr
        have HBW : Hid (Below w.heap.size w V) := Lib.hid (HBR.out.trans (hbV.mono HBR.out.size))
        have HBL : Hid (Below w1.heap.size w1 V) := Lib.hid (hb.trans (hbV.mono hbs))
        have HXW := Lib.hid (HX.out.below HBW.out (Nat.le_refl _))
        have hVe := hV.out.symm
        clear hd hxr hb hbV
        go_upto_region 7 with fail
        clear hVe hcr d0 d1 d2 d3
        by_cases hn0 : d.1 < 0
        · have dn : decide (d.1 < 0) = true := by simpa using hn0
          have HNO : Hid (¬ OkMs ms) := Lib.hid (fun h => by
            have := h.1 k d HD.out
            revert this
            unfold okMem nodeB withinB
            simp
            omega)
          clear hn0
          go_quiet (fail)
          go_wp2
          go_ret
          exact ⟨false, rfl, by simp [OkR, HNO.out], below_drewM HBW.out _⟩
        · have dn : decide (d.1 < 0) = false := by simpa using hn0
          by_cases hn8 : 8 ≤ d.1
          · have dn8 : decide (8 ≤ d.1) = true := by simpa using hn8
            have HNO : Hid (¬ OkMs ms) := Lib.hid (fun h => by
              have := h.1 k d HD.out
              revert this
              unfold okMem nodeB withinB
              simp
              omega)
            clear hn0 hn8
            go_quiet (fail)
            go_wp2
            go_ret
            exact ⟨false, rfl, by simp [OkR, HNO.out], below_drewM HBW.out _⟩
          · have dn8 : decide (8 ≤ d.1) = false := by simpa using hn8
            have c0 : ∀ q, (V.drewN q).cell? ⟨wr.heap.size, 0, none⟩ = some (.int .i64 d.1) := fun _ => k0
            have c1 : ∀ q, (V.drewN q).cell? ⟨wr.heap.size, 1, none⟩ = some (.int .i64 d.2.1) := fun _ => k1
            have c2 : ∀ q, (V.drewN q).cell? ⟨wr.heap.size, 2, none⟩ = some (.int .i64 d.2.2.1) := fun _ => k2
            have c3 : ∀ q, (V.drewN q).cell? ⟨wr.heap.size, 3, none⟩ = some (.int .i64 d.2.2.2) := fun _ => k3
            by_cases hk0 : k = 0
            · have dk : decide (0 < (k : Int)) = false := by simp; omega
              have dk2 : decide (0 < k) = false := by simp; omega
              have HNX : Hid (okMem d = true → OkMs (ms.take (k + 1))) := Lib.hid (fun hm => HO.out.snoc HD.out hm (fun a hne _ => absurd hk0 hne))
              clear hk0
              go_quiet (fail)
              by_cases b1 : d.2.1 < 1
              · have qb1 : decide (d.2.1 < 1) = true := by simpa using b1
                have HNO : Hid (¬ OkMs ms) := Lib.hid (fun h => by
                  have := h.1 k d HD.out
                  revert this
                  unfold okMem nodeB withinB
                  simp
                  omega)
                go_wp2
                go_ret
                exact ⟨false, rfl, by simp [OkR, HNO.out], below_drewM HBW.out _⟩
              · have qb1 : decide (d.2.1 < 1) = false := by simpa using b1
                by_cases b2 : 524288 < d.2.1
                · have qb2 : decide (524288 < d.2.1) = true := by simpa using b2
                  have HNO : Hid (¬ OkMs ms) := Lib.hid (fun h => by
                    have := h.1 k d HD.out
                    revert this
                    unfold okMem nodeB withinB
                    simp
                    omega)
                  go_wp2
                  go_ret
                  exact ⟨false, rfl, by simp [OkR, HNO.out], below_drewM HBW.out _⟩
                · have qb2 : decide (524288 < d.2.1) = false := by simpa using b2
                  by_cases b3 : d.2.2.1 < 1
                  · have qb3 : decide (d.2.2.1 < 1) = true := by simpa using b3
                    have HNO : Hid (¬ OkMs ms) := Lib.hid (fun h => by
                      have := h.1 k d HD.out
                      revert this
                      unfold okMem nodeB withinB
                      simp
                      omega)
                    go_wp2
                    go_ret
                    exact ⟨false, rfl, by simp [OkR, HNO.out], below_drewM HBW.out _⟩
                  · have qb3 : decide (d.2.2.1 < 1) = false := by simpa using b3
                    by_cases b4 : 1099511627776 < d.2.2.1
                    · have qb4 : decide (1099511627776 < d.2.2.1) = true := by simpa using b4
                      have HNO : Hid (¬ OkMs ms) := Lib.hid (fun h => by
                        have := h.1 k d HD.out
                        revert this
                        unfold okMem nodeB withinB
                        simp
                        omega)
                      go_wp2
                      go_ret
                      exact ⟨false, rfl, by simp [OkR, HNO.out], below_drewM HBW.out _⟩
                    · have qb4 : decide (1099511627776 < d.2.2.1) = false := by simpa using b4
                      by_cases s1 : d.2.2.2 = 1
                      · have t1 : (d.2.2.2 != 1) = false := by simp [s1]
                        have HOK : Hid (okMem d = true) := Lib.hid (by
                          unfold okMem nodeB withinB
                          simp
                          omega)
                        go_wp2
                        go_roundw
                        case rel => exact ⟨k + 1, by omega, by go_num, Lib.hid (HNX.out HOK.out), below_drewM HBL.out _⟩
                        case measure => simp [intOf]; omega
                      · have t1 : (d.2.2.2 != 1) = true := by simp [s1]
                        by_cases s2 : d.2.2.2 = 2
                        · have t2 : (d.2.2.2 != 2) = false := by simp [s2]
                          have HOK : Hid (okMem d = true) := Lib.hid (by
                            unfold okMem nodeB withinB
                            simp
                            omega)
                          go_wp2
                          go_roundw
                          case rel => exact ⟨k + 1, by omega, by go_num, Lib.hid (HNX.out HOK.out), below_drewM HBL.out _⟩
                          case measure => simp [intOf]; omega
                        · have t2 : (d.2.2.2 != 2) = true := by simp [s2]
                          have HNO : Hid (¬ OkMs ms) := Lib.hid (fun h => by
                            have := h.1 k d HD.out
                            revert this
                            unfold okMem nodeB withinB
                            simp
                            omega)
                          go_wp2
                          go_ret
                          exact ⟨false, rfl, by simp [OkR, HNO.out], below_drewM HBW.out _⟩
            · obtain ⟨a, ha⟩ : ∃ a, ms[k - 1]? = some a := ⟨ms[k - 1]'(by have := hn.out; omega), List.getElem?_eq_getElem _⟩
              obtain ⟨ad', e', _, hpa⟩ := HXW.out (k - 1) a ha
              obtain rfl : ad = ad' := by injection e'
              have dk : decide (0 < (k : Int)) = true := by simp; omega
              have dk2 : decide (0 < k) = true := by simp; omega
              have i1 : IntKind.i64.wrap ((k : Int) - 1) = (k : Int) - 1 := IntWalk.i64_in _ (by omega)
              have i2 : 0 ≤ (k : Int) - 1 := by omega
              have i3 : (k : Int) - 1 < (n : Int) := by omega
              have i4 : ((k : Int) - 1).toNat = k - 1 := by omega
              have p0 := hpa.1
              have HA := Lib.hid ha
              have HK0 := Lib.hid hk0
              clear hk0 hpa ha e'
              by_cases hneg : a.1 < d.1
              · have dr : decide (d.1 ≤ a.1) = false := by simp; omega
                have HNX : Hid (okMem d = true → OkMs (ms.take (k + 1))) := Lib.hid (fun hm => HO.out.snoc HD.out hm (fun x _ hx => by
                  rw [HA.out] at hx; injection hx with hx
                  rw [← hx]; exact hneg))
                clear hneg
                go_quiet (fail)
                by_cases b1 : d.2.1 < 1
                · have qb1 : decide (d.2.1 < 1) = true := by simpa using b1
                  have HNO : Hid (¬ OkMs ms) := Lib.hid (fun h => by
                    have := h.1 k d HD.out
                    revert this
                    unfold okMem nodeB withinB
                    simp
                    omega)
                  go_wp2
                  go_ret
                  exact ⟨false, rfl, by simp [OkR, HNO.out], below_drewM HBW.out _⟩
                · have qb1 : decide (d.2.1 < 1) = false := by simpa using b1
                  by_cases b2 : 524288 < d.2.1
                  · have qb2 : decide (524288 < d.2.1) = true := by simpa using b2
                    have HNO : Hid (¬ OkMs ms) := Lib.hid (fun h => by
                      have := h.1 k d HD.out
                      revert this
                      unfold okMem nodeB withinB
                      simp
                      omega)
                    go_wp2
                    go_ret
                    exact ⟨false, rfl, by simp [OkR, HNO.out], below_drewM HBW.out _⟩
                  · have qb2 : decide (524288 < d.2.1) = false := by simpa using b2
                    by_cases b3 : d.2.2.1 < 1
                    · have qb3 : decide (d.2.2.1 < 1) = true := by simpa using b3
                      have HNO : Hid (¬ OkMs ms) := Lib.hid (fun h => by
                        have := h.1 k d HD.out
                        revert this
                        unfold okMem nodeB withinB
                        simp
                        omega)
                      go_wp2
                      go_ret
                      exact ⟨false, rfl, by simp [OkR, HNO.out], below_drewM HBW.out _⟩
                    · have qb3 : decide (d.2.2.1 < 1) = false := by simpa using b3
                      by_cases b4 : 1099511627776 < d.2.2.1
                      · have qb4 : decide (1099511627776 < d.2.2.1) = true := by simpa using b4
                        have HNO : Hid (¬ OkMs ms) := Lib.hid (fun h => by
                          have := h.1 k d HD.out
                          revert this
                          unfold okMem nodeB withinB
                          simp
                          omega)
                        go_wp2
                        go_ret
                        exact ⟨false, rfl, by simp [OkR, HNO.out], below_drewM HBW.out _⟩
                      · have qb4 : decide (1099511627776 < d.2.2.1) = false := by simpa using b4
                        by_cases s1 : d.2.2.2 = 1
                        · have t1 : (d.2.2.2 != 1) = false := by simp [s1]
                          have HOK : Hid (okMem d = true) := Lib.hid (by
                            unfold okMem nodeB withinB
                            simp
                            omega)
                          go_wp2
                          go_roundw
                          case rel => exact ⟨k + 1, by omega, by go_num, Lib.hid (HNX.out HOK.out), below_drewM HBL.out _⟩
                          case measure => simp [intOf]; omega
                        · have t1 : (d.2.2.2 != 1) = true := by simp [s1]
                          by_cases s2 : d.2.2.2 = 2
                          · have t2 : (d.2.2.2 != 2) = false := by simp [s2]
                            have HOK : Hid (okMem d = true) := Lib.hid (by
                              unfold okMem nodeB withinB
                              simp
                              omega)
                            go_wp2
                            go_roundw
                            case rel => exact ⟨k + 1, by omega, by go_num, Lib.hid (HNX.out HOK.out), below_drewM HBL.out _⟩
                            case measure => simp [intOf]; omega
                          · have t2 : (d.2.2.2 != 2) = true := by simp [s2]
                            have HNO : Hid (¬ OkMs ms) := Lib.hid (fun h => by
                              have := h.1 k d HD.out
                              revert this
                              unfold okMem nodeB withinB
                              simp
                              omega)
                            go_wp2
                            go_ret
                            exact ⟨false, rfl, by simp [OkR, HNO.out], below_drewM HBW.out _⟩
              · have dr : decide (d.1 ≤ a.1) = true := by simp; omega
                have HNO : Hid (¬ OkMs ms) := Lib.hid (fun h => by
                  have hk1 : k - 1 + 1 = k := by have := HK0.out; omega
                  exact hneg (h.2 (k - 1) a d HA.out (by rw [hk1]; exact HD.out)))
                clear hneg
                go_quiet (fail)
                go_wp2
                go_ret
                exact ⟨false, rfl, by simp [OkR, HNO.out], below_drewM HBW.out _⟩
      · obtain rfl : k = n := by omega
        have HF : Hid (OkMs ms) := Lib.hid (by have := HO.out; rw [hn.out, List.take_length] at this; exact this)
        go_wp2
        go_ret
        exact ⟨true, rfl, by simp [OkR, HF.out, ← hx'.out], HBR.out⟩
end Go.Proofs.YtmgobekdlgogmaaDoor
