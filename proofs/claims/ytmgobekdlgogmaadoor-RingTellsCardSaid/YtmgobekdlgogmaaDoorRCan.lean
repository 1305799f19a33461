/- May a ring be: the program's answer. -/
import Derived.Test.YtmgobekdlgogmaaDoorRRd
import Derived.IntWalk
import Derived.Lib.QuietBelow
namespace Go.Proofs.YtmgobekdlgogmaaDoor
open Go.RowKit Go.Sort Go.BigFrame
open Go.Lib (byteCells byteCells_length)

theorem below_allocR {w w' : World} {o : Obj} (h : Below w.heap.size w w') : Below w.heap.size w (w'.alloc o) := h.alloc h.size o
theorem below_nextR {w a b : World} (h : Below w.heap.size w a) (k : Below a.heap.size a b) : Below w.heap.size w b := h.trans (k.mono h.size)
theorem box_cellR (w : World) (cs : Array Value) (T : TypeId) (i : Nat) : (w.alloc (.cells cs T)).cell? ⟨w.heap.size, i, none⟩ = cs[i]? := cell_of_row _ _ i _ _ (0, 0) (heap_alloc_new w _)
theorem below_reR {w0 w : World} (h : Below w0.heap.size w0 w) (d : Nat) (os : Array Obj) : Below w0.heap.size w0 (grow (redrawn w d) os) := h.trans ((below_regrown w d os).mono h.size)
theorem re_ofR {f : FuncId} {args : Array Value} {v : Value} (h : ∀ w, Calls Tryd.prog f args w fun e w' => e = .returned v ∧ Below w.heap.size w w') (W : World) (d : Nat) (os : Array Obj) :
    Calls Tryd.prog f args (grow (redrawn W d) os) fun e w'' => e = .returned v ∧ ∃ p : Regrown, w'' = grow (redrawn W p.d) p.os := Calls.regrown_of (h _)

theorem isNodeR_any (n : Int) (w : World) : Calls Tryd.prog 61 #[.int .i64 n] w fun e w' => e = .returned (.bool (nodeB n)) ∧ w' = w := by
  by_cases h0 : 0 ≤ n
  · by_cases h1 : n < 8
    · have e : Hid (nodeB n = true) := Lib.hid (by unfold nodeB; simp [h0, h1])
      rw [e.out]
      go_enter Tryd.func61, Tryd.ntmps61
      go_wp2
      go_ret
      exact ⟨rfl, rfl⟩
    · have e : Hid (nodeB n = false) := Lib.hid (by unfold nodeB; simp [h1])
      rw [e.out]
      go_enter Tryd.func61, Tryd.ntmps61
      go_wp2
      go_ret
      exact ⟨rfl, rfl⟩
  · have e : Hid (nodeB n = false) := Lib.hid (by unfold nodeB; simp [h0])
    rw [e.out]
    go_enter Tryd.func61, Tryd.ntmps61
    go_wp2
    go_ret
    exact ⟨rfl, rfl⟩
theorem within_any (n m : Int) (w : World) : Calls Tryd.prog 53 #[.int .i64 n, .int .i64 m] w fun e w' => e = .returned (.bool (withinB n m)) ∧ w' = w := by
  by_cases h0 : 1 ≤ n
  · by_cases h1 : n ≤ m
    · have e : Hid (withinB n m = true) := Lib.hid (by unfold withinB; simp [h0, h1])
      rw [e.out]
      go_enter Tryd.func53, Tryd.ntmps53
      go_wp2
      go_ret
      exact ⟨rfl, rfl⟩
    · have e : Hid (withinB n m = false) := Lib.hid (by unfold withinB; simp [h1])
      rw [e.out]
      go_enter Tryd.func53, Tryd.ntmps53
      go_wp2
      go_ret
      exact ⟨rfl, rfl⟩
  · have e : Hid (withinB n m = false) := Lib.hid (by unfold withinB; simp [h0])
    rw [e.out]
    go_enter Tryd.func53, Tryd.ntmps53
    go_wp2
    go_ret
    exact ⟨rfl, rfl⟩

set_option maxRecDepth 100000 in
set_option maxHeartbeats 1600000 in
theorem canMember_any (m : MemA) (w : World) : Calls Tryd.prog 54 #[.agg #[.int .i64 m.1, .int .i64 m.2.1, .int .i64 m.2.2.1, .int .i64 m.2.2.2]] w fun e w' => e = .returned (.bool (okMem m)) ∧ Below w.heap.size w w' := by
  obtain ⟨a, b, c, d⟩ := m
  show Calls Tryd.prog 54 #[.agg #[.int .i64 a, .int .i64 b, .int .i64 c, .int .i64 d]] w _
  obtain ⟨W, hW⟩ : ∃ W, Hid (W = w.alloc (.cells #[.int .i64 a, .int .i64 b, .int .i64 c, .int .i64 d] 40)) := ⟨_, Lib.hid rfl⟩
  have HB : Hid (Below w.heap.size w W) := Lib.hid (by rw [hW.out]; exact (Below.refl _ _).alloc (Nat.le_refl _) _)
  have k0 : W.cell? ⟨w.heap.size, 0, none⟩ = some (.int .i64 a) := by rw [hW.out]; exact box_cellR _ _ _ 0
  have k1 : W.cell? ⟨w.heap.size, 1, none⟩ = some (.int .i64 b) := by rw [hW.out]; exact box_cellR _ _ _ 1
  have k2 : W.cell? ⟨w.heap.size, 2, none⟩ = some (.int .i64 c) := by rw [hW.out]; exact box_cellR _ _ _ 2
  have k3 : W.cell? ⟨w.heap.size, 3, none⟩ = some (.int .i64 d) := by rw [hW.out]; exact box_cellR _ _ _ 3
  have HN := Lib.hid (isNodeR_any a W)
  have HE := Lib.hid (within_any b 524288 W)
  have HS := Lib.hid (within_any c 1099511627776 W)
  obtain ⟨x, hx⟩ : ∃ x, Hid (x = nodeB a) := ⟨_, Lib.hid rfl⟩
  obtain ⟨y, hy⟩ : ∃ y, Hid (y = withinB b 524288) := ⟨_, Lib.hid rfl⟩
  obtain ⟨z, hz⟩ : ∃ z, Hid (z = withinB c 1099511627776) := ⟨_, Lib.hid rfl⟩
  have E : Hid (okMem (a, b, c, d) = (x && y && z && (decide (d = 1) || decide (d = 2)))) := Lib.hid (by rw [hx.out, hy.out, hz.out]; rfl)
  rw [← hx.out] at HN
  rw [← hy.out] at HE
  rw [← hz.out] at HS
  rw [E.out]
  have hWe := hW.out.symm
  go_enter Tryd.func54, Tryd.ntmps54
  go_upto_region 1 with fail
  clear hWe
  go_wp2_with fail
  (with_reducible refine HN.out.mono ?_); rintro e w1 ⟨rfl, rfl⟩
  cases x with
  | false =>
    go_wp2
    go_ret
    exact ⟨rfl, HB.out⟩
  | true =>
    go_wp2_with fail
    (with_reducible refine HE.out.mono ?_); rintro e w1 ⟨rfl, rfl⟩
    cases y with
    | false =>
      go_wp2
      go_ret
      exact ⟨rfl, HB.out⟩
    | true =>
      go_wp2_with fail
      (with_reducible refine HS.out.mono ?_); rintro e w1 ⟨rfl, rfl⟩
      cases z with
      | false =>
        go_wp2
        go_ret
        exact ⟨rfl, HB.out⟩
      | true =>
        by_cases d1 : d = 1
        · subst d1
          go_wp2
          go_ret
          exact ⟨rfl, HB.out⟩
        · have t1 : (d == 1) = false := by simpa using d1
          by_cases d2 : d = 2
          · subst d2
            go_wp2
            go_ret
            exact ⟨rfl, HB.out⟩
          · have t2 : (d == 2) = false := by simpa using d2
            have F : Hid ((true && true && true && (decide (d = 1) || decide (d = 2))) = false) := Lib.hid (by simp [d1, d2])
            clear d1 d2
            go_wp2
            go_ret
            exact ⟨by rw [F.out]; rfl, HB.out⟩

set_option maxRecDepth 100000 in
set_option maxHeartbeats 3200000 in
theorem canMembers_any (v : Value) (ms : List MemA) (w : World) (h : RdM w v ms) (hl : ms.length ≤ 4398046511104) : Calls Tryd.prog 36 #[v] w (TellsR (OkMs ms) w) := by
  obtain ⟨A, c, rfl, hc, hx⟩ := h
  obtain ⟨n, hn⟩ : ∃ n, Hid (n = ms.length) := ⟨_, Lib.hid rfl⟩
  rw [← hn.out] at hl hc ⊢
  have HX := Lib.hid hx
  clear hx
  go_enter Tryd.func36, Tryd.ntmps36
  go_wp2
  go_loopw [7] (fun i wr => ∃ k : Nat, k ≤ n ∧ i = .int .i64 k ∧ Hid (OkMs (ms.take k)) ∧ Below w.heap.size w wr) (fun i _ => n - (intOf i).toNat)
  case atStart => exact ⟨0, Nat.zero_le _, rfl, Lib.hid (by simpa using OkMs.nil), Below.refl _ _⟩
  case round =>
    obtain ⟨k, hk, rfl, HO, hb⟩ := hrel
    have HB := Lib.hid hb
    have hxr := HX.out.below hb (Nat.le_refl _)
    have hbs := hb.size
    by_cases hlt : k < n
    · obtain ⟨d, hd⟩ : ∃ d, ms[k]? = some d := ⟨ms[k]'(by have := hn.out; omega), List.getElem?_eq_getElem _⟩
      obtain ⟨ad, rfl, hadlt, hda⟩ := hxr k d hd
      have HD := Lib.hid hd
      obtain ⟨d0, d1, d2, d3⟩ := hda
      obtain ⟨W, hW⟩ : ∃ W, Hid (W = wr.alloc (.cells #[.int .i64 d.1, .int .i64 d.2.1, .int .i64 d.2.2.1, .int .i64 d.2.2.2] 40)) := ⟨_, Lib.hid rfl⟩
      have hbW : Below wr.heap.size wr W := by rw [hW.out]; exact (Below.refl _ _).alloc (Nat.le_refl _) _
      have k0 : W.cell? ⟨wr.heap.size, 0, none⟩ = some (.int .i64 d.1) := by rw [hW.out]; exact box_cellR _ _ _ 0
      have k1 : W.cell? ⟨wr.heap.size, 1, none⟩ = some (.int .i64 d.2.1) := by rw [hW.out]; exact box_cellR _ _ _ 1
      have k2 : W.cell? ⟨wr.heap.size, 2, none⟩ = some (.int .i64 d.2.2.1) := by rw [hW.out]; exact box_cellR _ _ _ 2
      have k3 : W.cell? ⟨wr.heap.size, 3, none⟩ = some (.int .i64 d.2.2.2) := by rw [hW.out]; exact box_cellR _ _ _ 3
      have HBW := Lib.hid hbW
      have hxW := hxr.below hbW hbs
      have HXW := Lib.hid hxW
      have cM := re_ofR (canMember_any d) W
      have j0 := cell_regrown k0
      have j1 := cell_regrown k1
      have j2 := cell_regrown k2
      have j3 := cell_regrown k3
      have hWe := hW.out.symm
      have HBB : ∀ dq osq, Hid (Below w.heap.size w (grow (redrawn W dq) osq)) := fun dq osq => Lib.hid (below_reR (HB.out.trans (HBW.out.mono hbs)) dq osq)
      clear hd hxr hb hbW k0 k1 k2 k3 hxW
      by_cases hm : okMem d = true
      · have HMB := Lib.hid hm
        rw [hm] at cM
        clear hm
        by_cases hk0 : k = 0
        · have dk : decide (0 < (k : Int)) = false := by simp; omega
          have dk2 : decide (0 < k) = false := by simp; omega
          have HN : Hid (OkMs (ms.take (k + 1))) := Lib.hid (HO.out.snoc HD.out HMB.out (fun a hne _ => absurd hk0 hne))
          clear hk0
          go_upto_region 4 with fail
          clear hWe
          refine wp_region_quiet_below (by kernel_rfl) (by kernel_rfl) ?_
          repeat (first | go_big_quiet_step (first | exact cM _ _) | quiet_step (first | exact cM _ _))
          refine wpQuiet_nil ?_
          intro _ hw'
          obtain ⟨⟨dq, osq⟩, hw''⟩ := hw'
          subst hw''
          have HX2 := HBB dq osq
          clear HBB
          go_wp2
          go_roundw
          case rel => exact ⟨k + 1, by omega, by go_num, HN, HX2.out⟩
          case measure => simp [intOf]; omega
        · obtain ⟨a, ha⟩ : ∃ a, ms[k - 1]? = some a := ⟨ms[k - 1]'(by have := hn.out; omega), List.getElem?_eq_getElem _⟩
          obtain ⟨ad', e', _, hpa⟩ := HXW.out (k - 1) a ha
          obtain rfl : ad = ad' := by injection e'
          have dk : decide (0 < (k : Int)) = true := by simp; omega
          have dk2 : decide (0 < k) = true := by simp; omega
          have i1 : IntKind.i64.wrap ((k : Int) - 1) = (k : Int) - 1 := IntWalk.i64_in _ (by omega)
          have i2 : 0 ≤ (k : Int) - 1 := by omega
          have i3 : (k : Int) - 1 < (n : Int) := by omega
          have i4 : ((k : Int) - 1).toNat = k - 1 := by omega
          have p0 := cell_regrown hpa.1
          have HA := Lib.hid ha
          have HK0 := Lib.hid hk0
          clear hk0 hpa ha e'
          by_cases hneg : a.1 < d.1
          · have dr : decide (d.1 ≤ a.1) = false := by simp; omega
            have HN : Hid (OkMs (ms.take (k + 1))) := Lib.hid (HO.out.snoc HD.out HMB.out (fun x _ hx => by
              rw [HA.out] at hx; injection hx with hx
              rw [← hx]; exact hneg))
            clear hneg
            go_upto_region 4 with fail
            clear hWe
            refine wp_region_quiet_below (by kernel_rfl) (by kernel_rfl) ?_
            repeat (first | go_big_quiet_step (first | exact cM _ _) | quiet_step (first | exact cM _ _))
            refine wpQuiet_nil ?_
            intro _ hw'
            obtain ⟨⟨dq, osq⟩, hw''⟩ := hw'
            subst hw''
            have HX2 := HBB dq osq
            clear HBB
            go_wp2
            go_roundw
            case rel => exact ⟨k + 1, by omega, by go_num, HN, HX2.out⟩
            case measure => simp [intOf]; omega
          · have dr : decide (d.1 ≤ a.1) = true := by simp; omega
            have HN : Hid (¬ OkMs ms) := Lib.hid (fun h => by
              have hk1 : k - 1 + 1 = k := by have := HK0.out; omega
              exact hneg (h.2 (k - 1) a d HA.out (by rw [hk1]; exact HD.out)))
            clear hneg
            go_upto_region 4 with fail
            clear hWe
            refine wp_region_quiet_below (by kernel_rfl) (by kernel_rfl) ?_
            repeat (first | go_big_quiet_step (first | exact cM _ _) | quiet_step (first | exact cM _ _))
            refine wpQuiet_nil ?_
            intro _ hw'
            obtain ⟨⟨dq, osq⟩, hw''⟩ := hw'
            subst hw''
            have HX2 := HBB dq osq
            clear HBB
            go_wp2
            go_ret
            exact ⟨false, rfl, by simp [HN.out], HX2.out⟩
      · have HMB : Hid (¬ OkMs ms) := Lib.hid (fun h => hm (h.1 k d HD.out))
        have hmf : okMem d = false := by simpa using hm
        rw [hmf] at cM
        clear hm hmf
        go_upto_region 4 with fail
        clear hWe
        refine wp_region_quiet_below (by kernel_rfl) (by kernel_rfl) ?_
        repeat (first | go_big_quiet_step (first | exact cM _ _) | quiet_step (first | exact cM _ _))
        refine wpQuiet_nil ?_
        intro _ hw'
        obtain ⟨⟨dq, osq⟩, hw''⟩ := hw'
        subst hw''
        have HX2 := HBB dq osq
        clear HBB
        go_wp2
        go_ret
        exact ⟨false, rfl, by simp [HMB.out], HX2.out⟩
    · obtain rfl : k = n := by omega
      have HF : Hid (OkMs ms) := Lib.hid (by have := HO.out; rw [hn.out, List.take_length] at this; exact this)
      go_wp2
      go_ret
      exact ⟨true, rfl, by simp [HF.out], hb⟩
end Go.Proofs.YtmgobekdlgogmaaDoor
