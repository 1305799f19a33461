/- canMarks. -/
import Derived.Test.YtnlohijpcnoamaaCRd
import Derived.IntWalk
import Derived.Lib.QuietBelow
namespace Go.Proofs.Ytnlohijpcnoamaa
open Go.RowKit Go.Sort Go.BigFrame
open Go.Lib (byteCells byteCells_length)

/-- A bool that tells whether. -/
def Tells (P : Prop) (w : World) (e : Ending) (w' : World) : Prop := ∃ b : Bool, e = .returned (.bool b) ∧ (b = true ↔ P) ∧ Below w.heap.size w w'

theorem below_re {w0 w : World} (h : Below w0.heap.size w0 w) (d : Nat) (os : Array Obj) : Below w0.heap.size w0 (grow (redrawn w d) os) := h.trans ((below_regrown w d os).mono h.size)
/-- A callee's contract in a region's worlds. -/
theorem re_of {f : FuncId} {args : Array Value} {v : Value} (h : ∀ w, Calls Try.prog f args w fun e w' => e = .returned v ∧ Below w.heap.size w w') (W : World) (d : Nat) (os : Array Obj) :
    Calls Try.prog f args (grow (redrawn W d) os) fun e w'' => e = .returned v ∧ ∃ p : Regrown, w'' = grow (redrawn W p.d) p.os := Calls.regrown_of (h _)

set_option maxRecDepth 100000 in
set_option maxHeartbeats 3200000 in
theorem canMarks_any (v : Value) (ms : List DotA) (w : World) (h : RdD w v ms) (hl : ms.length ≤ 1099511627776) : Calls Try.prog 40 #[v] w (Tells (OkM ms) w) := by
  have HR := Lib.hid h
  obtain ⟨A, c, rfl, hc, hx⟩ := h
  obtain ⟨n, hn⟩ : ∃ n, Hid (n = ms.length) := ⟨_, Lib.hid rfl⟩
  rw [← hn.out] at hl hc ⊢
  have HX := Lib.hid hx
  clear hx
  go_enter Try.func40, Try.ntmps40
  go_wp2
  go_loopw [7] (fun i wr => ∃ k : Nat, k ≤ n ∧ i = .int .i64 k ∧ Hid (OkM (ms.take k)) ∧ Below w.heap.size w wr) (fun i _ => n - (intOf i).toNat)
  case atStart => exact ⟨0, Nat.zero_le _, rfl, Lib.hid (by simpa using OkM.nil), Below.refl _ _⟩
  case round =>
    obtain ⟨k, hk, rfl, HO, hb⟩ := hrel
    have HB := Lib.hid hb
    have hxr := HX.out.below hb (Nat.le_refl _)
    have hbs := hb.size
    by_cases hlt : k < n
    · obtain ⟨d, hd⟩ : ∃ d, ms[k]? = some d := ⟨ms[k]'(by have := hn.out; omega), List.getElem?_eq_getElem _⟩
      obtain ⟨ad, rfl, hadlt, hda⟩ := hxr k d hd
      have HD := Lib.hid hd
      obtain ⟨d0, d1, d2⟩ := hda
      obtain ⟨W, hW⟩ : ∃ W, Hid (W = wr.alloc (.cells #[.int .i64 d.1, .int .i64 d.2.1, .int .i64 d.2.2] 53)) := ⟨_, Lib.hid rfl⟩
      have hbW : Below wr.heap.size wr W := by rw [hW.out]; exact (Below.refl _ _).alloc (Nat.le_refl _) _
      have k0 : BoxD W wr.heap.size d := by
        have := boxD wr 53 d
        rw [← hW.out] at this
        exact this
      have HBW := Lib.hid hbW
      have hxW := hxr.below hbW hbs
      have HXW := Lib.hid hxW
      have cM := re_of (may_any d) W
      have cO := re_of (ofMark_any d) W
      have j0 := cell_regrown k0.1
      have j1 := cell_regrown k0.2.1
      have j2 := cell_regrown k0.2.2
      have hWe := hW.out.symm
      have HBB : ∀ dq osq, Hid (Below w.heap.size w (grow (redrawn W dq) osq)) := fun dq osq => Lib.hid (below_re (HB.out.trans (HBW.out.mono hbs)) dq osq)
      clear hd hxr hb hbW k0 hxW
      by_cases hm : mayB d = true
      · have HMB := Lib.hid hm
        rw [hm] at cM
        clear hm
        by_cases hk0 : k = 0
        · have dk : decide (0 < (k : Int)) = false := by simp; omega
          have dk2 : decide (0 < k) = false := by simp; omega
          have HN : Hid (OkM (ms.take (k + 1))) := Lib.hid (HO.out.snoc HD.out HMB.out (fun a hne _ => absurd hk0 hne))
          clear hk0
          go_upto_region 4 with fail
          clear hWe
          refine wp_region_quiet_below (by kernel_rfl) (by kernel_rfl) ?_
          repeat (first | go_big_quiet_step (first | exact cM _ _) | quiet_step (first | exact cM _ _))
          refine wpQuiet_nil ?_
          intro _ hw'
          obtain ⟨⟨dq, osq⟩, hw''⟩ := hw'
          subst hw''
          have HX2 := HBB dq osq
          clear HBB
          go_wp2
          go_roundw
          case rel => exact ⟨k + 1, by omega, by go_num, HN, HX2.out⟩
          case measure => simp [intOf]; omega
        · obtain ⟨a, ha⟩ : ∃ a, ms[k - 1]? = some a := ⟨ms[k - 1]'(by have := hn.out; omega), List.getElem?_eq_getElem _⟩
          obtain ⟨ad', e', _, hpa⟩ := HXW.out (k - 1) a ha
          obtain rfl : ad = ad' := by injection e'
          have dk : decide (0 < (k : Int)) = true := by simp; omega
          have dk2 : decide (0 < k) = true := by simp; omega
          have i1 : IntKind.i64.wrap ((k : Int) - 1) = (k : Int) - 1 := IntWalk.i64_in _ (by omega)
          have i2 : 0 ≤ (k : Int) - 1 := by omega
          have i3 : (k : Int) - 1 < (n : Int) := by omega
          have i4 : ((k : Int) - 1).toNat = k - 1 := by omega
          have p0 := cell_regrown hpa.1
          have p1 := cell_regrown hpa.2.1
          have p2 := cell_regrown hpa.2.2
          have cP := re_of (ofMark_any a) W
          have cC := re_of (cmpA_any (actOf a) (actOf d)) W
          obtain ⟨r, hr⟩ : ∃ r, Hid (r = cmpA (actOf a) (actOf d)) := ⟨_, Lib.hid rfl⟩
          rw [← hr.out] at cC
          have HA := Lib.hid ha
          have HK0 := Lib.hid hk0
          clear hk0 hpa ha e'
          by_cases hneg : r < 0
          · have dr : decide (0 ≤ r) = false := by simp; omega
            have HN : Hid (OkM (ms.take (k + 1))) := Lib.hid (HO.out.snoc HD.out HMB.out (fun x _ hx => by
              rw [HA.out] at hx; injection hx with hx
              rw [← hx, ← hr.out]; exact hneg))
            clear hneg
            go_upto_region 4 with fail
            clear hWe
            refine wp_region_quiet_below (by kernel_rfl) (by kernel_rfl) ?_
            repeat (first | go_big_quiet_step (first | exact cM _ _ | exact cP _ _ | exact cO _ _ | exact cC _ _) | quiet_step (first | exact cM _ _ | exact cP _ _ | exact cO _ _ | exact cC _ _))
            refine wpQuiet_nil ?_
            intro _ hw'
            obtain ⟨⟨dq, osq⟩, hw''⟩ := hw'
            subst hw''
            have HX2 := HBB dq osq
            clear HBB i1 i2 i3 i4
            go_wp2
            go_roundw
            case rel => exact ⟨k + 1, by omega, by go_num, HN, HX2.out⟩
            case measure => simp [intOf]; omega
          · have dr : decide (0 ≤ r) = true := by simp; omega
            have HN : Hid (¬ OkM ms) := Lib.hid (fun hok => hneg (by
              rw [hr.out]
              exact hok.2 (k - 1) a d HA.out (by rw [show k - 1 + 1 = k by have := HK0.out; omega]; exact HD.out)))
            clear hneg
            go_upto_region 4 with fail
            clear hWe
            refine wp_region_quiet_below (by kernel_rfl) (by kernel_rfl) ?_
            repeat (first | go_big_quiet_step (first | exact cM _ _ | exact cP _ _ | exact cO _ _ | exact cC _ _) | quiet_step (first | exact cM _ _ | exact cP _ _ | exact cO _ _ | exact cC _ _))
            refine wpQuiet_nil ?_
            intro _ hw'
            obtain ⟨⟨dq, osq⟩, hw''⟩ := hw'
            subst hw''
            have HX2 := HBB dq osq
            clear HBB i1 i2 i3 i4
            go_wp2
            go_ret
            exact ⟨false, rfl, by simp [HN.out], HX2.out⟩
      · have hmf : mayB d = false := by simpa using hm
        have HN : Hid (¬ OkM ms) := Lib.hid (fun hok => hm (hok.1 k d HD.out))
        rw [hmf] at cM
        clear hm hmf
        go_upto_region 4 with fail
        clear hWe
        refine wp_region_quiet_below (by kernel_rfl) (by kernel_rfl) ?_
        repeat (first | go_big_quiet_step (first | exact cM _ _) | quiet_step (first | exact cM _ _))
        refine wpQuiet_nil ?_
        intro _ hw'
        obtain ⟨⟨dq, osq⟩, hw''⟩ := hw'
        subst hw''
        have HX2 := HBB dq osq
        clear HBB
        go_wp2
        go_ret
        exact ⟨false, rfl, by simp [HN.out], HX2.out⟩
    · obtain rfl : k = n := by omega
      clear hxr
      go_wp2
      go_ret
      refine ⟨true, rfl, ?_, HB.out⟩
      have := HO.out
      rw [List.take_of_length_le (by have := hn.out; omega)] at this
      simp [this]
end Go.Proofs.Ytnlohijpcnoamaa
