/- canCloud. -/
import Derived.Test.YtnlohijpcnoamaaCMark
namespace Go.Proofs.Ytnlohijpcnoamaa
open Go.RowKit Go.Sort Go.BigFrame
open Go.Lib (byteCells byteCells_length)

/-- Dots beside these marks that may be. -/
def OkD (ms ds : List DotA) : Prop := (∀ (j : Nat) (d : DotA), ds[j]? = some d → mayB d = true ∧ markOf ms (actOf d) + 1 < d.2.2) ∧ ∀ (j : Nat) (a b : DotA), ds[j]? = some a → ds[j + 1]? = some b → cmpD a b < 0
theorem OkD.nil (ms : List DotA) : OkD ms [] := ⟨fun j d h => by simp at h, fun j a b h => by simp at h⟩
theorem OkD.snoc {ms ds : List DotA} {k : Nat} {d : DotA} (h : OkD ms (ds.take k)) (hd : ds[k]? = some d) (hm : mayB d = true) (hc : markOf ms (actOf d) + 1 < d.2.2) (hp : ∀ a, k ≠ 0 → ds[k - 1]? = some a → cmpD a d < 0) : OkD ms (ds.take (k + 1)) := by
  refine ⟨fun j x hx => ?_, fun j a b ha hb => ?_⟩
  · rw [List.getElem?_take] at hx
    split at hx
    · by_cases e : j = k
      · subst e; rw [hd] at hx; injection hx with hx; rw [← hx]; exact ⟨hm, hc⟩
      · exact h.1 j x (by rw [List.getElem?_take, if_pos (by omega)]; exact hx)
    · cases hx
  · rw [List.getElem?_take] at ha hb
    split at hb
    · rw [if_pos (by omega)] at ha
      by_cases e : j + 1 = k
      · subst e
        rw [hd] at hb; injection hb with hb; subst hb
        exact hp a (by omega) ha
      · exact h.2 j a b (by rw [List.getElem?_take, if_pos (by omega)]; exact ha) (by rw [List.getElem?_take, if_pos (by omega)]; exact hb)
    · cases hb

theorem mayB_le {d : DotA} (h : mayB d = true) : 0 ≤ d.1 ∧ d.1 < 8 ∧ 1 ≤ d.2.1 ∧ d.2.1 ≤ 1099511627776 ∧ 1 ≤ d.2.2 ∧ d.2.2 ≤ 1099511627776 := by
  unfold mayB at h
  simp only [Bool.and_eq_true, decide_eq_true_eq] at h
  omega
theorem markOf_mem {ms : List DotA} {a : ActA} : markOf ms a = 0 ∨ ∃ m ∈ ms, actOf m = a ∧ markOf ms a = m.2.2 := by
  unfold markOf
  cases e : ms.find? (fun m => decide (actOf m = a)) with
  | none => exact .inl rfl
  | some m => exact .inr ⟨m, List.mem_of_find?_eq_some e, by simpa using List.find?_some e, rfl⟩
theorem markOf_le {ms : List DotA} (h : OkM ms) (a : ActA) : 0 ≤ markOf ms a ∧ markOf ms a ≤ 1099511627776 := by
  rcases markOf_mem (ms := ms) (a := a) with e | ⟨m, hm, _, e⟩
  · rw [e]; omega
  · obtain ⟨j, hj⟩ := List.getElem?_of_mem hm
    have := mayB_le (h.1 j m hj)
    rw [e]; omega

/-- The two slices of a context in a box. -/
def BoxC (w : World) (g : Nat) (mv dv : Value) : Prop := w.cell? ⟨g, 0, none⟩ = some mv ∧ w.cell? ⟨g, 1, none⟩ = some dv
theorem BoxC.below {w w' : World} {g : Nat} {mv dv : Value} (h : BoxC w g mv dv) {B : Nat} (hb : Below B w w') (hg : g < B) : BoxC w' g mv dv :=
  ⟨(hb.cell (p := ⟨g, 0, none⟩) hg).trans h.1, (hb.cell (p := ⟨g, 1, none⟩) hg).trans h.2⟩

set_option maxRecDepth 100000 in
set_option maxHeartbeats 6400000 in
theorem canCloud_any (mv dv : Value) (ms ds : List DotA) (w : World) (hm : RdD w mv ms) (hd : RdD w dv ds) (hlm : ms.length ≤ 1099511627776) (hl : ds.length ≤ 1099511627776) (hok : OkM ms) :
    Calls Try.prog 41 #[.agg #[mv, dv]] w (Tells (OkD ms ds) w) := by
  obtain ⟨W0, hW0⟩ : ∃ W0, Hid (W0 = w.alloc (.cells #[mv, dv] 25)) := ⟨_, Lib.hid rfl⟩
  have hb0 : Below w.heap.size w W0 := by rw [hW0.out]; exact (Below.refl _ _).alloc (Nat.le_refl _) _
  have hbc : BoxC W0 w.heap.size mv dv := by rw [hW0.out]; exact ⟨box_cell _ _ _ 0, box_cell _ _ _ 1⟩
  have hm0 := hm.below hb0
  have hd0 := hd.below hb0
  have hlt0 : w.heap.size < W0.heap.size := by rw [hW0.out]; simp
  have HB0 := Lib.hid hb0
  have HM0 := Lib.hid hm0
  have HOK := Lib.hid hok
  have HBC := Lib.hid hbc
  obtain ⟨A, c, rfl, hc, hx⟩ := hd0
  obtain ⟨A1, c1, rfl, hc1, _⟩ := hm
  obtain ⟨n, hn⟩ : ∃ n, Hid (n = ds.length) := ⟨_, Lib.hid rfl⟩
  obtain ⟨n1, hn1⟩ : ∃ n1, Hid (n1 = ms.length) := ⟨_, Lib.hid rfl⟩
  rw [← hn.out] at hl hc ⊢
  rw [← hn.out] at HBC hW0
  rw [← hn1.out] at HBC hW0 HM0 hc1 ⊢
  have b1 : W0.cell? ⟨w.heap.size, 1, none⟩ = some (.slice A n c) := HBC.out.2
  have HX := Lib.hid hx
  have hWe := hW0.out.symm
  clear hx hb0 hm0 hd hok hbc
  go_enter Try.func41, Try.ntmps41
  go_wp2
  clear hWe
  go_loopw [8] (fun i wr => ∃ k : Nat, k ≤ n ∧ i = .int .i64 k ∧ Hid (OkD ms (ds.take k)) ∧ Below W0.heap.size W0 wr) (fun i _ => n - (intOf i).toNat)
  case atStart => exact ⟨0, Nat.zero_le _, rfl, Lib.hid (by simpa using OkD.nil ms), Below.refl _ _⟩
  case round =>
    obtain ⟨k, hk, rfl, HO, hb⟩ := hrel
    have HB := Lib.hid hb
    have hxr := HX.out.below hb (Nat.le_refl _)
    have hbs := hb.size
    by_cases hlt : k < n
    · obtain ⟨d, hd⟩ : ∃ d, ds[k]? = some d := ⟨ds[k]'(by have := hn.out; omega), List.getElem?_eq_getElem _⟩
      obtain ⟨ad, rfl, hadlt, hda⟩ := hxr k d hd
      have HD := Lib.hid hd
      obtain ⟨d0, d1, d2⟩ := hda
      obtain ⟨W, hW⟩ : ∃ W, Hid (W = wr.alloc (.cells #[.int .i64 d.1, .int .i64 d.2.1, .int .i64 d.2.2] 55)) := ⟨_, Lib.hid rfl⟩
      have hbW : Below wr.heap.size wr W := by rw [hW.out]; exact (Below.refl _ _).alloc (Nat.le_refl _) _
      have hbWW : Below W0.heap.size W0 W := hb.trans (hbW.mono hbs)
      have k0 : BoxD W wr.heap.size d := by
        have := boxD wr 55 d
        rw [← hW.out] at this
        exact this
      have hxW := hxr.below hbW hbs
      have HXW := Lib.hid hxW
      have hcW := HBC.out.below hbWW hlt0
      have hmW := HM0.out.below hbWW
      have HMW := Lib.hid hmW
      have cM := re_of (may_any d) W
      have cO := re_of (ofDot_any d) W
      have cU : ∀ d' os', Calls Try.prog 61 #[.slice A1 n1 c1, actV (actOf d)] (grow (redrawn W d') os') fun e w'' => e = .returned (.int .i64 (markOf ms (actOf d))) ∧ ∃ p : Regrown, w'' = grow (redrawn W p.d) p.os :=
        fun d' os' => Calls.regrown_of (upTo_any _ ms (actOf d) _ (HMW.out.below (below_regrown W d' os')) hlm HOK.out)
      have hmk := markOf_le HOK.out (actOf d)
      obtain ⟨u, hu⟩ : ∃ u, Hid (u = markOf ms (actOf d)) := ⟨_, Lib.hid rfl⟩
      rw [← hu.out] at cU hmk
      have iu : IntKind.i64.wrap (u + 1) = u + 1 := IntWalk.i64_in _ (by omega)
      have j0 := cell_regrown k0.1
      have j1 := cell_regrown k0.2.1
      have j2 := cell_regrown k0.2.2
      have l0 := cell_regrown hcW.1
      have l1 := cell_regrown hcW.2
      have hWe := hW.out.symm
      have HBB : ∀ dq osq, Hid (Below W0.heap.size W0 (grow (redrawn W dq) osq)) := fun dq osq => Lib.hid (below_re hbWW dq osq)
      have b2 : wr.cell? ⟨w.heap.size, 1, none⟩ = some (.slice (some ad) n c) := (hb.cell (p := ⟨w.heap.size, 1, none⟩) hlt0).trans b1
      clear hd hxr hb hbW k0 hxW hcW hmW hmk hbWW
      by_cases hmb : mayB d = true
      · have HMB := Lib.hid hmb
        rw [hmb] at cM
        clear hmb
        by_cases hk0 : k = 0
        · have dk : decide (0 < (k : Int)) = false := by simp; omega
          have dk2 : decide (0 < k) = false := by simp; omega
          by_cases hle : u + 1 < d.2.2
          · have dl : decide (d.2.2 ≤ u + 1) = false := by simp; omega
            have HN : Hid (OkD ms (ds.take (k + 1))) := Lib.hid (HO.out.snoc HD.out HMB.out (by rw [← hu.out]; exact hle) (fun a hne _ => absurd hk0 hne))
            clear hk0 hle
            go_upto_region 4 with fail
            clear hWe
            refine wp_region_quiet_below (by kernel_rfl) (by kernel_rfl) ?_
            repeat (first | go_big_quiet_step (first | exact cM _ _ | exact cO _ _ | exact cU _ _) | quiet_step (first | exact cM _ _ | exact cO _ _ | exact cU _ _))
            refine wpQuiet_nil ?_
            intro _ hw'
            obtain ⟨⟨dq, osq⟩, hw''⟩ := hw'
            subst hw''
            have HX2 := HBB dq osq
            clear HBB iu
            go_wp2
            go_roundw
            case rel => exact ⟨k + 1, by omega, by go_num, HN, HX2.out⟩
            case measure => simp [intOf]; omega
          · have dl : decide (d.2.2 ≤ u + 1) = true := by simp; omega
            have HN : Hid (¬ OkD ms ds) := Lib.hid (fun hok => hle (by rw [hu.out]; exact (hok.1 k d HD.out).2))
            clear hk0 hle
            go_upto_region 4 with fail
            clear hWe
            refine wp_region_quiet_below (by kernel_rfl) (by kernel_rfl) ?_
            repeat (first | go_big_quiet_step (first | exact cM _ _ | exact cO _ _ | exact cU _ _) | quiet_step (first | exact cM _ _ | exact cO _ _ | exact cU _ _))
            refine wpQuiet_nil ?_
            intro _ hw'
            obtain ⟨⟨dq, osq⟩, hw''⟩ := hw'
            subst hw''
            have HX2 := HBB dq osq
            clear HBB iu
            go_wp2
            go_ret
            exact ⟨false, rfl, by simp [HN.out], HB0.out.trans (HX2.out.mono HB0.out.size)⟩
        · obtain ⟨a, ha⟩ : ∃ a, ds[k - 1]? = some a := ⟨ds[k - 1]'(by have := hn.out; omega), List.getElem?_eq_getElem _⟩
          obtain ⟨ad', e', _, hpa⟩ := HXW.out (k - 1) a ha
          obtain rfl : ad = ad' := by injection e'
          have dk : decide (0 < (k : Int)) = true := by simp; omega
          have dk2 : decide (0 < k) = true := by simp; omega
          have i1 : IntKind.i64.wrap ((k : Int) - 1) = (k : Int) - 1 := IntWalk.i64_in _ (by omega)
          have i2 : 0 ≤ (k : Int) - 1 := by omega
          have i3 : (k : Int) - 1 < (n : Int) := by omega
          have i4 : ((k : Int) - 1).toNat = k - 1 := by omega
          have p0 := cell_regrown hpa.1
          have p1 := cell_regrown hpa.2.1
          have p2 := cell_regrown hpa.2.2
          have cC := re_of (cmpD_any a d) W
          obtain ⟨r, hr⟩ : ∃ r, Hid (r = cmpD a d) := ⟨_, Lib.hid rfl⟩
          rw [← hr.out] at cC
          have HA := Lib.hid ha
          have HK0 := Lib.hid hk0
          clear hk0 hpa ha e'
          by_cases hneg : r < 0
          · have dr : decide (0 ≤ r) = false := by simp; omega
            by_cases hle : u + 1 < d.2.2
            · have dl : decide (d.2.2 ≤ u + 1) = false := by simp; omega
              have HN : Hid (OkD ms (ds.take (k + 1))) := Lib.hid (HO.out.snoc HD.out HMB.out (by rw [← hu.out]; exact hle) (fun x _ hx => by
                rw [HA.out] at hx; injection hx with hx
                rw [← hx, ← hr.out]; exact hneg))
              clear hneg hle
              go_upto_region 4 with fail
              clear hWe
              refine wp_region_quiet_below (by kernel_rfl) (by kernel_rfl) ?_
              repeat (first | go_big_quiet_step (first | exact cM _ _ | exact cO _ _ | exact cU _ _ | exact cC _ _) | quiet_step (first | exact cM _ _ | exact cO _ _ | exact cU _ _ | exact cC _ _))
              refine wpQuiet_nil ?_
              intro _ hw'
              obtain ⟨⟨dq, osq⟩, hw''⟩ := hw'
              subst hw''
              have HX2 := HBB dq osq
              clear HBB i1 i2 i3 i4 iu
              go_wp2
              go_roundw
              case rel => exact ⟨k + 1, by omega, by go_num, HN, HX2.out⟩
              case measure => simp [intOf]; omega
            · have dl : decide (d.2.2 ≤ u + 1) = true := by simp; omega
              have HN : Hid (¬ OkD ms ds) := Lib.hid (fun hok => hle (by rw [hu.out]; exact (hok.1 k d HD.out).2))
              clear hneg hle
              go_upto_region 4 with fail
              clear hWe
              refine wp_region_quiet_below (by kernel_rfl) (by kernel_rfl) ?_
              repeat (first | go_big_quiet_step (first | exact cM _ _ | exact cO _ _ | exact cU _ _ | exact cC _ _) | quiet_step (first | exact cM _ _ | exact cO _ _ | exact cU _ _ | exact cC _ _))
              refine wpQuiet_nil ?_
              intro _ hw'
              obtain ⟨⟨dq, osq⟩, hw''⟩ := hw'
              subst hw''
              have HX2 := HBB dq osq
              clear HBB i1 i2 i3 i4 iu
              go_wp2
              go_ret
              exact ⟨false, rfl, by simp [HN.out], HB0.out.trans (HX2.out.mono HB0.out.size)⟩
          · have dr : decide (0 ≤ r) = true := by simp; omega
            have HN : Hid (¬ OkD ms ds) := Lib.hid (fun hok => hneg (by
              rw [hr.out]
              exact hok.2 (k - 1) a d HA.out (by rw [show k - 1 + 1 = k by have := HK0.out; omega]; exact HD.out)))
            clear hneg
            go_upto_region 4 with fail
            clear hWe
            refine wp_region_quiet_below (by kernel_rfl) (by kernel_rfl) ?_
            repeat (first | go_big_quiet_step (first | exact cM _ _ | exact cO _ _ | exact cU _ _ | exact cC _ _) | quiet_step (first | exact cM _ _ | exact cO _ _ | exact cU _ _ | exact cC _ _))
            refine wpQuiet_nil ?_
            intro _ hw'
            obtain ⟨⟨dq, osq⟩, hw''⟩ := hw'
            subst hw''
            have HX2 := HBB dq osq
            clear HBB i1 i2 i3 i4 iu
            go_wp2
            go_ret
            exact ⟨false, rfl, by simp [HN.out], HB0.out.trans (HX2.out.mono HB0.out.size)⟩
      · have hmf : mayB d = false := by simpa using hmb
        have HN : Hid (¬ OkD ms ds) := Lib.hid (fun hok => hmb (hok.1 k d HD.out).1)
        rw [hmf] at cM
        clear hmb hmf
        go_upto_region 4 with fail
        clear hWe
        refine wp_region_quiet_below (by kernel_rfl) (by kernel_rfl) ?_
        repeat (first | go_big_quiet_step (first | exact cM _ _) | quiet_step (first | exact cM _ _))
        refine wpQuiet_nil ?_
        intro _ hw'
        obtain ⟨⟨dq, osq⟩, hw''⟩ := hw'
        subst hw''
        have HX2 := HBB dq osq
        clear HBB iu
        go_wp2
        go_ret
        exact ⟨false, rfl, by simp [HN.out], HB0.out.trans (HX2.out.mono HB0.out.size)⟩
    · obtain rfl : k = n := by omega
      clear hxr
      go_wp2
      go_ret
      refine ⟨true, rfl, ?_, HB0.out.trans (HB.out.mono HB0.out.size)⟩
      have := HO.out
      rw [List.take_of_length_le (by have := hn.out; omega)] at this
      simp [this]
end Go.Proofs.Ytnlohijpcnoamaa
