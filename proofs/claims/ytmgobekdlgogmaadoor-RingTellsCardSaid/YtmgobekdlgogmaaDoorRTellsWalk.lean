/- The walk of RingTells, told of awake. -/
import Derived.Test.YtmgobekdlgogmaaDoorRTells
import Derived.Deep.RegionHeld3
namespace Go.Proofs.YtmgobekdlgogmaaDoor
open Go.RowKit Go.Sort Go.BigFrame
open Go.Lib (byteCells byteCells_length)

/-- A ring's four cells. -/
def BoxR (w : World) (g : Nat) (p c s : Int) (v : Value) : Prop := w.cell? ⟨g, 0, none⟩ = some (.int .i64 p) ∧ w.cell? ⟨g, 1, none⟩ = some (.int .i64 c) ∧ w.cell? ⟨g, 2, none⟩ = some (.int .i64 s) ∧ w.cell? ⟨g, 3, none⟩ = some v
theorem BoxR.below {w w' : World} {g : Nat} {p c s : Int} {v : Value} (h : BoxR w g p c s v) {B : Nat} (hb : Below B w w') (hg : g < B) : BoxR w' g p c s v :=
  ⟨(hb.cell (p := ⟨_, _, none⟩) hg).trans h.1, (hb.cell (p := ⟨_, _, none⟩) hg).trans h.2.1, (hb.cell (p := ⟨_, _, none⟩) hg).trans h.2.2.1, (hb.cell (p := ⟨_, _, none⟩) hg).trans h.2.2.2⟩
theorem boxR_new (w : World) (T : TypeId) (p c s : Int) (v : Value) : BoxR (w.alloc (.cells #[.int .i64 p, .int .i64 c, .int .i64 s, v] T)) w.heap.size p c s v :=
  ⟨box_cellR _ _ _ 0, box_cellR _ _ _ 1, box_cellR _ _ _ 2, box_cellR _ _ _ 3⟩
/-- What awake answers. -/
def AwakeSpec : Prop := ∀ w, Tabs w → Calls Tryd.prog 21 #[] w (DetR (.bool true) w)

set_option maxRecDepth 100000 in
set_option maxHeartbeats 12800000 in
theorem ringTells_walk (HA : AwakeSpec) (p c s : Int) (v : Value) (ms : List MemA) (node : Int) (key : ByteArray) (w : World) (hT : Tabs w) (h1 : -9223372036854775808 ≤ p) (h2 : p ≤ 9223372036854775807) (hn1 : -9223372036854775808 ≤ node) (hn2 : node ≤ 9223372036854775807) (hs : key.size ≤ 9223372036854775807) (h : RdM w v ms) (hl : ms.length ≤ 4398046511104) :
    Calls Tryd.prog 3 #[.agg #[.int .i64 p, .int .i64 c, .int .i64 s, v], .int .i64 node, .string key] w fun e w' => e = .returned (.bool true) ∧ Below w.heap.size w w' := by
  obtain ⟨k, ns, ep, pt, hns, tC, tD, tI, tJ, tE, tF, tP, tQ⟩ := tells_alike p c s ms node key h1 h2 hn1 hn2 hs hl
  have HC := Lib.hid tC
  have HD := Lib.hid tD
  have HI := Lib.hid tI
  have HJ := Lib.hid tJ
  have HE := Lib.hid tE
  have HF := Lib.hid tF
  have HP := Lib.hid tP
  have HQ := Lib.hid tQ
  have HNS := Lib.hid hns
  have HL := Lib.hid hl
  have HT := Lib.hid hT
  have HAW : Hid (∀ w, Tabs w → Calls Tryd.prog 21 #[] w (fun e w' => e = .returned (.bool true) ∧ Below w.heap.size w w')) := Lib.hid HA
  have HV := Lib.hid h
  obtain ⟨A, cap, rfl, _, _⟩ := h
  obtain ⟨n, hn⟩ : ∃ n, Hid (n = ms.length) := ⟨_, Lib.hid rfl⟩
  rw [← hn.out] at HV ⊢
  obtain ⟨y, hy⟩ : ∃ y, Hid (y = newA p c s) := ⟨_, Lib.hid rfl⟩
  obtain ⟨W, hW⟩ : ∃ W, Hid (W = w.alloc (.cells #[.int .i64 p, .int .i64 c, .int .i64 s, .slice A n cap] 24)) := ⟨_, Lib.hid rfl⟩
  have HB : Hid (Below w.heap.size w W) := Lib.hid (by rw [hW.out]; exact (Below.refl _ _).alloc (Nat.le_refl _) _)
  have HZ : Hid (W.heap.size = w.heap.size + 1) := Lib.hid (by rw [hW.out]; simp)
  have b0 : BoxR W w.heap.size p c s (.slice A n cap) := by rw [hW.out]; exact boxR_new _ _ _ _ _ _
  have B0 := Lib.hid b0
  obtain ⟨k0, k1, k2, k3⟩ := b0
  have HN1 := Lib.hid (new_any p c s W (HT.out.below HB.out HT.out.big) h1 h2)
  rw [← hy.out] at HN1
  obtain ⟨y0, y1, y2, ye⟩ := y
  unfold newV at HN1
  clear tC tD tI tJ tE tF tP tQ hns hl hT HA h1 h2 hn1 hn2 hs
  go_enter Tryd.func3, Tryd.ntmps3
  go_upto_region 1 with fail
  rw [← hW.out]
  go_wp2_with fail
  (with_reducible refine HN1.out.mono ?_); rintro e w1 ⟨rfl, hb1⟩
  obtain ⟨W1, hW1⟩ : ∃ W1, Hid (W1 = w1.alloc (.cells #[.int .i64 y0, .int .i64 y1, .int .i64 y2, .slice none 0 0] 24)) := ⟨_, Lib.hid rfl⟩
  have hbA : Below w1.heap.size w1 W1 := by rw [hW1.out]; exact (Below.refl _ _).alloc (Nat.le_refl _) _
  have HZ1 : Hid (W1.heap.size = w1.heap.size + 1) := Lib.hid (by rw [hW1.out]; simp)
  have HS1 : Hid (W.heap.size ≤ w1.heap.size) := Lib.hid hb1.size
  have HB1 : Hid (Below W.heap.size W W1) := Lib.hid (hb1.trans (hbA.mono hb1.size))
  have b1 : BoxR W1 w.heap.size p c s (.slice A n cap) := B0.out.below HB1.out (by have := HZ.out; omega)
  have B1 := Lib.hid b1
  have c1 : BoxR W1 w1.heap.size y0 y1 y2 (.slice none 0 0) := by rw [hW1.out]; exact boxR_new _ _ _ _ _ _
  have C1 := Lib.hid c1
  have HN2 := Lib.hid (refNew_any p c s W1)
  rw [← hy.out] at HN2
  unfold newV at HN2
  obtain ⟨l0, l1, l2, l3⟩ := b1
  clear hb1 hbA k0 k1 k2 k3 c1
  go_upto_region 2 with fail
  rw [← hW1.out]
  go_wp2_with fail
  (with_reducible refine HN2.out.mono ?_); rintro e w2 ⟨rfl, hb2⟩
  obtain ⟨W2, hW2⟩ : ∃ W2, Hid (W2 = w2.alloc (.cells #[.int .i64 y0, .int .i64 y1, .int .i64 y2, .slice none 0 0] 24)) := ⟨_, Lib.hid rfl⟩
  have hbA2 : Below w2.heap.size w2 W2 := by rw [hW2.out]; exact (Below.refl _ _).alloc (Nat.le_refl _) _
  have HS2 : Hid (W1.heap.size ≤ w2.heap.size) := Lib.hid hb2.size
  have HZ2 : Hid (W2.heap.size = w2.heap.size + 1) := Lib.hid (by rw [hW2.out]; simp)
  have HB2 : Hid (Below W1.heap.size W1 W2) := Lib.hid (hb2.trans (hbA2.mono hb2.size))
  have b2 : BoxR W2 w.heap.size p c s (.slice A n cap) := B1.out.below HB2.out (by have := HZ.out; have := HZ1.out; have := HS1.out; omega)
  have B2 := Lib.hid b2
  have c2 : BoxR W2 w1.heap.size y0 y1 y2 (.slice none 0 0) := C1.out.below HB2.out (by have := HZ1.out; omega)
  have e2 : BoxR W2 w2.heap.size y0 y1 y2 (.slice none 0 0) := by rw [hW2.out]; exact boxR_new _ _ _ _ _ _
  have HSA := Lib.hid (refSame_any y0 y1 y2 y0 y1 y2 (.slice none 0 0) (.slice none 0 0) [] [] W2 (RdM.nil _) (RdM.nil _) (Nat.zero_le _))
  obtain ⟨c20, c21, c22, c23⟩ := c2
  obtain ⟨e20, e21, e22, e23⟩ := e2
  have hye : (ye != ye) = false := by simp
  clear hb2 hbA2 l0 l1 l2 l3 b2
  go_upto_region 3 with fail
  rw [← hW2.out]
  go_wp2_with fail
  (with_reducible refine HSA.out.mono ?_); rintro e w3 ⟨bb, rfl, hbb, hb3⟩
  obtain rfl : bb = true := hbb.2 (by simp)
  have HS3 : Hid (W2.heap.size ≤ w3.heap.size) := Lib.hid hb3.size
  have HB03 : Hid (Below w.heap.size w w3) := Lib.hid (by
    have a1 := HB.out.trans (HB1.out.mono HB.out.size)
    have a2 := a1.trans (HB2.out.mono a1.size)
    exact a2.trans (hb3.mono a2.size))
  have b3 : BoxR w3 w.heap.size p c s (.slice A n cap) := B2.out.below hb3 (by have := HZ.out; have := HZ1.out; have := HS1.out; have := HS2.out; have := HZ2.out; omega)
  have B3 := Lib.hid b3
  obtain ⟨m0, m1, m2, m3⟩ := b3
  have HCO := Lib.hid (copied_any p c s (.slice A n cap) ms w3 (HV.out.below HB03.out) HL.out)
  clear hb3 hbb c20 c21 c22 c23 e20 e21 e22 e23 hye
  go_wp2_with fail
  (with_reducible refine HCO.out.mono ?_); rintro e w4 ⟨A4, n4, cap4, rfl, ho4, hn4, hb4⟩
  clear hn4
  obtain ⟨W4, hW4⟩ : ∃ W4, Hid (W4 = w4.alloc (.cells #[.int .i64 p, .int .i64 c, .int .i64 s, .slice A4 n4 cap4] 24)) := ⟨_, Lib.hid rfl⟩
  have hbA4 : Below w4.heap.size w4 W4 := by rw [hW4.out]; exact (Below.refl _ _).alloc (Nat.le_refl _) _
  have HZ4 : Hid (W4.heap.size = w4.heap.size + 1) := Lib.hid (by rw [hW4.out]; simp)
  have HB34 : Hid (Below w3.heap.size w3 W4) := Lib.hid (hb4.trans (hbA4.mono hb4.size))
  have HB04 : Hid (Below w.heap.size w W4) := Lib.hid (HB03.out.trans (HB34.out.mono HB03.out.size))
  have HG0 : Hid (w.heap.size < W4.heap.size) := Lib.hid (by have := HZ.out; have := HZ1.out; have := HS1.out; have := HS2.out; have := HZ2.out; have := HS3.out; have := HB34.out.size; omega)
  have b4 : BoxR W4 w.heap.size p c s (.slice A n cap) := B3.out.below HB34.out (by have := HZ.out; have := HZ1.out; have := HS1.out; have := HS2.out; have := HZ2.out; have := HS3.out; omega)
  have g4 : BoxR W4 w4.heap.size p c s (.slice A4 n4 cap4) := by rw [hW4.out]; exact boxR_new _ _ _ _ _ _
  have HR4 : Hid (RdM W4 (.slice A4 n4 cap4) ms) := Lib.hid ((ho4.below hbA4).rd)
  have HV4 : Hid (RdM W4 (.slice A n cap) ms) := Lib.hid (HV.out.below HB04.out)
  have HT4 : Hid (Tabs W4) := Lib.hid (HT.out.below HB04.out HT.out.big)
  have K4 : Hid (BoxR W4 w.heap.size p c s (.slice A n cap) ∧ BoxR W4 w4.heap.size p c s (.slice A4 n4 cap4)) := Lib.hid ⟨b4, g4⟩
  have HL4 : Hid (w4.heap.size < W4.heap.size) := Lib.hid (by have := HZ4.out; omega)
  clear hb4 hbA4 ho4 m0 m1 m2 m3 b4 g4
  go_upto_region 6 with fail
  rw [← hW4.out]
  have k4 : BoxR W4.drew w.heap.size p c s (.slice A n cap) ∧ BoxR W4.drew w4.heap.size p c s (.slice A4 n4 cap4) := K4.out
  have hdk : (k != k) = false := by simp
  have hde : (ep != ep) = false := by simp
  have HDR : Hid (Below W4.heap.size W4 W4.drew) := Lib.hid (Below.refl _ _).drew
  have HBIG : Hid (3 ≤ W4.heap.size) := Lib.hid (Nat.le_trans HT.out.big HB04.out.size)
  have HSD : Hid (W4.heap.size ≤ W4.drew.heap.size) := Lib.hid (Nat.le_refl _)
  go_region_held3 (fun w' => (w'.cell? ⟨w.heap.size, 0, none⟩ = some (.int .i64 p) ∧ w'.cell? ⟨w.heap.size, 1, none⟩ = some (.int .i64 c) ∧ w'.cell? ⟨w.heap.size, 2, none⟩ = some (.int .i64 s) ∧ w'.cell? ⟨w.heap.size, 3, none⟩ = some (.slice A n cap)) ∧ (w'.cell? ⟨w4.heap.size, 0, none⟩ = some (.int .i64 p) ∧ w'.cell? ⟨w4.heap.size, 1, none⟩ = some (.int .i64 c) ∧ w'.cell? ⟨w4.heap.size, 2, none⟩ = some (.int .i64 s) ∧ w'.cell? ⟨w4.heap.size, 3, none⟩ = some (.slice A4 n4 cap4)))
    (first | exact k4 | exact k5 | exact k6 | exact k7 | exact k8 | exact k9 | exact k10 | exact k11 | go_keep)
    (first
      | (go_at_call 12
         (with_reducible refine (HC.out _ _ (HT4.out.below HDR.out HBIG.out) (HR4.out.below HDR.out)).mono ?_); rintro e w5 ⟨rfl, hb5⟩
         have HB5 : Hid (Below W4.heap.size W4 w5) := Lib.hid (HDR.out.trans (hb5.mono HSD.out))
         have k5 : BoxR w5 w.heap.size p c s (.slice A n cap) ∧ BoxR w5 w4.heap.size p c s (.slice A4 n4 cap4) := ⟨K4.out.1.below HB5.out HG0.out, K4.out.2.below HB5.out HL4.out⟩
         clear hb5)
      | (go_at_call 13
         (with_reducible refine (HD.out _ _ (HV4.out.below HB5.out)).mono ?_); rintro e w6 ⟨rfl, hb6⟩
         have HB6 : Hid (Below W4.heap.size W4 w6) := Lib.hid (HB5.out.trans (hb6.mono HB5.out.size))
         have k6 : BoxR w6 w.heap.size p c s (.slice A n cap) ∧ BoxR w6 w4.heap.size p c s (.slice A4 n4 cap4) := ⟨K4.out.1.below HB6.out HG0.out, K4.out.2.below HB6.out HL4.out⟩
         clear hb6)
      | (go_at_call 15
         (with_reducible refine (HI.out _ _ (HT4.out.below HB6.out HBIG.out) (HR4.out.below HB6.out)).mono ?_); rintro e w7 ⟨A7, n7, c7, rfl, ho7, hn7, hb7⟩
         have HB7 : Hid (Below W4.heap.size W4 w7) := Lib.hid (HB6.out.trans (hb7.mono HB6.out.size))
         have HO7 := Lib.hid ho7.rd
         have k7 : BoxR w7 w.heap.size p c s (.slice A n cap) ∧ BoxR w7 w4.heap.size p c s (.slice A4 n4 cap4) := ⟨K4.out.1.below HB7.out HG0.out, K4.out.2.below HB7.out HL4.out⟩
         clear hb7 ho7 hn7)
      | (go_at_call 16
         (with_reducible refine (HJ.out _ _ (HV4.out.below HB7.out)).mono ?_); rintro e w8 ⟨A8, n8, c8, rfl, ho8, hn8, hb8⟩
         have HB8 : Hid (Below W4.heap.size W4 w8) := Lib.hid (HB7.out.trans (hb8.mono HB7.out.size))
         have HO8 := Lib.hid ho8.rd
         have HO78 := Lib.hid (HO7.out.below hb8)
         have k8 : BoxR w8 w.heap.size p c s (.slice A n cap) ∧ BoxR w8 w4.heap.size p c s (.slice A4 n4 cap4) := ⟨K4.out.1.below HB8.out HG0.out, K4.out.2.below HB8.out HL4.out⟩
         clear hb8 ho8 hn8)
      | (go_at_call 14
         (with_reducible refine (equalInt_any _ _ _ _ _ HO78.out HO8.out HNS.out).mono ?_); rintro e w9 ⟨b9, rfl, hbi9, hb9⟩
         obtain rfl : b9 = true := hbi9.2 rfl
         clear hbi9
         have HB9 : Hid (Below W4.heap.size W4 w9) := Lib.hid (HB8.out.trans (hb9.mono HB8.out.size))
         have k9 : BoxR w9 w.heap.size p c s (.slice A n cap) ∧ BoxR w9 w4.heap.size p c s (.slice A4 n4 cap4) := ⟨K4.out.1.below HB9.out HG0.out, K4.out.2.below HB9.out HL4.out⟩
         clear hb9)
      | (go_at_call 17
         (with_reducible refine (HE.out _ _ (HT4.out.below HB9.out HBIG.out) (HR4.out.below HB9.out)).mono ?_); rintro e w10 ⟨rfl, hb10⟩
         have HB10 : Hid (Below W4.heap.size W4 w10) := Lib.hid (HB9.out.trans (hb10.mono HB9.out.size))
         have k10 : BoxR w10 w.heap.size p c s (.slice A n cap) ∧ BoxR w10 w4.heap.size p c s (.slice A4 n4 cap4) := ⟨K4.out.1.below HB10.out HG0.out, K4.out.2.below HB10.out HL4.out⟩
         clear hb10)
      | (go_at_call 18
         (with_reducible refine (HF.out _ _ (HV4.out.below HB10.out)).mono ?_); rintro e w11 ⟨rfl, hb11⟩
         have HB11 : Hid (Below W4.heap.size W4 w11) := Lib.hid (HB10.out.trans (hb11.mono HB10.out.size))
         have k11 : BoxR w11 w.heap.size p c s (.slice A n cap) ∧ BoxR w11 w4.heap.size p c s (.slice A4 n4 cap4) := ⟨K4.out.1.below HB11.out HG0.out, K4.out.2.below HB11.out HL4.out⟩
         clear hb11))
  have HB12 : Hid (Below W4.heap.size W4 w11.drew) := Lib.hid HB11.out.drew
  have k12 : BoxR w11.drew w.heap.size p c s (.slice A n cap) ∧ BoxR w11.drew w4.heap.size p c s (.slice A4 n4 cap4) := k11
  have hpt : (pt == pt) = true := by simp
  clear k4 k5 k6 k7 k8 k9 k10 hdk hde
  go_upto_region 8 with fail
  go_region_held3 (fun w' => (w'.cell? ⟨w.heap.size, 0, none⟩ = some (.int .i64 p) ∧ w'.cell? ⟨w.heap.size, 1, none⟩ = some (.int .i64 c) ∧ w'.cell? ⟨w.heap.size, 2, none⟩ = some (.int .i64 s) ∧ w'.cell? ⟨w.heap.size, 3, none⟩ = some (.slice A n cap)) ∧ (w'.cell? ⟨w4.heap.size, 0, none⟩ = some (.int .i64 p) ∧ w'.cell? ⟨w4.heap.size, 1, none⟩ = some (.int .i64 c) ∧ w'.cell? ⟨w4.heap.size, 2, none⟩ = some (.int .i64 s) ∧ w'.cell? ⟨w4.heap.size, 3, none⟩ = some (.slice A4 n4 cap4)))
    (first | exact k12 | exact k13 | exact k14 | exact k15 | exact k16 | go_keep)
    (first
      | (go_at_call 19
         (with_reducible refine (HP.out _ _ (HT4.out.below HB12.out HBIG.out) (HR4.out.below HB12.out)).mono ?_); rintro e w13 ⟨rfl, hb13⟩
         have HB13 : Hid (Below W4.heap.size W4 w13) := Lib.hid (HB12.out.trans (hb13.mono HB12.out.size))
         have k13 : BoxR w13 w.heap.size p c s (.slice A n cap) ∧ BoxR w13 w4.heap.size p c s (.slice A4 n4 cap4) := ⟨K4.out.1.below HB13.out HG0.out, K4.out.2.below HB13.out HL4.out⟩
         clear hb13)
      | (go_at_call 20
         (with_reducible refine (HQ.out _ _ (HV4.out.below HB13.out)).mono ?_); rintro e w14 ⟨rfl, hb14⟩
         have HB14 : Hid (Below W4.heap.size W4 w14) := Lib.hid (HB13.out.trans (hb14.mono HB13.out.size))
         have k14 : BoxR w14 w.heap.size p c s (.slice A n cap) ∧ BoxR w14 w4.heap.size p c s (.slice A4 n4 cap4) := ⟨K4.out.1.below HB14.out HG0.out, K4.out.2.below HB14.out HL4.out⟩
         clear hb14)
      | (go_at_call 10
         (with_reducible refine (refSame_any _ _ _ _ _ _ _ _ ms ms _ (HR4.out.below HB14.out) (HV4.out.below HB14.out) HL.out).mono ?_); rintro e w15 ⟨b15, rfl, hbi15, hb15⟩
         obtain rfl : b15 = true := hbi15.2 (by simp)
         clear hbi15
         have HB15 : Hid (Below W4.heap.size W4 w15) := Lib.hid (HB14.out.trans (hb15.mono HB14.out.size))
         have k15 : BoxR w15 w.heap.size p c s (.slice A n cap) ∧ BoxR w15 w4.heap.size p c s (.slice A4 n4 cap4) := ⟨K4.out.1.below HB15.out HG0.out, K4.out.2.below HB15.out HL4.out⟩
         clear hb15)
      | (go_at_call 21
         (with_reducible refine (HAW.out _ (HT4.out.below HB15.out HBIG.out)).mono ?_); rintro e w16 ⟨rfl, hb16⟩
         have HB16 : Hid (Below W4.heap.size W4 w16) := Lib.hid (HB15.out.trans (hb16.mono HB15.out.size))
         have k16 : BoxR w16 w.heap.size p c s (.slice A n cap) ∧ BoxR w16 w4.heap.size p c s (.slice A4 n4 cap4) := ⟨K4.out.1.below HB16.out HG0.out, K4.out.2.below HB16.out HL4.out⟩
         clear hb16))
  have HZZ : Hid (Below w.heap.size w w16) := Lib.hid (HB04.out.trans (HB16.out.mono HB04.out.size))
  clear k11 k12 k13 k14 k15 k16
  go_wp2
  go_ret
  exact ⟨rfl, HZZ.out⟩
end Go.Proofs.YtmgobekdlgogmaaDoor
