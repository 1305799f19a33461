/- CausalBack, walked. -/
import Derived.Test.YtnlohijpcnoamaaKDecode
import Derived.Test.YtnlohijpcnoamaaCAsk
import Derived.Test.YtnlohijpcnoamaaCSame
import Derived.Test.YtnlohijpcnoamaaClone
namespace Go.Proofs.Ytnlohijpcnoamaa
open Go.RowKit Go.Sort Go.BigFrame
open Go.Lib (byteCells byteCells_length byteCells_append strCells strCells_eq)

theorem rd_none (w : World) (lo hi : Nat) : Rd w lo hi (.slice none 0 0) [] := ⟨none, 0, rfl, Nat.le_refl _, fun h => by simp at h⟩
theorem rdA_take {w : World} {lo hi : Nat} {A : Option Addr} {xs : List UInt8} (h : RdA w lo hi A xs) (k : Nat) : RdA w lo hi A (xs.take k) := fun h0 => by
  obtain ⟨ad, e, h1, h2, h3⟩ := h (by rw [List.length_take] at h0; omega)
  refine ⟨ad, e, h1, h2, fun j u hu => h3 j u ?_⟩
  have e2 : Go.Lib.byteCells (xs.take k) = (Go.Lib.byteCells xs).take k := by simp [Go.Lib.byteCells, List.map_take]
  rw [e2, List.getElem?_take] at hu
  split at hu
  · exact hu
  · cases hu
theorem okC_fit {ms ds : List DotA} (h : OkC ms ds) : (∀ d ∈ ms, Fit d) ∧ ∀ d ∈ ds, Fit d := by
  refine ⟨fun d hd => ?_, fun d hd => ?_⟩
  · obtain ⟨j, hj⟩ := List.mem_iff_getElem?.1 hd
    exact fit_of_may (h.2.2.1.1 j d hj)
  · obtain ⟨j, hj⟩ := List.mem_iff_getElem?.1 hd
    exact fit_of_may (h.2.2.2.1 j d hj).1
theorem codeC_short {ms ds : List DotA} (h : OkC ms ds) : (codeC ms ds).length ≤ 1048576 := by
  have h1 := dotsN_short (ds := ms) ms.length h.1
  have h2 := dotsN_short (ds := ds) ds.length h.2.1
  rw [List.take_length] at h1 h2
  have h3 := num_length ms.length
  have h4 := num_length ds.length
  unfold codeC
  simp only [List.length_append]
  omega

set_option maxRecDepth 100000 in
set_option maxHeartbeats 12800000 in
theorem causalBack_walk (va vk vb vh : Value) (a k : List DotA) (bs hs : List UInt8) (w : World) (ha : RdD w va a) (hk : RdD w vk k) (hb : Rd w 0 w.heap.size vb bs) (hh : Rd w 0 w.heap.size vh hs)
    (l1 : a.length ≤ 1048576) (l2 : k.length ≤ 1048576) (l3 : bs.length ≤ 1048576) (l4 : hs.length ≤ 1048576) :
    Calls Try.prog 4 #[va, vk, vb, vh] w fun e w' => e = .returned (.bool true) ∧ Below w.heap.size w w' := by
  obtain ⟨B, cb, rfl, hcb, hbx⟩ := hb
  obtain ⟨H, ch, rfl, hch, hhx⟩ := hh
  have H1 := Lib.hid (one_ref va vk a k w ha hk l1 l2)
  obtain ⟨nb, hnb⟩ : ∃ n, Hid (n = bs.length) := ⟨_, Lib.hid rfl⟩
  obtain ⟨nh, hnh⟩ : ∃ n, Hid (n = hs.length) := ⟨_, Lib.hid rfl⟩
  have HBX := Lib.hid hbx
  have HHX := Lib.hid hhx
  rw [← hnb.out] at hcb l3 ⊢
  rw [← hnh.out] at hch l4 ⊢
  clear ha hk hbx hhx
  go_enter Try.func4, Try.ntmps4
  go_wp2_with fail
  (with_reducible refine H1.out.mono ?_); rintro e w1 ⟨cm, cd, okc, cv, cv', rfl, hcm, hcd, hb1⟩
  have HB1 := Lib.hid hb1
  have OKC := Lib.hid okc
  have hsh := codeC_short okc
  obtain ⟨A1, c1, rfl⟩ := ownD_slice hcm
  obtain ⟨A2, c2, rfl⟩ := ownD_slice hcd
  obtain ⟨n1, hn1⟩ : ∃ n, Hid (n = cm.length) := ⟨_, Lib.hid rfl⟩
  obtain ⟨n2, hn2⟩ : ∃ n, Hid (n = cd.length) := ⟨_, Lib.hid rfl⟩
  rw [← hn1.out] at hcm ⊢
  rw [← hn2.out] at hcd ⊢
  obtain ⟨W1, hW1⟩ : ∃ W1, Hid (W1 = w1.alloc (.cells #[.slice A1 n1 c1, .slice A2 n2 c2] 25)) := ⟨_, Lib.hid rfl⟩
  have hbk : BK W1 w1.heap.size (.slice A1 n1 c1) (.slice A2 n2 c2) cm cd := by rw [hW1.out]; exact BK.made _ hcm hcd
  have hbw : Below w.heap.size w W1 := by rw [hW1.out]; exact below_alloc hb1
  have HBK := Lib.hid hbk
  have HBW := Lib.hid hbw
  obtain ⟨xs, hxs⟩ : ∃ xs, Hid (xs = codeC cm cd) := ⟨_, Lib.hid rfl⟩
  rw [← hxs.out] at hsh
  have HE := Lib.hid (encode_any (.slice none 0 0) (.agg #[.slice A1 n1 c1, .slice A2 n2 c2]) [] cm cd W1 (rd_none _ _ _) (by simp) hbk.rd (by have := okc.1; omega) (by have := okc.2.1; omega))
  have k0 := hbk.c0
  have k1 := hbk.c1
  have hWe := hW1.out.symm
  clear hcm hcd hbk hbw okc hb1 H1
  go_upto_region 2 with fail
  clear hWe
  go_wp2_with fail
  (with_reducible refine HE.out.mono ?_); rintro e w2 (⟨_, v2, rfl, hown2, hb2⟩ | ⟨hno, _⟩)
  case inr => exact absurd OKC.out hno
  rw [List.nil_append, ← hxs.out] at hown2
  have HB2 := Lib.hid hb2
  have HCL := Lib.hid (clone_any v2 xs w2 (hown2.rd.mono (Nat.zero_le _) (Nat.le_refl _)) (by omega))
  clear hown2 hb2 HE k0 k1
  go_wp2_with fail
  (with_reducible refine HCL.out.mono ?_); rintro e w3 ⟨v3, rfl, hown3, hb3⟩
  have b13 : Below W1.heap.size W1 w3 := below_next HB2.out hb3
  have b03 : Below w.heap.size w w3 := below_next HBW.out b13
  have hhx3 : RdA w3 0 w.heap.size H hs := HHX.out.keep fun p _ hp => b03.cell hp
  have hs23 : w2.heap.size ≤ w3.heap.size := hb3.size
  go_wp2_with (at_builtin; refine wpList_append_rd _ rfl (.tmp 26) (.tmp 27) rfl rfl hown3 rfl hnh.out hhx3 ?_ hs23 ?_)
  case _ => have := hnh.out; omega
  intro v4 w4 hown4 hg4 _
  obtain ⟨ys, hys⟩ : ∃ ys, Hid (ys = xs ++ hs) := ⟨_, Lib.hid rfl⟩
  rw [← hys.out] at hown4
  have hly : Hid (ys.length = xs.length + nh) := Lib.hid (by rw [hys.out, hnh.out, List.length_append])
  have b14 : Below W1.heap.size W1 w4 := b13.grown hg4 b13.size (fun k hk => Nat.le_trans HB2.out.size (hown3.lt k hk).1)
  have HB14 := Lib.hid b14
  have HOV := Lib.hid (over_any v4 ys w4 (hown4.rd.mono (Nat.zero_le _) (Nat.le_refl _)) (by have := hly.out; omega))
  clear hown3 hown4 hb3 b13 b03 hhx3 hs23 hg4 b14 HCL
  go_wp2_with fail
  (with_reducible refine HOV.out.mono ?_); rintro e w5 ⟨g, D, cD, rfl, hg, hrd, hrx, hb5⟩
  have hcode : ys.drop 0 = codeC cm cd ++ hs := by rw [List.drop_zero, hys.out, hxs.out]
  have HRS : Hid (readS ys 0 0 = (cm, cd, xs.length, 0)) := Lib.hid (by
    rw [readS_code hcode (okC_fit OKC.out).1 (okC_fit OKC.out).2 OKC.out.1 OKC.out.2.1, Nat.zero_add, hxs.out])
  have hlt5 := hrd.lt
  have HDC := Lib.hid (decode_any w5 g D cD ys 0 hrd (hrx.mono (Nat.zero_le _) (Nat.le_of_lt hlt5)))
  rw [HRS.out] at HDC
  have HB15 := Lib.hid (below_next HB14.out hb5)
  have hgW : W1.heap.size ≤ g := by have := HB14.out.size; omega
  clear hrd hrx hb5 hcode HOV
  go_wp2_with fail
  (with_reducible refine HDC.out.mono ?_); rintro e w6 (⟨_, _, A3, A4, n3, n4, c3, c4, rfl, o1, o2, hr6, kk6⟩ | ⟨y, _, hy | ⟨_, hy, _⟩, _⟩)
  case inr.inl => exact absurd rfl hy.1
  case inr.inr => exact absurd OKC.out hy
  have hz5 := HB15.out.size
  have hz6 := kk6.size
  have HB16 : Hid (Below W1.heap.size W1 w6) := Lib.hid (HB15.out.trans (kk6.below hgW hgW hz5))
  obtain ⟨W6, hW6⟩ : ∃ W6, Hid (W6 = w6.alloc (.cells #[.slice A3 n3 c3, .slice A4 n4 c4] 25)) := ⟨_, Lib.hid rfl⟩
  have hbk6 : BK W6 w6.heap.size (.slice A3 n3 c3) (.slice A4 n4 c4) cm cd := by rw [hW6.out]; exact BK.made _ o1 o2
  have HBK6 := Lib.hid hbk6
  have HBE6 : Hid (Below w6.heap.size w6 W6) := Lib.hid (by rw [hW6.out]; exact below_alloc (Below.refl _ _))
  have HB1W := Lib.hid (below_next HB16.out HBE6.out)
  have HR6 := Lib.hid (hr6.keep (HBE6.out.block g (by omega)))
  have hWe := hW6.out.symm
  have row6 : W6.heap[w6.heap.size]? = some (.cells #[.slice A3 n3 c3, .slice A4 n4 c4] 25 (0, 0)) := by rw [hW6.out]; exact heap_alloc_new w6 _
  have HROW6 := Lib.hid row6
  have hgl6 : g < w6.heap.size := by omega
  have hltW6 : w6.heap.size < W6.heap.size := hbk6.lt
  clear o1 o2 hr6 kk6 hbk6 HDC row6
  go_upto_region 7 with fail
  clear hWe
  have HBKc := Lib.hid (HBK.out.below HB1W.out)
  have q0 := HBKc.out.c0
  have q1 := HBKc.out.c1
  have q2 := HBK6.out.c0
  have q3 := HBK6.out.c1
  have HS := Lib.hid (same_any (.agg #[.slice A1 n1 c1, .slice A2 n2 c2]) (.agg #[.slice A3 n3 c3, .slice A4 n4 c4]) cm cd cm cd W6 HBKc.out.rd HBK6.out.rd (by have := OKC.out.1; omega) (by have := OKC.out.2.1; omega))
  go_wp2_with fail
  (with_reducible refine HS.out.mono ?_); rintro e w7 ⟨b, rfl, hbi, hb7⟩
  obtain rfl : b = true := hbi.2 (by simp)
  have HB7 := Lib.hid hb7
  have hr7 := HR6.out.keep (hb7.block g (by omega))
  have HR7 := Lib.hid hr7
  have HL := left_made g D cD ys _ w7 hr7
  rw [show (ys.length : Int) - (xs.length : Int) = (nh : Int) by have := hly.out; omega] at HL
  replace HL := Lib.hid HL
  clear hbi hb7 hr7 q0 q1 q2 q3 HS
  go_wp2_with fail
  (with_reducible refine HL.out.mono ?_); rintro e w8 ⟨rfl, j, rfl⟩
  have b08 : Below w.heap.size w (w7.drewN j) := below_drewN (below_next HBW.out (below_next HB1W.out HB7.out)) j
  have HB08 := Lib.hid b08
  have tl : ((nh : Int) != (nh : Int)) = false := by simp
  have row8 : (w7.drewN j).heap[w6.heap.size]? = some (.cells #[.slice A3 n3 c3, .slice A4 n4 c4] 25 (0, 0)) := (HB7.out.block _ hltW6).trans HROW6.out
  have HROW8 := Lib.hid row8
  have hz8 : w6.heap.size < (w7.drewN j).heap.size := Nat.lt_of_lt_of_le hltW6 HB7.out.size
  have HOV2 := Lib.hid (over_any (.slice B nb cb) bs (w7.drewN j) ⟨B, cb, by rw [hnb.out], by rw [← hnb.out]; exact hcb, (HBX.out.keep fun p _ hp => b08.cell hp).mono (Nat.le_refl _) b08.size⟩ (by rw [← hnb.out]; omega))
  have hwz6 : w.heap.size ≤ w6.heap.size := by have := HBW.out.size; have := HB16.out.size; omega
  clear b08 row8 HL
  obtain ⟨W8, hW8⟩ : ∃ W8, W8 = w7.drewN j := ⟨_, rfl⟩
  rw [← hW8] at HB08 HROW8 hz8 HOV2 ⊢
  clear hW8
  go_wp2_with fail
  (with_reducible refine HOV2.out.mono ?_); rintro e w9 ⟨g2, D2, cD2, rfl, hg2, hrd2, hrx2, hb9⟩
  have hlt9 := hrd2.lt
  have HDC2 := Lib.hid (decode_any w9 g2 D2 cD2 bs 0 hrd2 (hrx2.mono (Nat.zero_le _) (Nat.le_of_lt hlt9)))
  have HB09 := Lib.hid (below_next HB08.out hb9)
  have HROW9 := Lib.hid ((hb9.block _ hz8).trans HROW8.out)
  have HR9 := Lib.hid hrd2
  have hz9 := hb9.size
  have HBACK := Lib.hid (fun h => @readS_back bs 0 0 h)
  obtain ⟨r, hr⟩ : ∃ r, Hid (r = readS bs 0 0) := ⟨_, Lib.hid rfl⟩
  rw [← hr.out] at HDC2 HBACK
  clear hrd2 hrx2 hb9 HOV2
  go_wp2_with fail
  (with_reducible refine HDC2.out.mono ?_); rintro e w10 (⟨hy0, hok, A5, A6, n5, n6, c5, c6, rfl, o5, o6, hr10, kk10⟩ | ⟨y, hy, _, rfl, hb10⟩)
  · have hz10 := kk10.size
    have HOK := Lib.hid hok
    have HB010 : Hid (Below w.heap.size w w10) := Lib.hid (HB09.out.trans (kk10.below (by omega) (by omega) (by omega)))
    have row10 := (kk10.block _ (by omega) (by omega) (by omega)).trans HROW9.out
    have q0 : w10.cell? ⟨w6.heap.size, 0, none⟩ = some (.slice A3 n3 c3) := cell_of_row w10 _ 0 _ _ (0, 0) row10
    have q1 : w10.cell? ⟨w6.heap.size, 1, none⟩ = some (.slice A4 n4 c4) := cell_of_row w10 _ 1 _ _ (0, 0) row10
    have f0 : w10.frozen? ⟨w6.heap.size, 0, none⟩ = false := frozen_of_row w10 _ 0 _ _ row10
    have f1 : w10.frozen? ⟨w6.heap.size, 1, none⟩ = false := frozen_of_row w10 _ 1 _ _ row10
    obtain ⟨W10, hW10⟩ : ∃ W, Hid (W = (w10.setCell ⟨w6.heap.size, 0, none⟩ (.slice A5 n5 c5)).setCell ⟨w6.heap.size, 1, none⟩ (.slice A6 n6 c6)) := ⟨_, Lib.hid rfl⟩
    have hne10 : ∀ b, b ≠ w6.heap.size → W10.heap[b]? = w10.heap[b]? := fun b hb => by
      rw [hW10.out]
      exact (Below.heap_setCell _ _ _ _ hb).trans (Below.heap_setCell _ _ _ _ hb)
    have hszW10 : W10.heap.size = w10.heap.size := by rw [hW10.out]; simp [World.setCell]
    have HB0W : Hid (Below w.heap.size w W10) := Lib.hid (by rw [hW10.out]; exact (HB010.out.setCell hwz6 _).setCell hwz6 _)
    have hrW := hr10.keep (hne10 g2 (by omega))
    have HRW := Lib.hid hrW
    have hrow : W10.heap[w6.heap.size]? = some (.cells #[.slice A5 n5 c5, .slice A6 n6 c6] 25 (0, 0)) := by
      rw [hW10.out]
      exact (Joins.block_setCell (Joins.block_setCell row10 (i := 0) (.slice A5 n5 c5)) (i := 1) (.slice A6 n6 c6)).trans (by simp)
    have k0 : W10.cell? ⟨w6.heap.size, 0, none⟩ = some (.slice A5 n5 c5) := cell_of_row W10 _ 0 _ _ (0, 0) hrow
    have k1 : W10.cell? ⟨w6.heap.size, 1, none⟩ = some (.slice A6 n6 c6) := cell_of_row W10 _ 1 _ _ (0, 0) hrow
    have o5' : OwnD 53 W10 w9.heap.size (.slice A5 n5 c5) r.1 := o5.stay (fun b h1 h2 => hne10 b (by omega))
    have o6' : OwnD 55 W10 w9.heap.size (.slice A6 n6 c6) r.2.1 := o6.stay (fun b h1 h2 => hne10 b (by omega))
    have HE2 := Lib.hid (encode_any (.slice none 0 0) (.agg #[.slice A5 n5 c5, .slice A6 n6 c6]) [] r.1 r.2.1 W10 (rd_none _ _ _) (by simp) (o5'.rdC o6') (by have := hok.1; omega) (by have := hok.2.1; omega))
    obtain ⟨_, _, hseg⟩ := HBACK.out hy0
    have hq : r.2.2.1 ≤ nb := by rw [hnb.out]; exact hr10.le
    have HSEG : Hid (codeC r.1 r.2.1 = bs.take r.2.2.1) := Lib.hid (by rw [hseg]; unfold seg; rw [List.drop_zero, Nat.sub_zero])
    obtain ⟨q, hqe⟩ : ∃ q, Hid (q = r.2.2.1) := ⟨_, Lib.hid rfl⟩
    rw [← hqe.out] at HSEG hq HRW hrW
    have hql : (bs.take q).length = q := by rw [List.length_take, ← hnb.out]; omega
    have hWe := hW10.out.symm
    clear o5 o6 o5' o6' hrow row10 hok kk10 hr10 hrW hseg HDC2 hy0
    go_upto_region 11 with fail
    clear hWe f0 f1 q0 q1
    go_wp2_with fail
    (with_reducible refine HE2.out.mono ?_); rintro e w11 (⟨_, v11, rfl, hown11, hb11⟩ | ⟨hno, _⟩)
    case inr => exact absurd HOK.out hno
    rw [List.nil_append, HSEG.out] at hown11
    have HB11 := Lib.hid (below_next HB0W.out hb11)
    have HAT := Lib.hid (at_made g2 D2 cD2 bs q w11 (HRW.out.keep (hb11.block g2 (by omega))))
    have HO11 := Lib.hid hown11
    have hqc : (q : Int) ≤ (cb : Int) := by omega
    have HEQ := Lib.hid (fun n => equal_same v11 (.slice B q cb) (bs.take q) _ _ _ _ (w11.drewN n) (hown11.rd.drewN n) ⟨B, cb, by rw [hql], by omega, rdA_take ((HBX.out.keep fun p _ hp => (below_drewN HB11.out n).cell hp)) q⟩ (by omega))
    clear hown11 hb11 HE2 k0 k1
    go_wp2_with fail
    (with_reducible refine HAT.out.mono ?_); rintro e w12 ⟨rfl, j12, rfl⟩
    go_wp2_with fail
    (with_reducible refine (HEQ.out _).mono ?_); rintro e w13 ⟨rfl, j13, rfl⟩
    go_wp2
    go_ret
    exact ⟨rfl, below_drewN HB11.out _⟩
  · have t1 : (y != 0) = true := by simpa using hy
    have row10 := (hb10.block _ (by omega)).trans HROW9.out
    have q0 : w10.cell? ⟨w6.heap.size, 0, none⟩ = some (.slice A3 n3 c3) := cell_of_row w10 _ 0 _ _ (0, 0) row10
    have q1 : w10.cell? ⟨w6.heap.size, 1, none⟩ = some (.slice A4 n4 c4) := cell_of_row w10 _ 1 _ _ (0, 0) row10
    have f0 : w10.frozen? ⟨w6.heap.size, 0, none⟩ = false := frozen_of_row w10 _ 0 _ _ row10
    have f1 : w10.frozen? ⟨w6.heap.size, 1, none⟩ = false := frozen_of_row w10 _ 1 _ _ row10
    have HB010 := Lib.hid (below_next HB09.out hb10)
    obtain ⟨W10, hW10⟩ : ∃ W, Hid (W = (w10.setCell ⟨w6.heap.size, 0, none⟩ (.slice none 0 0)).setCell ⟨w6.heap.size, 1, none⟩ (.slice none 0 0)) := ⟨_, Lib.hid rfl⟩
    have HB0W : Hid (Below w.heap.size w W10) := Lib.hid (by rw [hW10.out]; exact (HB010.out.setCell hwz6 _).setCell hwz6 _)
    have hrW : Rdr W10 g2 D2 cD2 bs 0 := HR9.out.keep (by
      rw [hW10.out]
      exact ((Below.heap_setCell _ _ _ _ (by show g2 ≠ w6.heap.size; omega)).trans (Below.heap_setCell _ _ _ _ (by show g2 ≠ w6.heap.size; omega))).trans (hb10.block g2 hlt9))
    have HAT := Lib.hid (at_made g2 D2 cD2 bs 0 W10 hrW)
    have hWe := hW10.out.symm
    clear hrW row10 hb10 HDC2
    go_upto_region 11 with fail
    clear hWe f0 f1 q0 q1
    go_wp2_with fail
    (with_reducible refine HAT.out.mono ?_); rintro e w12 ⟨rfl, j12, rfl⟩
    go_wp2
    go_ret
    exact ⟨rfl, below_drewN HB0W.out _⟩
end Go.Proofs.Ytnlohijpcnoamaa
