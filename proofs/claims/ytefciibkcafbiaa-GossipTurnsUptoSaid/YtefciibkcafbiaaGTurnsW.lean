/- GossipTurns. -/
import Derived.Test.YtefciibkcafbiaaGMap
import Derived.IntWalk
namespace Go.Proofs.Ytefciibkcafbiaa
open Go.RowKit Go.Sort Go.BigFrame Go.WideMaps

theorem new_any (ks : Nat) (hk : ks < 8) (w : World) : Calls Try.prog 6 #[.int .i64 (ks : Int)] w fun e w' => ∃ g, w.heap.size ≤ g ∧ e = .returned (.tuple #[.pointer (some ⟨g, 0, none⟩), .int .i64 0]) ∧ BoxAt w' g true ks (-1) 0 ∧ Below w.heap.size w w' := by
  have H0 := fun w => Lib.hid (isNode_any ks w)
  have e3 : isNodeB ks = true := by unfold isNodeB; simp; omega
  rw [e3] at H0
  go_enter Try.func6, Try.ntmps6
  go_wp2_with ((go_at_call 14); (with_reducible refine (H0 _).out.mono ?_); rintro e w1 ⟨rfl, rfl⟩)
  go_ret2
  exact ⟨_, Nat.le_refl _, rfl, heap_alloc_new w _, (Below.refl _ _).alloc (Nat.le_refl _) _⟩

theorem wrapU (x : Int) : 0 ≤ IntKind.u64.wrap x ∧ IntKind.u64.wrap x ≤ 18446744073709551615 := by
  simp [IntKind.wrap, IntKind.bits, IntKind.signed]
  omega
theorem small_of (x n : Int) (h0 : 0 < n) (h1 : n ≤ 1000) : ∃ k : Nat, (k : Int) < n ∧ wrap64 ((IntKind.u64.wrap x).tmod n) = (k : Int) := by
  obtain ⟨a, b⟩ := wrapU x
  rw [Int.tmod_eq_emod_of_nonneg a]
  have h2 := Int.emod_nonneg (IntKind.u64.wrap x) (show n ≠ 0 by omega)
  have h3 := Int.emod_lt_of_pos (IntKind.u64.wrap x) h0
  generalize IntKind.u64.wrap x % n = r at *
  obtain ⟨k, rfl⟩ := Int.eq_ofNat_of_zero_le h2
  refine ⟨k, h3, ?_⟩
  simp [wrap64]
  omega
theorem Turns.grows {g : Nat} {w w' : World} (h : Turns g w.heap.size w w') : w.grownBy w' (some g) := ⟨h.os, h.tape, h.output, h.size, fun b hb hne => h.block b hb (fun e => hne (by rw [e]))⟩

theorem grown_of_below' {w w' : World} (hb : Below w.heap.size w w') (row : Option Nat) : w.grownBy w' row := ⟨hb.os, hb.tape, hb.output, hb.size, fun k hk _ => hb.block k hk⟩
theorem Sent.get {g B : Nat} {s n now : Int} {w w' : World} {e : Ending} (h : Sent g B s n now w w' e) : ∃ b, e = .returned (.slice (some ⟨b, 0, none⟩) 1 1) ∧ B ≤ b ∧ w'.heap[b]? = some (.cells (gcells s n) 54 (0, 0)) ∧ BoxAt w' g true s n now ∧ Turns g B w w' := h
theorem invInt (key : Value) (kl : Lit) (h : keyOf Try.prog 3 key = some kl) : ∃ x : Int, key = .int .i64 x := by
  obtain ⟨x, e, _⟩ := Maps.keyOf_int_inv Try.underlying3 h
  exact ⟨x, e⟩

set_option maxRecDepth 100000 in
set_option maxHeartbeats 3200000 in
theorem turns_walk (self rounds : Int) (A : Option Addr) (zs : List Int) (c : Nat) (w : World) (h : RdZ w A zs) (hc : zs.length ≤ c) (hl : zs.length ≤ 1048576) :
    Calls Try.prog 4 #[.int .i64 self, .slice A zs.length c, .int .i64 rounds] w fun e w' => e = .returned (.bool true) ∧ Below w.heap.size w w' := by
  have hmm := @run_makeMap Try.prog
  obtain ⟨ks, hks8, hks⟩ := small_of self 8 (by decide) (by decide)
  obtain ⟨nr, hnr4, hnr⟩ := small_of rounds 4 (by decide) (by decide)
  have HKS := Lib.hid hks
  have HNR := Lib.hid hnr
  have hk8 : ks < 8 := by omega
  have hr4 : nr < 4 := by omega
  obtain ⟨n, hn⟩ : ∃ n, Hid (n = zs.length) := ⟨_, Lib.hid rfl⟩
  have hl2 : n ≤ 1048576 := by rw [hn.out]; exact hl
  have HNEW := fun w' => Lib.hid (new_any ks hk8 w')
  have HR := Lib.hid h
  have HC : Hid (zs.length ≤ c) := Lib.hid hc
  rw [← hn.out]
  clear hks hnr h hc hl hks8 hnr4
  go_enter Try.func4, Try.ntmps4
  go_upto_region 2 with fail
  rw [HKS.out]
  go_wp2_with ((go_at_call 6); (with_reducible refine (HNEW _).out.mono ?_); rintro e w1 ⟨g, hg, rfl, hbox, hb1⟩; have HG : Hid (w.heap.size ≤ g) := Lib.hid hg; have HBOX := Lib.hid hbox; have HB1 := Lib.hid hb1; clear hg hbox hb1)
  have OM0 := World.ownsMap_made (H := Value) w1 Try.prog 3 selfR
  obtain ⟨W2, hW2⟩ : ∃ W2, Hid (W2 = w1.alloc (.map #[] 0)) := ⟨_, Lib.hid rfl⟩
  rw [← hW2.out] at OM0 ⊢
  have HB2 : Hid (Below w1.heap.size w1 W2) := Lib.hid (by rw [hW2.out]; exact (Below.refl _ _).alloc (Nat.le_refl _) _)
  have HRW : Hid (RdZ w1 A zs) := Lib.hid (HR.out.below HB1.out)
  have HOM0 := Lib.hid OM0
  clear OM0
  go_loopw [29] (fun i wr => ∃ (k : Nat) (D : DataW Value), k ≤ n ∧ i = .int .i64 k ∧ Hid (wr.ownsMap Try.prog 3 selfR w1.heap.size k D) ∧ Hid (MapIs D (marks ks (zs.take k))) ∧ Below w1.heap.size w1 wr) (fun i _ => n - (intOf i).toNat)
  case atStart => exact ⟨0, _, Nat.zero_le _, rfl, HOM0, Lib.hid mapIs_empty, HB2.out⟩
  case round =>
    obtain ⟨k, D, hk, rfl, HM, HI, hb⟩ := hrel
    by_cases hlt : k < n
    · obtain ⟨z, hz⟩ : ∃ z, zs[k]? = some z := ⟨zs[k]'(by rw [← hn.out]; exact hlt), List.getElem?_eq_getElem _⟩
      obtain ⟨ad, rfl, hadl, hcell, hz0, hz1⟩ := HRW.out k z hz
      have hcw : wr.cell? (ad.add k) = some (.int .i64 z) := (hb.cell (by rw [add_block]; exact hadl)).trans hcell
      have HTK : Hid (marks ks (zs.take (k + 1)) = mk1 ks (marks ks (zs.take k)) z) := Lib.hid (by
        rw [← marks_snoc]
        congr 1
        rw [List.take_add_one, hz]
        rfl)
      clear hz hadl hcell
      by_cases hin : 0 ≤ z ∧ z < 8 ∧ z ≠ (ks : Int)
      · obtain ⟨zn, rfl⟩ := Int.eq_ofNat_of_zero_le hin.1
        have HZ8 : Hid (zn < 8) := Lib.hid (by omega)
        have d1 : decide ((zn : Int) < 8) = true := by simp; omega
        have d2 : ((zn : Int) == (ks : Int)) = false := by simpa using hin.2.2
        have d3 : ((zn : Int) != (ks : Int)) = true := by simpa using hin.2.2
        have HTK2 : Hid (marks ks (zs.take (k + 1)) = (marks ks (zs.take k)).set zn true) := Lib.hid (by rw [HTK.out]; unfold mk1; rw [if_pos hin]; rfl)
        have HBR := Lib.hid hb
        have hkey : keyOf Try.prog 3 (.int .i64 (zn : Int)) = some (nD zn) := Maps.keyOf_int_mk Try.underlying3 (litWf hz0 hz1)
        clear hin hb hz0 hz1 HTK
        go_wp2_with (at_mapUpdate; refine wpList_mapUpdate_own _ rfl _ _ _ 57 rfl 3 4 lawInt Try.underlying57 selfR w1.heap.size k _ rfl HM.out (by unfold maxLen; omega) _ _ _ rfl rfl hkey (.held (.bool true)) [] rfl ?_; intro w6 hown6 hg6)
        have HM6 := Lib.hid hown6
        have HB6 : Hid (Below w1.heap.size w1 w6) := Lib.hid (HBR.out.grown hg6 HBR.out.size (fun j e => by injection e with e; omega))
        have HI6 : Hid (MapIs (D.put (nD zn) (.held (.bool true))) (marks ks (zs.take (k + 1)))) := Lib.hid (by rw [HTK2.out]; exact HI.out.put HZ8.out (hown6.tidy lawInt))
        clear hown6 hg6 hkey
        go_roundw
        case rel => exact ⟨k + 1, _, by omega, by go_num, HM6, HI6, HB6.out⟩
        case measure => simp [intOf]; omega
      · have HTK2 : Hid (marks ks (zs.take (k + 1)) = marks ks (zs.take k)) := Lib.hid (by rw [HTK.out]; unfold mk1; rw [if_neg hin])
        have HI2 : Hid (MapIs D (marks ks (zs.take (k + 1)))) := Lib.hid (by rw [HTK2.out]; exact HI.out)
        have HM2 : Hid (wr.ownsMap Try.prog 3 selfR w1.heap.size (k + 1) D) := Lib.hid (HM.out.mono (by omega))
        have HBR := Lib.hid hb
        have dd : decide (0 ≤ z) = false ∨ (decide (0 ≤ z) = true ∧ decide (z < 8) = false) ∨ (decide (0 ≤ z) = true ∧ decide (z < 8) = true ∧ (z == (ks : Int)) = true ∧ (z != (ks : Int)) = false) := by
          by_cases a1 : 0 ≤ z
          · by_cases a2 : z < 8
            · have a3 : z = (ks : Int) := by
                apply Classical.byContradiction
                intro h3
                exact hin ⟨a1, a2, h3⟩
              exact .inr (.inr ⟨by simpa using a1, by simpa using a2, by simpa using a3, by simp [a3]⟩)
            · exact .inr (.inl ⟨by simpa using a1, by simpa using a2⟩)
          · exact .inl (by simpa using a1)
        clear hin hb HTK HTK2 HM
        rcases dd with d1 | ⟨d1, d2⟩ | ⟨d1, d2, d3, d4⟩
        all_goals
          go_wp2
          go_roundw
          case rel => exact ⟨k + 1, D, by omega, by go_num, HM2, HI2, HBR.out⟩
          case measure => simp [intOf]; omega
    · obtain rfl : k = n := by omega
      have HBR := Lib.hid hb
      have HL : Hid (MapIs D (marks ks zs)) := Lib.hid (by have := HI.out; rwa [hn.out, List.take_length] at this)
      clear hb hlt hk HI HOM0 HB2
      go_wp2_with fail
      obtain ⟨q, hq⟩ : ∃ q : Nat, Hid (q = nr + 1) := ⟨_, Lib.hid rfl⟩
      have hq4 : q ≤ 4 := by rw [hq.out]; omega
      have HQ : Hid (wrap64 (1 + (nr : Int)) = (q : Int)) := Lib.hid (by rw [hq.out]; simp [wrap64]; omega)
      rw [HNR.out, HQ.out]
      clear HNR HQ hq hr4
      have HLL : Hid ((marks ks zs).length = 8) := Lib.hid (marks_len _ _)
      obtain ⟨L, hL⟩ : ∃ L, Hid (L = marks ks zs) := ⟨_, Lib.hid rfl⟩
      rw [← hL.out] at HL HLL
      have HCL := Lib.hid (cnt_le L HLL.out)
      have HZG : Hid (g < w1.heap.size) := Lib.hid HBOX.out.lt
      have HBW : Hid (BoxAt wr g true ks (((0 : Nat) : Int) - 1) 0) := Lib.hid (HBOX.out.below HBR.out HBOX.out.lt)
      have HWW : Hid (Below w.heap.size w wr) := Lib.hid (HB1.out.trans (HBR.out.mono HB1.out.size))
      clear HBR
      go_loopw [52, 12] (fun i x wr => ∃ (j st : Nat) (nw a : Int), j ≤ q ∧ i = .int .i64 j ∧ x = .int .i64 nw ∧ 0 ≤ nw ∧ nw ≤ 800 * (j : Int) ∧ 0 ≤ a ∧ a ≤ nw ∧ Hid (st ≤ 8 ∧ (st = 0 ∨ a + 100 = nw)) ∧ Hid (BoxAt wr g true ks ((st : Int) - 1) a) ∧ Hid (wr.ownsMap Try.prog 3 selfR w1.heap.size k D) ∧ Hid (Below w.heap.size w wr)) (fun i _ _ => q - (intOf i).toNat)
      case atStart => exact ⟨0, 0, 0, 0, Nat.zero_le _, rfl, rfl, by omega, by omega, by omega, by omega, Lib.hid ⟨by omega, .inl rfl⟩, HBW, HM, HWW⟩
      case round =>
        obtain ⟨j, st, nw, a, hj, rfl, rfl, hn0, hn1, ha0, ha1, HST, HBX, HMW, HBE⟩ := hrel
        by_cases hlt : j < q
        · obtain ⟨wo, hwo⟩ : ∃ wo : World, wo = wr := ⟨_, rfl⟩
          subst hwo
          have hnw : nw ≤ 3200 := by omega
          obtain ⟨W5, hW5⟩ : ∃ W5, Hid (W5 = wo.alloc (.map #[] 0)) := ⟨_, Lib.hid rfl⟩
          have HE0 := World.ownsMap_made (H := Value) wo Try.prog 3 selfR
          have HM5 := HMW.out.alloc (.map #[] 0)
          rw [← hW5.out] at HE0 HM5
          have HB5 : Hid (Below wo.heap.size wo W5) := Lib.hid (by rw [hW5.out]; exact (Below.refl _ _).alloc (Nat.le_refl _) _)
          have HZ5 : Hid (W5.heap.size = wo.heap.size + 1) := Lib.hid (by rw [hW5.out]; simp)
          have HE := Lib.hid HE0
          have HM5' := Lib.hid HM5
          have HMB : Hid (w1.heap.size < wo.heap.size) := Lib.hid HMW.out.lt
          clear HE0 HM5
          go_upto_region 16 with fail
          rw [← hW5.out]
          go_wp2_with (at_range; refine wpList_range_own _ rfl _ 57 rfl 3 4 lawInt Try.underlying57 selfR w1.heap.size k D rfl HM5'.out ?_; intro w0 hrg0 hg0 hs0)
          go_frame
          have HG0 := Lib.hid hg0
          have HS0 := Lib.hid hs0
          have HRG0 := Lib.hid hrg0
          obtain ⟨r, hr⟩ : ∃ r, Hid (r = W5.heap.size) := ⟨_, Lib.hid rfl⟩
          rw [← hr.out] at HRG0 ⊢
          have HSZ : Hid (Maps.size D = cnt L) := Lib.hid HL.out.size_
          have HB0 : Hid (Below wo.heap.size wo w0) := Lib.hid (HB5.out.grown hg0 HB5.out.size (fun j e => by cases e))
          have HE0 : Hid (w0.ownsMap Try.prog 3 selfR wo.heap.size 0 (.map [])) := Lib.hid (HE.out.kept hg0 (by simp))
          have HBX0 : Hid (BoxAt w0 g true ks ((sq L st 0 : Nat) - 1) a) := Lib.hid (HBX.out.below HB0.out (by have := HMB.out; have := HZG.out; omega))
          have HBE0 : Hid (Below w.heap.size w w0) := Lib.hid (HBE.out.trans (HB0.out.mono HBE.out.size))
          have HOZ : Hid (wo.heap.size < w0.heap.size) := Lib.hid HE0.out.lt
          clear hg0 hs0 hrg0
          go_loopw [12] (fun x wr => ∃ (left : Lit → Bool) (ct i : Nat) (nv av : Int) (Dm : DataW Value), Hid (wr.ranges Try.prog 3 selfR w1.heap.size r k D left ct ∧ i + ct ≤ cnt L) ∧ i ≤ 8 ∧ x = .int .i64 nv ∧ 0 ≤ nv ∧ nv ≤ 800 * (j : Int) + 100 * (i : Int) ∧ 0 ≤ av ∧ av ≤ nv ∧ Hid (sq L st i = 0 ∨ av + 100 = nv) ∧ Hid (BoxAt wr g true ks ((sq L st i : Nat) - 1) av) ∧ Hid (wr.ownsMap Try.prog 3 selfR wo.heap.size i Dm) ∧ Hid (MetIs Dm L st i) ∧ Hid (Below w.heap.size w wr)) (fun _ wr => wr.rangeLeft w1.heap.size r)
          case atStart => exact ⟨_, _, 0, nw, a, _, Lib.hid ⟨HRG0.out, by rw [HSZ.out]; omega⟩, by omega, rfl, hn0, by omega, ha0, ha1, Lib.hid HST.out.2, HBX0, HE0, Lib.hid (metIs_empty _ _), HBE0⟩
          case round =>
            obtain ⟨left, ct, i, nv, av, Dm, HRG, hi8, rfl, hv0, hv1, hav0, hav1, HAV, HBXr, HMm, HMet, HBr⟩ := hrel
            go_wp2_with (at_next; refine wpList_next_ranges _ rfl _ rfl 3 lawInt selfR (fun x : Int => .int .i64 x) (fun v : Value => v) invInt (fun v y _ => ⟨v, rfl⟩) w1.heap.size r k D left ct rfl HRG.out.1 ?_ ?_)
            · intro hc0 hl0
              have HI : Hid (i ≤ cnt L) := Lib.hid (by have := HRG.out.2; omega)
              have HS8 : Hid (sq L st i ≤ 8) := Lib.hid (sq_le HLL.out HST.out.1 HI.out)
              have HMr : Hid (wr.ownsMap Try.prog 3 selfR w1.heap.size k D) := Lib.hid HRG.out.1.owns
              clear hc0 hl0
              go_wp2
              go_roundw
              case rel => exact ⟨j + 1, sq L st i, nv, av, by omega, by go_num, rfl, hv0, by omega, hav0, hav1, Lib.hid ⟨HS8.out, HAV.out⟩, HBXr, HMr, HBr⟩
              case measure => simp [intOf]; omega
            · intro x c1 kl ya yb w6 ct1 hkey hlk hR hat hrg1 hlt1 hg1 hs1 hen
              have HCT : Hid (ct1 < ct) := Lib.hid hlt1
              have hpos : 0 < ct := by omega
              have HIC : Hid (i < cnt L) := Lib.hid (by have := HRG.out.2; omega)
              obtain ⟨t1, t2, t3⟩ := turn_ok HLL.out HST.out.1 HIC.out
              have HS8 : Hid (sq L st i ≤ 8) := Lib.hid (sq_le HLL.out HST.out.1 (Nat.le_of_lt HIC.out))
              obtain ⟨sI, hsI⟩ : ∃ sI, Hid (sI = sq L st i) := ⟨_, Lib.hid rfl⟩
              obtain ⟨m, hm⟩ : ∃ m, Hid (m = nx L (sq L st i)) := ⟨_, Lib.hid rfl⟩
              rw [← hm.out] at t1 t2 t3
              rw [← hsI.out] at HS8 HBXr HAV
              have HNX : Hid (nx (marks ks zs) sI = m) := Lib.hid (by rw [← hL.out, hsI.out, hm.out])
              have HT2 := Lib.hid t2
              have HT3 := Lib.hid t3
              have hnv : nv ≤ 4000 := by omega
              have HB6 : Hid (Below w.heap.size w w6) := Lib.hid (HBr.out.grown hg1 HBr.out.size (fun j e => by injection e with e; rw [← e, hr.out]; have := HZ5.out; have := HBE.out.size; omega))
              have hrne : ∀ b, b ≤ wo.heap.size → some b ≠ some r := fun b hb e => by injection e with e; rw [e, hr.out] at hb; have := HZ5.out; omega
              have HBX6 : Hid (BoxAt w6 g true ks ((sI : Int) - 1) av) := Lib.hid (HBXr.out.keep (hg1.block g HBXr.out.lt (hrne g (by have := HMB.out; have := HZG.out; omega))))
              have HMm6 : Hid (w6.ownsMap Try.prog 3 selfR wo.heap.size i Dm) := Lib.hid (HMm.out.kept hg1 (hrne _ (Nat.le_refl _)))
              have HRG6 := Lib.hid hrg1
              have HRZ6 : Hid (RdZ w6 A zs) := Lib.hid (HR.out.below HB6.out)
              have HCLN : Hid (Calls Try.prog 12 #[.slice A k c] w6 fun e w' => ∃ A' c', e = .returned (.slice A' k c') ∧ RdZ w' A' zs ∧ Below w6.heap.size w6 w') := Lib.hid (by
                have := clone_ints A zs c w6 HRZ6.out HC.out (by rw [← hn.out]; exact hl2)
                rw [← hn.out] at this
                exact this)
              have dks : ((ks : Int) == (ks : Int)) = true := by simp
              have dks2 : ((ks : Int) != (ks : Int)) = false := by simp
              have hkm : keyOf Try.prog 3 (.int .i64 (m : Int)) = some (nD m) := Maps.keyOf_int_mk Try.underlying3 (litWf (by omega) (by omega))
              have HGW : Hid (w.heap.size ≤ g) := HG
              have hrne2 : ¬ r = wo.heap.size := fun e => hrne _ (Nat.le_refl _) (by rw [e])
              clear t2 t3 hrg1 hg1 hs1 hen hkey hlk hR hat hrne hpos hlt1
              go_upto_region 19 with (first
                | (go_at_call 12
                   (with_reducible refine HCLN.out.mono ?_); rintro e w7 ⟨A7, c7, rfl, hz7, hb7⟩
                   have HB7 := Lib.hid hb7
                   have HTK : Hid (Calls Try.prog 11 #[.pointer (some ⟨g, 0, none⟩), .int .i64 nv, ringZ, .slice A7 k c7] w7 fun e w' => Sent g w7.heap.size ks m nv w7 w' e) := Lib.hid (by
                     have := tick_late g ks sI ((sI : Int) - 1) av nv rfl HS8.out hv0 (by omega) hav0 (by omega) (by rcases HAV.out with e | e <;> omega) A7 zs c7 (by rw [← hn.out]; exact hl2) (by rw [HNX.out]; exact t1) w7 (HBX6.out.below hb7 HBX6.out.lt) hz7
                     rw [← hn.out, HNX.out] at this
                     exact this)
                   clear hz7 hb7)
                | (go_at_call 11
                   (with_reducible refine HTK.out.mono ?_); rintro e w8 hs8
                   obtain ⟨b8, rfl, hb8, hcs8, hbx8, ht8⟩ := hs8.get))
              have HB78 : Hid (Turns g w7.heap.size w7 w8) := Lib.hid ht8
              have HW7 : Hid (w6.heap.size ≤ w7.heap.size) := Lib.hid HB7.out.size
              have k0 : w8.cell? ⟨b8, 0, none⟩ = some (.int .i64 5) := cell_of_row _ _ 0 _ _ (0, 0) hcs8
              have k1 : w8.cell? ⟨b8, 1, none⟩ = some (.int .i64 (ks : Int)) := cell_of_row _ _ 1 _ _ (0, 0) hcs8
              have k2 : w8.cell? ⟨b8, 2, none⟩ = some (.int .i64 (m : Int)) := cell_of_row _ _ 2 _ _ (0, 0) hcs8
              have hgne : g < w1.heap.size := HZG.out
              have HG8 : Hid (w6.grownBy w8 (some g)) := Lib.hid ((grown_of_below' HB7.out (some g)).trans ht8.grows)
              have HRG8 : Hid (w8.ranges Try.prog 3 selfR w1.heap.size r k D (fun z => left z && !z.sameKey kl) ct1) := Lib.hid (HRG6.out.kept HG8.out (fun e => by injection e with e; omega) (fun e => by injection e with e; rw [← e] at hgne; rw [hr.out] at hgne; have := HZ5.out; have := HMB.out; omega))
              have HMm8 : Hid (w8.ownsMap Try.prog 3 selfR wo.heap.size i Dm) := Lib.hid (HMm6.out.kept HG8.out (fun e => by injection e with e; have := HMB.out; omega))
              have HMD8 : Hid (w8.ownsMap Try.prog 3 selfR w1.heap.size k D) := Lib.hid HRG8.out.owns
              have HBX8 := Lib.hid hbx8
              have HB8 : Hid (Below w.heap.size w w8) := Lib.hid (HB6.out.trans ((HB7.out.mono HB6.out.size).trans ((ht8.mono (Nat.le_trans HB6.out.size HB7.out.size)).below HG.out)))
              have HAT1 : Hid (D.atKey (nD m) (.held (.bool false)) = .held (.bool true)) := Lib.hid (by rw [HL.out.at_ m t1, HT2.out])
              have HAT2 : Hid (Dm.atKey (nD m) (.held (.bool false)) = .held (.bool false)) := Lib.hid (HMet.out.at_ m HT3.out)
              clear hs8 hb8 hcs8 hbx8 ht8
              obtain ⟨v1, ps1, hrun1, hv1'⟩ := HMD8.out.lookup lawInt Try.underlying57 (zeroBool _) (show selfR (.bool false) = some (.held (.bool false), []) from rfl) hkm
              rw [HAT1.out] at hv1'
              have hv2 := selfR_inv hv1'
              subst hv2
              obtain ⟨v2, ps2, hrun2, hv2'⟩ := HMm8.out.lookup lawInt Try.underlying57 (zeroBool _) (show selfR (.bool false) = some (.held (.bool false), []) from rfl) hkm
              rw [HAT2.out] at hv2'
              have hv3 := selfR_inv hv2'
              subst hv3
              clear hv1' hv2'
              go_upto_region 22 with (first
                | (at_mapUpdate; refine wpList_mapUpdate_own _ rfl _ _ _ 57 rfl 3 4 lawInt Try.underlying57 selfR wo.heap.size i _ rfl HMm8.out (by unfold maxLen; omega) _ _ _ rfl rfl hkm (.held (.bool true)) [] rfl ?_; intro w9 hown9 hg9))
              have HM9 := Lib.hid hown9
              have HB89 : Hid (Below wo.heap.size w8 w9) := Lib.hid ((Below.refl _ _).grown hg9 (Nat.le_of_lt HMm8.out.lt) (fun j e => by injection e with e; omega))
              have HB9 : Hid (Below w.heap.size w w9) := Lib.hid (HB8.out.trans (HB89.out.mono HBE.out.size))
              have HBX9 : Hid (BoxAt w9 g true ks (m : Int) nv) := Lib.hid (HBX8.out.below HB89.out (by have := HMB.out; omega))
              have HRG9 : Hid (w9.ranges Try.prog 3 selfR w1.heap.size r k D (fun z => left z && !z.sameKey kl) ct1) := Lib.hid (HRG8.out.kept hg9 (fun e => by injection e with e; have := HMB.out; omega) (fun e => hrne2 (by injection e)))
              have HMet9 : Hid (MetIs (Dm.put (nD m) (.held (.bool true))) L st (i + 1)) := Lib.hid (by rw [hm.out]; exact HMet.out.put)
              have HTE : Hid (Calls Try.prog 11 #[.pointer (some ⟨g, 0, none⟩), .int .i64 (nv + 99), ringZ, .slice A k c] w9 fun e w' => e = .returned (.slice none 0 0) ∧ Below w9.heap.size w9 w') := Lib.hid (tick_early g ks m nv (nv + 99) (.slice A k c) (by omega) (by omega) (by omega) hv0 (by omega) (by omega) w9 HBX9.out)
              clear hown9 hg9 k0 k1 k2 dks dks2 hkm
              go_wp2_with ((go_at_call 11); (with_reducible refine HTE.out.mono ?_); rintro e w10 ⟨rfl, hb10⟩; have HB10 := Lib.hid hb10; clear hb10)
              have HRG10 : Hid (w10.ranges Try.prog 3 selfR w1.heap.size r k D (fun z => left z && !z.sameKey kl) ct1 ∧ i + 1 + ct1 ≤ cnt L) := Lib.hid ⟨HRG9.out.kept (grown_of_below' HB10.out none) (by simp) (by simp), by have := HRG.out.2; have := HCT.out; omega⟩
              have HM10 : Hid (w10.ownsMap Try.prog 3 selfR wo.heap.size (i + 1) (Dm.put (nD m) (.held (.bool true)))) := Lib.hid (HM9.out.kept (grown_of_below' HB10.out none) (by simp))
              have HSQ : Hid (((sq L st (i + 1) : Nat) : Int) - 1 = (m : Int)) := Lib.hid (by show ((nx L (sq L st i) + 1 : Nat) : Int) - 1 = _; rw [← hm.out]; omega)
              have HBX10 : Hid (BoxAt w10 g true ks (((sq L st (i + 1) : Nat) : Int) - 1) nv) := Lib.hid (by rw [HSQ.out]; exact HBX9.out.below HB10.out HBX9.out.lt)
              have HB10' : Hid (Below w.heap.size w w10) := Lib.hid (HB9.out.trans (HB10.out.mono HB9.out.size))
              have HME : Hid (w10.rangeLeft w1.heap.size r < wr.rangeLeft w1.heap.size r) := Lib.hid (by rw [HRG10.out.1.left_eq, HRG.out.1.left_eq]; exact HCT.out)
              have hi9 : i + 1 ≤ 8 := by have := HIC.out; have := HCL.out; omega
              go_roundw
              case rel => exact ⟨_, ct1, i + 1, nv + 100, nv, _, HRG10, hi9, rfl, by omega, by omega, hv0, by omega, Lib.hid (.inr rfl), HBX10, HM10, HMet9, HB10'⟩
              case measure => exact HME.out
        · obtain rfl : j = q := by omega
          have hnw : nw ≤ 3200 := by omega
          have HRZ : Hid (RdZ wr A zs) := Lib.hid (HR.out.below HBE.out)
          have hlz : zs.length ≤ 1048576 := by rw [← hn.out]; exact hl2
          have HDD : Hid ((st : Int) - 1 = -1 ∨ 100 ≤ nw - a) := Lib.hid (by rcases HST.out.2 with e | e <;> omega)
          have HNN := Lib.hid (nx_none L HLL.out st HST.out.1)
          by_cases hc0 : 0 < cnt L
          · have hx : nx (marks ks zs) st < 8 := by
              have := HNN.out
              rw [← hL.out]
              simpa [hc0] using this
            have HTK : Hid (Calls Try.prog 11 #[.pointer (some ⟨g, 0, none⟩), .int .i64 nw, ringZ, .slice A k c] wr fun e w' => Sent g wr.heap.size ks (nx (marks ks zs) st) nw wr w' e) := Lib.hid (by
              have := tick_late g ks st ((st : Int) - 1) a nw rfl HST.out.1 hn0 (by omega) ha0 (by omega) HDD.out A zs c hlz hx wr HBX.out HRZ.out
              rw [← hn.out] at this
              exact this)
            obtain ⟨s1, hs1⟩ : ∃ s1, Hid (Maps.size D = s1 + 1) := ⟨cnt L - 1, Lib.hid (by rw [HL.out.size_]; omega)⟩
            clear hlz hx hc0 hlt hj hn1
            go_wp2_with (first
              | (go_at_call 11
                 (with_reducible refine HTK.out.mono ?_); rintro e w8 hs8
                 obtain ⟨b8, rfl, hb8, hcs8, hbx8, ht8⟩ := hs8.get
                 have HT8 := Lib.hid ht8
                 have HMD8 : Hid (w8.ownsMap Try.prog 3 selfR w1.heap.size k D) := Lib.hid (HMW.out.kept ht8.grows (fun e => by injection e with e; have := HZG.out; omega))
                 clear hs8 hb8 hcs8 hbx8 ht8)
              | (at_len; refine wpList_len_own _ rfl (.tmp 123) 57 rfl 3 4 Try.underlying57 selfR w1.heap.size k D rfl HMD8.out ?_; rw [hs1.out]))
            all_goals first
              | (exfalso; omega)
              | (go_ret; exact ⟨rfl, HBE.out.trans ((HT8.out.mono HBE.out.size).below HG.out)⟩)
          · have hx : ¬ nx (marks ks zs) st < 8 := by
              have := HNN.out
              rw [← hL.out]
              simpa [hc0] using this
            have HTK : Hid (Calls Try.prog 11 #[.pointer (some ⟨g, 0, none⟩), .int .i64 nw, ringZ, .slice A k c] wr fun e w' => e = .returned (.slice none 0 0) ∧ Below wr.heap.size wr w') := Lib.hid (by
              have := tick_nobody g ks st ((st : Int) - 1) a nw rfl HST.out.1 hn0 (by omega) ha0 (by omega) HDD.out A zs c hlz hx wr HBX.out HRZ.out
              rw [← hn.out] at this
              exact this)
            have hs1 : Hid (Maps.size D = 0) := Lib.hid (by rw [HL.out.size_]; omega)
            clear hlz hx hc0 hlt hj hn1
            go_wp2_with (first
              | (go_at_call 11
                 (with_reducible refine HTK.out.mono ?_); rintro e w8 ⟨rfl, hb8⟩
                 have HT8 := Lib.hid hb8
                 have HMD8 : Hid (w8.ownsMap Try.prog 3 selfR w1.heap.size k D) := Lib.hid (HMW.out.kept (grown_of_below' hb8 none) (by simp))
                 clear hb8)
              | (at_len; refine wpList_len_own _ rfl (.tmp 123) 57 rfl 3 4 Try.underlying57 selfR w1.heap.size k D rfl HMD8.out ?_; rw [hs1.out]))
            all_goals first
              | (exfalso; omega)
              | (go_ret; exact ⟨rfl, HBE.out.trans (HT8.out.mono HBE.out.size)⟩)
end Go.Proofs.Ytefciibkcafbiaa
