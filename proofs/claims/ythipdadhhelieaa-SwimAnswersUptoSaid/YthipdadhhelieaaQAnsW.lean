/- The walk of SwimAnswers. -/
import Derived.Test.YthipdadhhelieaaQNums
import Derived.IntWalk
namespace Go.Proofs.Ythipdadhhelieaa
open Go.RowKit Go.Sort Go.BigFrame

/-- The list of what is heard. -/
def q8 (zs : List Int) : List PeerA := (zs.map (cutN 8)).map pk
theorem q8_len (zs : List Int) : (q8 zs).length = zs.length := by simp [q8]
theorem q8_snoc (zs : List Int) (z : Int) : q8 (zs ++ [z]) = q8 zs ++ [pk (cutN 8 z)] := by simp [q8]
theorem idle_init {ks : Nat} (hks : ks < 8) : AllAlive ((Z0 (ks : Int)).setNd ks (pk ks, 0)) ∧ ((Z0 (ks : Int)).setNd ks (pk ks, 0)).knows ks = true ∧ ((Z0 (ks : Int)).setNd ks (pk ks, 0)).self = (ks : Int) ∧ ((Z0 (ks : Int)).setNd ks (pk ks, 0)).now = 0 ∧ ((Z0 (ks : Int)).setNd ks (pk ks, 0)).opened = .slice none 0 0 ∧ ((Z0 (ks : Int)).setNd ks (pk ks, 0)).last = (-1, 0, 0, false) ∧ ((Z0 (ks : Int)).setNd ks (pk ks, 0)).timed := by
  have hz : ∀ j, j < 8 → (Z0 (ks : Int)).nd j = noSt := fun j hj => by
    rcases (by omega : j = 0 ∨ j = 1 ∨ j = 2 ∨ j = 3 ∨ j = 4 ∨ j = 5 ∨ j = 6 ∨ j = 7) with rfl | rfl | rfl | rfl | rfl | rfl | rfl | rfl <;> rfl
  have en : ∀ j, j < 8 → ((Z0 (ks : Int)).setNd ks (pk ks, 0)).nd j = if j = ks then (pk ks, 0) else noSt := fun j hj => by rw [setNd_nd _ hks _ hj, hz j hj]
  have e1 : ((Z0 (ks : Int)).setNd ks (pk ks, 0)).now = 0 := setNd_now _ _ _
  refine ⟨fun k hk => ?_, ?_, setNd_self _ _ _, e1, setNd_opened _ _ _, setNd_last _ _ _, ?_⟩
  · rw [en k hk]
    by_cases e : k = ks
    · subst e; rw [if_pos rfl]; exact .inr ⟨0, rfl⟩
    · rw [if_neg e]; exact .inl rfl
  · unfold TabA.knows
    rw [en ks hks, if_pos rfl]
    simp
  · refine ⟨by rw [e1]; omega, by rw [e1]; omega, fun k hk => ?_⟩
    rw [e1, en k hk]
    by_cases e : k = ks
    · subst e; rw [if_pos rfl]; simp
    · rw [if_neg e]; simp [noSt]

theorem peers_alive {T : TabA} (h : AllAlive T) : ∀ p ∈ T.peers 8, p.2.2 = 1 := by
  intro p hp
  unfold TabA.peers at hp
  obtain ⟨j, hj, rfl⟩ := List.mem_map.1 hp
  have hj2 := List.mem_filter.1 hj
  have hj8 : j < 8 := List.mem_range.1 hj2.1
  rcases h j hj8 with e | ⟨s, e⟩
  · have : T.knows j = false := by unfold TabA.knows; rw [e]; rfl
    rw [this] at hj2
    cases hj2.2
  · rw [e]
theorem cut50 (z : Int) : ∃ e : Nat, e < 50 ∧ (wrap64 (IntKind.u64.wrap ((IntKind.u64.wrap z).tdiv 400))).tmod 50 = (e : Int) := by
  obtain ⟨a, b⟩ := wrapU2 z
  generalize IntKind.u64.wrap z = u at *
  rw [Int.tdiv_eq_ediv_of_nonneg a]
  have h1 : 0 ≤ u / 400 := Int.ediv_nonneg a (by decide)
  have h2 : u / 400 ≤ 46116860184273879 := by omega
  rw [IntWalk.u64_in _ ⟨h1, by omega⟩]
  have h3 : wrap64 (u / 400) = u / 400 := by simp only [wrap64]; omega
  rw [h3, Int.tmod_eq_emod_of_nonneg h1]
  have h4 := Int.emod_nonneg (u / 400) (show (50 : Int) ≠ 0 by omega)
  have h5 := Int.emod_lt_of_pos (u / 400) (show (0 : Int) < 50 by omega)
  exact ⟨(u / 400 % 50).toNat, by omega, by omega⟩
theorem Idle.wait {T : TabA} {ks st : Nat} {nw n : Int} {i : Nat} (h : Idle T ks st nw i) (hi : i ≤ 62) (h0 : nw ≤ n) (h1 : n ≤ 450 * (i : Int)) : Idle (T.pass n) ks st n i :=
  ⟨h.self, by have := h.kn; unfold TabA.knows at this ⊢; rw [pass_nd']; exact this, fun k hk => by rw [pass_nd']; exact h.alive k hk, pass_now (by rw [h.now]; exact h0), h1, pass_timed h.tim (by rw [h.now]; exact h0) (by omega), h.le, h.to, h.s0, Int.le_trans h.s1 h0, h.r0, h.r1⟩
theorem idle_heard {ks : Nat} (hks : ks < 8) {t0 : TabA} (h : AllAlive t0 ∧ t0.knows ks = true ∧ t0.self = (ks : Int) ∧ t0.now = 0 ∧ t0.opened = .slice none 0 0 ∧ t0.last = (-1, 0, 0, false) ∧ t0.timed) (qs : List Nat) (hq : ∀ q ∈ qs, q < 8) :
    Idle ((t0.pass 0).hearL qs) ks 0 0 0 ∧ ((t0.pass 0).hearL qs).opened = .slice none 0 0 := by
  obtain ⟨h1, h2, h3, h4, h5, h6, h7⟩ := h
  have hp : (t0.pass 0).now = 0 := pass_now (by omega)
  have ht : (t0.pass 0).timed := pass_timed h7 (by omega) (by omega)
  have hk : (t0.pass 0).knows ks = true := by unfold TabA.knows at h2 ⊢; rw [pass_nd']; exact h2
  obtain ⟨a1, a2, a3, a4, a5, a6, a7⟩ := hearL_all (t := t0.pass 0) (fun k hk => by rw [pass_nd']; exact h1 k hk) ht hks hk qs hq
  have hl : ((t0.pass 0).hearL qs).last = (-1, 0, 0, false) := a7.trans h6
  exact ⟨⟨a4.trans h3, a3, a1, a5.trans hp, by simp, a2, by omega, by rw [hl]; simp, by rw [hl]; simp, by rw [hl]; simp, by rw [hl]; simp, by rw [hl]; simp⟩, a6.trans h5⟩
set_option maxRecDepth 100000 in
set_option maxHeartbeats 12800000 in
theorem answers_walk (self : Nat) (A1 : Option Addr) (zs1 : List Int) (c1 : Nat) (A2 : Option Addr) (zs2 : List Int) (c2 : Nat) (w : World) (hsz : self ≤ 18446744073709551615) (hz1 : RdZ w A1 zs1) (hl1 : zs1.length ≤ 1048576) (hz2 : RdZ w A2 zs2) (hl2 : zs2.length ≤ 1048576) :
    Calls Try.prog 9 #[.int .u64 (self : Int), .slice A1 zs1.length c1, .slice A2 zs2.length c2] w fun e w' => e = .returned (.bool true) ∧ Below w.heap.size w w' := by
  obtain ⟨ks, hks⟩ : ∃ ks, Hid (ks = self % 8) := ⟨_, Lib.hid rfl⟩
  have HKS : Hid ((self : Int) % 8 = (ks : Int)) := Lib.hid (by rw [hks.out]; omega)
  have hk8 : ks < 8 := by rw [hks.out]; omega
  have HAW := fun w' => Lib.hid (awake_any w')
  have HNEW := fun w' => Lib.hid (new_any ks hk8 w')
  obtain ⟨n1, hn1⟩ : ∃ n1, Hid (n1 = zs1.length) := ⟨_, Lib.hid rfl⟩
  obtain ⟨n2, hn2⟩ : ∃ n2, Hid (n2 = zs2.length) := ⟨_, Lib.hid rfl⟩
  have hl1' : n1 ≤ 1048576 := by rw [hn1.out]; exact hl1
  have hl2' : n2 ≤ 1048576 := by rw [hn2.out]; exact hl2
  have HZ1 := Lib.hid hz1
  have HZ2 := Lib.hid hz2
  rw [← hn1.out, ← hn2.out]
  clear hz1 hz2 hl1 hl2
  go_enter Try.func9, Try.ntmps9
  go_upto_region 2 with fail
  rw [HKS.out]
  clear hsz
  go_wp2_with (first
    | (go_at_call 11
       (with_reducible refine (HNEW _).out.mono ?_); rintro e w1 ⟨g, hg, rfl, ht, hb1⟩
       have HG := Lib.hid hg
       have HT1 := Lib.hid ht
       have HB1 := Lib.hid hb1
       clear hg ht hb1)
    | (go_at_call 13
       (with_reducible refine (HAW _).out.mono ?_); rintro e w2 ⟨rfl, hb2⟩
       have HT2 := Lib.hid (HT1.out.below hb2 HT1.out.lt)
       have HB2 : Hid (Below w.heap.size w w2) := Lib.hid (HB1.out.trans (hb2.mono HB1.out.size))
       clear hb2))
  obtain ⟨t0, ht0⟩ : ∃ t0, Hid (t0 = (Z0 (ks : Int)).setNd ks (((ks : Int), 0, 1), 0)) := ⟨_, Lib.hid rfl⟩
  rw [← ht0.out] at HT2
  have HI0 : Hid (AllAlive t0 ∧ t0.knows ks = true ∧ t0.self = (ks : Int) ∧ t0.now = 0 ∧ t0.opened = .slice none 0 0 ∧ t0.last = (-1, 0, 0, false) ∧ t0.timed) := Lib.hid (by rw [ht0.out]; exact idle_init hk8)
  have HGL : Hid (g < w2.heap.size) := Lib.hid HT2.out.lt
  have HD0 : Hid (OwnD 38 w2 w2.heap.size (.slice none 0 0) (q8 (zs1.take 0))) := Lib.hid (ownD_nil _ _ _)
  go_loopw [44, 10] (fun i x wr => ∃ (k : Nat) (A : Option Addr) (c : Nat), k ≤ n1 ∧ i = .int .i64 k ∧ x = .slice A k c ∧ Hid (OwnD 38 wr w2.heap.size (.slice A k c) (q8 (zs1.take k))) ∧ Hid (Below w2.heap.size w2 wr)) (fun i _ _ => n1 - (intOf i).toNat)
  case atStart => exact ⟨0, none, 0, Nat.zero_le _, rfl, rfl, HD0, Lib.hid (Below.refl _ _)⟩
  case round =>
    obtain ⟨k, A, c, hk, rfl, rfl, HD, HB⟩ := hrel
    by_cases hlt : k < n1
    · obtain ⟨z, hz⟩ : ∃ z, zs1[k]? = some z := ⟨zs1[k]'(by rw [← hn1.out]; exact hlt), List.getElem?_eq_getElem _⟩
      have HBW : Hid (Below w.heap.size w wr) := Lib.hid (HB2.out.trans (HB.out.mono HB2.out.size))
      obtain ⟨ad, rfl, _, hcell, _⟩ := (HZ1.out.below HBW.out) k z hz
      obtain ⟨q, hq⟩ : ∃ q, Hid (q = cutN 8 z) := ⟨_, Lib.hid rfl⟩
      have hwq : wrap64 ((IntKind.u64.wrap z).tmod 8) = (q : Int) := by rw [hq.out]; exact cutN_eq (n := 8) (by decide) (by decide) z
      have HTK : Hid (q8 (zs1.take (k + 1)) = q8 (zs1.take k) ++ [pk q]) := Lib.hid (by rw [hq.out, List.take_add_one, hz]; exact q8_snoc _ _)
      obtain ⟨V, hV⟩ : ∃ V, Hid (V = wr.alloc (.cells #[.int .i64 (q : Int), .int .i64 0, .int .i64 1] 38)) := ⟨_, Lib.hid rfl⟩
      have hbV : Below wr.heap.size wr V := by rw [hV.out]; exact (Below.refl _ _).alloc (Nat.le_refl _) _
      have HDV : Hid (OwnD 38 V w2.heap.size (.slice A k c) (q8 (zs1.take k))) := Lib.hid (HD.out.below hbV)
      have HBV : Hid (Below w2.heap.size w2 V) := Lib.hid (HB.out.trans (hbV.mono HB.out.size))
      have HX : Hid (RdDA V V.heap.size (some ⟨wr.heap.size, 0, none⟩) [pk q]) := Lib.hid (by
        obtain ⟨A5, c5, e5, _, hr5⟩ := (ownP_one wr wr.heap.size (Nat.le_refl _) (pk q)).rd
        injection e5 with e5 _ _
        subst e5
        rw [hV.out]
        exact hr5)
      have HLN : Hid ((q8 (zs1.take k)).length = k) := Lib.hid (by rw [q8_len, List.length_take, ← hn1.out]; omega)
      have HLE : Hid ((q8 (zs1.take k)).length + [pk q].length ≤ 1099511627776) := Lib.hid (by rw [HLN.out]; simp; omega)
      have HZV : Hid (w2.heap.size ≤ V.heap.size) := Lib.hid HBV.out.size
      clear hz hbV
      go_wp2_with (at_builtin; rw [← hV.out]; go_must (refine wpList_append_dots Try.underlying31 infoPeer _ rfl (.tmp 48) (.tmp 54) rfl (by rfl) HDV.out (by rfl) (by rfl) HX.out HLE.out HZV.out ?_))
      intro v5 w5 ho5 hg5 _
      obtain ⟨A5, c5, rfl⟩ := ownD_slice ho5
      have HLN5 : Hid ((q8 (zs1.take k) ++ [pk q]).length = k + 1) := Lib.hid (by rw [List.length_append, HLN.out]; rfl)
      rw [HLN5.out] at ho5 ⊢
      have HD5 : Hid (OwnD 38 w5 w2.heap.size (.slice A5 (k + 1) c5) (q8 (zs1.take (k + 1)))) := Lib.hid (by rw [HTK.out]; exact ho5)
      have HB5 : Hid (Below w2.heap.size w2 w5) := Lib.hid (HBV.out.grown hg5 HBV.out.size (fun j e => (World.ownsRow.lt HDV.out j e).1))
      clear ho5 hg5 hwq hcell
      go_wp2
      go_roundw
      case rel => exact ⟨k + 1, A5, c5, by omega, by go_num, rfl, HD5, HB5⟩
      case measure => simp [intOf]; omega
    · obtain rfl : k = n1 := by omega
      have HDF : Hid (OwnD 38 wr w2.heap.size (.slice A k c) ((zs1.map (cutN 8)).map pk)) := Lib.hid (by have := HD.out; rw [hn1.out, List.take_length] at this; rw [hn1.out]; exact this)
      have HQ8 : Hid (∀ q ∈ zs1.map (cutN 8), q < 8) := Lib.hid fun q hq => by
        obtain ⟨z, _, rfl⟩ := List.mem_map.1 hq
        exact cutN_lt (by decide) z
      have HTW := Lib.hid (HT2.out.below HB.out HT2.out.lt)
      have HBW : Hid (Below w.heap.size w wr) := Lib.hid (HB2.out.trans (HB.out.mono HB2.out.size))
      have HPT : Hid (t0.pass 0).timed := Lib.hid (pass_timed HI0.out.2.2.2.2.2.2 (by have := HI0.out.2.2.2.1; omega) (by omega))
      have HHL := Lib.hid (hearL_any g w2.heap.size HGL.out t0 ks hk8 HI0.out.2.2.1 HI0.out.2.1 HI0.out.1 0 HPT.out (.slice A k c) (zs1.map (cutN 8)) HQ8.out (by rw [List.length_map, ← hn1.out]; omega) wr HTW.out HDF.out)
      have HID := Lib.hid (idle_heard hk8 HI0.out (zs1.map (cutN 8)) HQ8.out)
      obtain ⟨T0, hT0⟩ : ∃ T0, Hid (T0 = (t0.pass 0).hearL (zs1.map (cutN 8))) := ⟨_, Lib.hid rfl⟩
      rw [← hT0.out] at HHL HID
      clear hlt hk hl1'
      go_wp2_with ((go_at_call 15); (with_reducible refine HHL.out.mono ?_); rintro e w4 ⟨⟨v4, rfl⟩, ht4, hg4⟩; have HT4 := Lib.hid ht4; have HB4 : Hid (Below w.heap.size w w4) := Lib.hid (((Turns.of HBW.out).trans (hg4.mono HBW.out.size)).below HG.out); clear ht4 hg4)
      have HO4 : Hid (∃ base, g < base ∧ OwnG w4 base T0.opened []) := Lib.hid ⟨g + 1, by omega, by rw [HID.out.2]; exact ownG_nil _ _⟩
      go_loopw [62, 13] (fun i x wr => ∃ (k : Nat) (T : TabA) (st : Nat) (nw : Int), k ≤ n2 ∧ k ≤ 61 ∧ i = .int .i64 k ∧ x = .int .i64 nw ∧ Hid (Idle T ks st nw k) ∧ Hid (TabAt wr g T) ∧ Hid (∃ base, g < base ∧ OwnG wr base T.opened []) ∧ Hid (Below w.heap.size w wr)) (fun i _ _ => n2 - (intOf i).toNat)
      case atStart => exact ⟨0, T0, 0, 0, Nat.zero_le _, by omega, rfl, rfl, Lib.hid HID.out.1, HT4, HO4, HB4⟩
      case round =>
        obtain ⟨k, T, st, nw, hk, hk61, rfl, rfl, HID, HT, HO, HB⟩ := hrel
        have hnw0 := HID.out.nw0
        have hnw1 := HID.out.nw1
        by_cases hlt : k < n2
        · obtain ⟨z, hz⟩ : ∃ z, zs2[k]? = some z := ⟨zs2[k]'(by rw [← hn2.out]; exact hlt), List.getElem?_eq_getElem _⟩
          obtain ⟨ad2, hA2, _, hcell, _⟩ := (HZ2.out.below HB.out) k z hz
          subst hA2
          clear hz
          by_cases hk60 : k ≤ 60
          · have d2 : decide ((k : Int) > 60) = false := by simp; omega
            obtain ⟨d, hd⟩ : ∃ d, Hid (d = cutN 400 z) := ⟨_, Lib.hid rfl⟩
            have hd400 : d < 400 := by rw [hd.out]; exact cutN_lt (by decide) z
            have hwd : wrap64 ((IntKind.u64.wrap z).tmod 400) = (d : Int) := by rw [hd.out]; exact cutN_eq (n := 400) (by decide) (by decide) z
            obtain ⟨base, hgb, hob⟩ := HO.out
            have HLT := Lib.hid (HID.out.later (n := nw + (d : Int)) hk61 (by omega) (by omega))
            have hkn2 : k + 1 ≤ n2 := by omega
            cases hbg : (T.pass (nw + (d : Int))).begins [] st
            · have HTK := Lib.hid (idle_no g base hgb T st (nw + (d : Int)) ks hk8 HID.out.self HID.out.kn HID.out.quiet HLT.out.tim (HLT.out.lasts (by omega)) hbg wr HT.out hob)
              clear hbg hob hgb
              go_wp2_with ((go_at_call 18); (with_reducible refine HTK.out.mono ?_); rintro e w5 ⟨A5, k5, A6, k6, ov, rfl, ht5, ho5, hg5⟩; have HT5 := Lib.hid ht5; have HO5 : Hid (∃ base, g < base ∧ OwnG w5 base ({ T.pass (nw + (d : Int)) with opened := ov } : TabA).opened []) := Lib.hid ⟨wr.heap.size, HT.out.lt, ho5⟩; have HB5 : Hid (Below w.heap.size w w5) := Lib.hid (((Turns.of HB.out).trans (hg5.mono HB.out.size)).below HG.out); clear ht5 ho5 hg5)
              refine wp_loop_rounds 1 ?_
              rw [rounds_succ]
              go_wp2
              have HID5 : Hid (Idle { T.pass (nw + (d : Int)) with opened := ov } ks st (nw + (d : Int)) (k + 1)) := Lib.hid (HLT.out.opened ov)
              clear hwd
              go_roundw
              case rel => exact ⟨k + 1, _, st, nw + (d : Int), by omega, by omega, by go_num, rfl, HID5, HT5, HO5, HB5⟩
              case measure => simp [intOf]; omega
            · obtain ⟨wo, hwo⟩ : ∃ wo : World, wo = wr := ⟨_, rfl⟩
              subst hwo
              have HTK := Lib.hid (idle_yes g base hgb T st (nw + (d : Int)) ks hk8 HID.out.self HID.out.kn HID.out.quiet HLT.out.tim (HLT.out.lasts (by omega)) hbg wo HT.out hob)
              have HBG := Lib.hid hbg
              clear hbg hob hgb
              obtain ⟨q, hq⟩ : ∃ q, Hid (q = nx ((T.pass (nw + (d : Int))).free []) st) := ⟨_, Lib.hid rfl⟩
              obtain ⟨rq, hrq⟩ : ∃ rq : Int, Hid (rq = T.last.2.1 + 1) := ⟨_, Lib.hid rfl⟩
              have HPT := Lib.hid (begins_parts HBG.out)
              have HNK := Lib.hid (next_known HLT.out.self HLT.out.le HPT.out.2.1)
              have hq8 : q < 8 := by rw [hq.out]; exact HPT.out.2.1
              have HQK : Hid (q ≠ ks) := Lib.hid (by rw [hq.out]; exact HNK.out.1)
              have HPG : Hid (Idle { T.pass (nw + (d : Int)) with last := (T.pass (nw + (d : Int))).fresh [] st } ks (q + 1) (nw + (d : Int)) (k + 1)) := Lib.hid (by rw [hq.out]; exact HLT.out.pinged HID.out.r1 HBG.out)
              obtain ⟨T5, hT5⟩ : ∃ T5, Hid (T5 = { T.pass (nw + (d : Int)) with last := (T.pass (nw + (d : Int))).fresh [] st }) := ⟨_, Lib.hid rfl⟩
              have HFR : Hid ((T.pass (nw + (d : Int))).fresh [] st = ((q : Int), rq, nw + (d : Int), false)) := Lib.hid (by unfold TabA.fresh; rw [← hq.out, HLT.out.now, hrq.out]; rfl)
              have HSF : Hid (T.self = (ks : Int)) := Lib.hid HID.out.self
              obtain ⟨m1, hm1⟩ : ∃ m1 : Nat, Hid (m1 = 1) := ⟨_, Lib.hid rfl⟩
              go_upto_region 21 with (first
                | (go_at_call 18
                   (with_reducible refine HTK.out.mono ?_); rintro e w5 ⟨b5, c5, A6, k6, ov, rfl, hbl5, hc5, hbw5, ht5, ho5, hg5, hob5⟩
                   rw [show Value.slice (some ⟨b5, 0, none⟩) 1 c5 = Value.slice (some ⟨b5, 0, none⟩) m1 c5 by rw [hm1.out]]
                   rw [← hq.out, ← hrq.out, HSF.out] at hc5
                   have HC5 := Lib.hid hc5
                   have HX5 : Hid (TabAt w5 g { T5 with opened := ov }) := Lib.hid (by rw [hT5.out]; exact ht5)
                   have HO5 : Hid (OwnG w5 wo.heap.size ov [((q : Int), rq, nw + (d : Int), false)]) := Lib.hid (by rw [← HFR.out]; exact ho5)
                   have HG5 := Lib.hid hg5
                   have HBL5 := Lib.hid hbl5
                   clear hbl5 hc5 hbw5 ht5 ho5 hg5 hob5))
              rw [← hT5.out] at HPG
              have hm1' : m1 ≤ 1 := by rw [hm1.out]; exact Nat.le_refl 1
              go_wp2_with fail
              go_loopw [86, 13] (fun i x wr => ∃ (j : Nat) (nv : Int), j ≤ m1 ∧ i = .int .i64 j ∧ x = .int .i64 nv ∧ nw + (d : Int) ≤ nv ∧ nv ≤ nw + (d : Int) + 49 ∧ ((Hid (j = 0 ∧ nv = nw + (d : Int)) ∧ Hid (wr = w5)) ∨ (Hid (j = 1) ∧ Hid (∃ T6, Idle T6 ks (q + 1) nv (k + 1) ∧ TabAt wr g T6 ∧ (∃ base, g < base ∧ OwnG wr base T6.opened []) ∧ Below w.heap.size w wr)))) (fun i _ _ => m1 - (intOf i).toNat)
              case atStart => exact ⟨0, nw + (d : Int), Nat.zero_le _, rfl, rfl, by omega, by omega, .inl ⟨Lib.hid ⟨rfl, rfl⟩, Lib.hid rfl⟩⟩
              case round =>
                obtain ⟨j, nv, hj, rfl, rfl, hnv0, hnv1, hcase⟩ := hrel
                by_cases hlt1 : j < m1
                · obtain ⟨hj0, hw5⟩ : Hid (j = 0 ∧ nv = nw + (d : Int)) ∧ Hid (wr = w5) := by
                    rcases hcase with h | ⟨h, _⟩
                    · exact h
                    · have := h.out; omega
                  have HNV : Hid (nv = nw + (d : Int)) := Lib.hid hj0.out.2
                  have hj0 : Hid (j = 0) := Lib.hid hj0.out.1
                  have HW5 := hw5
                  have hwe := hw5.out
                  subst hwe
                  have x0 : wr.cell? ⟨b5, j * 17, none⟩ = some (.int .i64 6) := by rw [hj0.out]; have h := HC5.out 0 (.int .i64 6) rfl; simpa using h
                  have x1 : wr.cell? ⟨b5, j * 17 + 1, none⟩ = some (.int .i64 (ks : Int)) := by rw [hj0.out]; have h := HC5.out 1 (.int .i64 (ks : Int)) rfl; simpa using h
                  have x2 : wr.cell? ⟨b5, j * 17 + 2, none⟩ = some (.int .i64 (q : Int)) := by rw [hj0.out]; have h := HC5.out 2 (.int .i64 (q : Int)) rfl; simpa using h
                  have x3 : wr.cell? ⟨b5, j * 17 + 3, none⟩ = some (.int .i64 rq) := by rw [hj0.out]; have h := HC5.out 3 (.int .i64 rq) rfl; simpa using h
                  have x4 : wr.cell? ⟨b5, j * 17 + 4, none⟩ = some (.string .empty) := by rw [hj0.out]; have h := HC5.out 4 (.string .empty) rfl; simpa using h
                  have x5 : wr.cell? ⟨b5, j * 17 + 5, none⟩ = some (.slice none 0 0) := by rw [hj0.out]; have h := HC5.out 5 (.slice none 0 0) rfl; simpa using h
                  have x6 : wr.cell? ⟨b5, j * 17 + 6, none⟩ = some (.slice none 0 0) := by rw [hj0.out]; have h := HC5.out 6 (.slice none 0 0) rfl; simpa using h
                  have x7 : wr.cell? ⟨b5, j * 17 + 7, none⟩ = some (.slice none 0 0) := by rw [hj0.out]; have h := HC5.out 7 (.slice none 0 0) rfl; simpa using h
                  have x8 : wr.cell? ⟨b5, j * 17 + 8, none⟩ = some (.int .i64 (-1)) := by rw [hj0.out]; have h := HC5.out 8 (.int .i64 (-1)) rfl; simpa using h
                  have x9 : wr.cell? ⟨b5, j * 17 + 9, none⟩ = some (.int .i64 0) := by rw [hj0.out]; have h := HC5.out 9 (.int .i64 0) rfl; simpa using h
                  have x10 : wr.cell? ⟨b5, j * 17 + 10, none⟩ = some (.int .i64 (-1)) := by rw [hj0.out]; have h := HC5.out 10 (.int .i64 (-1)) rfl; simpa using h
                  have x11 : wr.cell? ⟨b5, j * 17 + 11, none⟩ = some (.int .i64 0) := by rw [hj0.out]; have h := HC5.out 11 (.int .i64 0) rfl; simpa using h
                  have x12 : wr.cell? ⟨b5, j * 17 + 12, none⟩ = some (.int .i64 0) := by rw [hj0.out]; have h := HC5.out 12 (.int .i64 0) rfl; simpa using h
                  have x13 : wr.cell? ⟨b5, j * 17 + 13, none⟩ = some (.int .i64 0) := by rw [hj0.out]; have h := HC5.out 13 (.int .i64 0) rfl; simpa using h
                  have x14 : wr.cell? ⟨b5, j * 17 + 14, none⟩ = some (.slice none 0 0) := by rw [hj0.out]; have h := HC5.out 14 (.slice none 0 0) rfl; simpa using h
                  have x15 : wr.cell? ⟨b5, j * 17 + 15, none⟩ = some (.slice none 0 0) := by rw [hj0.out]; have h := HC5.out 15 (.slice none 0 0) rfl; simpa using h
                  have x16 : wr.cell? ⟨b5, j * 17 + 16, none⟩ = some (.slice none 0 0) := by rw [hj0.out]; have h := HC5.out 16 (.slice none 0 0) rfl; simpa using h
                  obtain ⟨V, hV⟩ : ∃ V, Hid (V = wr.alloc (.cells #[.int .i64 6, .int .i64 (ks : Int), .int .i64 (q : Int), .int .i64 rq, .string .empty, .slice none 0 0, .slice none 0 0, .slice none 0 0, .int .i64 (-1), .int .i64 0, .int .i64 (-1), .int .i64 0, .int .i64 0, .int .i64 0, .slice none 0 0, .slice none 0 0, .slice none 0 0] 56)) := ⟨_, Lib.hid rfl⟩
                  have hbV : Below wr.heap.size wr V := by rw [hV.out]; exact (Below.refl _ _).alloc (Nat.le_refl _) _
                  have hrV : V.heap[wr.heap.size]? = some (.cells #[.int .i64 6, .int .i64 (ks : Int), .int .i64 (q : Int), .int .i64 rq, .string .empty, .slice none 0 0, .slice none 0 0, .slice none 0 0, .int .i64 (-1), .int .i64 0, .int .i64 (-1), .int .i64 0, .int .i64 0, .int .i64 0, .slice none 0 0, .slice none 0 0, .slice none 0 0] 56 (0, 0)) := by rw [hV.out]; exact heap_alloc_new _ _
                  have v0 : V.cell? ⟨wr.heap.size, 0, none⟩ = some (.int .i64 6) := cell_of_row _ _ 0 _ _ (0, 0) hrV
                  have v8 : V.cell? ⟨wr.heap.size, 8, none⟩ = some (.int .i64 (-1)) := cell_of_row _ _ 8 _ _ (0, 0) hrV
                  have v2 : V.cell? ⟨wr.heap.size, 2, none⟩ = some (.int .i64 (q : Int)) := cell_of_row _ _ 2 _ _ (0, 0) hrV
                  have v3 : V.cell? ⟨wr.heap.size, 3, none⟩ = some (.int .i64 rq) := cell_of_row _ _ 3 _ _ (0, 0) hrV
                  have dq1 : ((q : Int) == (ks : Int)) = false := by have := HQK.out; simp; omega
                  clear hbV hrV hcase
                  obtain ⟨e, he50, he⟩ := cut50 z
                  have HE := Lib.hid he
                  have HWE : Hid (wrap64 (nv + (e : Int)) = nv + (e : Int)) := Lib.hid (by simp only [wrap64]; omega)
                  have hbV2 : Below wr.heap.size wr V := by rw [hV.out]; exact (Below.refl _ _).alloc (Nat.le_refl _) _
                  have hxV := HX5.out.below hbV2 HX5.out.lt
                  have hoV : OwnG V wo.heap.size ov [((q : Int), rq, nw + (d : Int), false)] := row_below HO5.out hbV2
                  have hgV : Turns g wo.heap.size wo V := HG5.out.trans ((Turns.of hbV2).mono HG5.out.size)
                  have hIP := HPG.out.opened ov
                  have htk : ({ T5 with opened := ov } : TabA).takes q ((q : Int), 0, 1) = false := by
                    have h1 := alive_takes hIP.alive hq8
                    have h2 : ({ T5 with opened := ov } : TabA).knows q = true := by
                      rw [knows_opened, hT5.out]
                      have h3 := HNK.out.2
                      rw [← hq.out] at h3
                      unfold TabA.knows at h3 ⊢
                      exact h3
                    rw [h2] at h1
                    exact h1
                  have HON : Hid (Calls Try.prog 20 #[.pointer (some ⟨g, 0, none⟩), .agg #[.int .i64 7, .int .i64 (q : Int), .int .i64 (ks : Int), .int .i64 rq, .string { data := #[] }, .slice none 0 0, .slice none 0 0, .slice none 0 0, .int .i64 (q : Int), .int .i64 0, .int .i64 (-1), .int .i64 0, .int .i64 0, .int .i64 0, .slice none 0 0, .slice none 0 0, .slice none 0 0], .int .i64 (nv + (e : Int))] V fun e6 w' => ∃ ov6, e6 = .returned (.tuple #[.slice none 0 0, .slice none 0 0]) ∧ TabAt w' g { ({ T5 with opened := ov } : TabA).pass (nv + (e : Int)) with opened := ov6 } ∧ OwnG w' wo.heap.size ov6 [] ∧ Moves g ov.ownBlock V w') := Lib.hid (on_pong g wo.heap.size HT.out.lt { T5 with opened := ov } ks hk8 hIP.self hIP.kn q hq8 HQK.out (ks : Int) rq (nv + (e : Int)) ((q : Int), rq, nw + (d : Int), false) rfl rfl htk V hxV hoV)
                  have HIW : Hid (∀ ov2, Idle { ({ T5 with opened := ov } : TabA).pass (nv + (e : Int)) with opened := ov2 } ks (q + 1) (nv + (e : Int)) (k + 1)) := Lib.hid fun ov2 => (hIP.wait (by omega) (by have := HNV.out; omega) (by have := HNV.out; omega)).opened ov2
                  have HOV := Lib.hid hoV
                  have HGV := Lib.hid hgV
                  have hne1 : nw + (d : Int) ≤ nv + (e : Int) := by have := HNV.out; omega
                  have hne2 : nv + (e : Int) ≤ nw + (d : Int) + 49 := by have := HNV.out; omega
                  clear he hbV2 hxV hoV hgV hIP htk hwd
                  go_upto_region 24 with fail
                  rw [← hV.out]
                  go_upto_region 27 with fail
                  rw [HE.out, HWE.out]
                  go_wp2_with ((go_at_call 20); (with_reducible refine HON.out.mono ?_); rintro e6 w6 ⟨ov6, rfl, ht6, ho6, hv6⟩; have HT6 := Lib.hid ht6; have HO6 := Lib.hid ho6; have HG6 : Hid (Turns g wo.heap.size wo w6) := Lib.hid (Moves.turns HGV.out (Nat.le_refl _) HOV.out hv6); clear ht6 ho6 hv6)
                  have HST : Hid (∃ T6, Idle T6 ks (q + 1) (nv + (e : Int)) (k + 1) ∧ TabAt w6 g T6 ∧ (∃ base, g < base ∧ OwnG w6 base T6.opened []) ∧ Below w.heap.size w w6) := Lib.hid ⟨_, HIW.out ov6, HT6.out, ⟨wo.heap.size, HT.out.lt, HO6.out⟩, ((Turns.of HB.out).trans (HG6.out.mono HB.out.size)).below HG.out⟩
                  have HJ1 : Hid (j + 1 = 1) := Lib.hid (by rw [hj0.out])
                  go_roundw
                  case rel => exact ⟨j + 1, nv + (e : Int), by omega, by go_num, rfl, hne1, hne2, .inr ⟨HJ1, HST⟩⟩
                  case measure => simp [intOf]; omega
                · obtain rfl : j = m1 := by omega
                  have HST : Hid (∃ T6, Idle T6 ks (q + 1) nv (k + 1) ∧ TabAt wr g T6 ∧ (∃ base, g < base ∧ OwnG wr base T6.opened []) ∧ Below w.heap.size w wr) := by
                    rcases hcase with ⟨h, _⟩ | ⟨_, h⟩
                    · have h1 := h.out.1
                      have h2 := hm1.out
                      omega
                    · exact h
                  obtain ⟨T6, hi6, ht6, ho6, hb6⟩ := HST.out
                  have HI6 := Lib.hid hi6
                  have HT6 := Lib.hid ht6
                  have HO6 := Lib.hid ho6
                  have HB6 := Lib.hid hb6
                  clear hi6 ht6 ho6 hb6 hcase hwd
                  go_wp2
                  go_roundw
                  case rel => exact ⟨k + 1, T6, q + 1, nv, by omega, by omega, by go_num, rfl, HI6, HT6, HO6, HB6⟩
                  case measure => simp [intOf]; omega
          · have d2 : decide ((k : Int) > 60) = true := by simp; omega
            clear hk60
            have HPE := Lib.hid (peers_any g T ks hk8 HID.out.self HID.out.kn wr HT.out)
            have HPA := Lib.hid (peers_alive HID.out.alive)
            go_wp2_with ((go_at_call 27); (with_reducible refine HPE.out.mono ?_); rintro e w5 ⟨v5, rfl, ho5, hb5⟩; obtain ⟨A5, c5, rfl⟩ := ownD_slice ho5; obtain ⟨M, hM⟩ : ∃ M, Hid (M = (T.peers 8).length) := ⟨_, Lib.hid rfl⟩; rw [← hM.out] at ho5 ⊢; have HO5 := Lib.hid ho5.rd; have HML : Hid (M ≤ 8) := Lib.hid (by rw [hM.out]; exact peers_len T 8); have HB5 : Hid (Below w.heap.size w w5) := Lib.hid (HB.out.trans (hb5.mono HB.out.size)); clear ho5 hb5)
            have hM8 : M ≤ 8 := HML.out
            go_loopw [136] (fun i wr => ∃ (k : Nat), k ≤ M ∧ i = .int .i64 k ∧ Hid (Below w5.heap.size w5 wr)) (fun i _ => M - (intOf i).toNat)
            case atStart => exact ⟨0, Nat.zero_le _, rfl, Lib.hid (Below.refl _ _)⟩
            case round =>
              obtain ⟨k, hk, rfl, HBk⟩ := hrel
              by_cases hkM : k < M
              · obtain ⟨p, hp⟩ : ∃ p, (T.peers 8)[k]? = some p := ⟨(T.peers 8)[k]'(by rw [← hM.out]; exact hkM), List.getElem?_eq_getElem _⟩
                obtain ⟨A6, c6, e6, _, hr6⟩ := HO5.out
                injection e6 with e6 _ _
                subst e6
                obtain ⟨ad, rfl, hadl, j0, j1, j2⟩ := hr6 k p hp
                have hp1 : p.2.2 = 1 := HPA.out p (List.mem_of_getElem? hp)
                have adl : (ad.add (k * 3)).block < w5.heap.size := by rw [add_block]; exact hadl
                have k0 : wr.cell? (ad.add (k * 3)) = some (.int .i64 p.1) := (HBk.out.cell adl).trans j0
                have k1 : wr.cell? ⟨(ad.add (k * 3)).block, (ad.add (k * 3)).off + 1, none⟩ = some (.int .i64 p.2.1) := (HBk.out.cell (p := ⟨(ad.add (k * 3)).block, (ad.add (k * 3)).off + 1, none⟩) adl).trans j1
                have k2 : wr.cell? ⟨(ad.add (k * 3)).block, (ad.add (k * 3)).off + 2, none⟩ = some (.int .i64 1) := by rw [← hp1]; exact (HBk.out.cell (p := ⟨(ad.add (k * 3)).block, (ad.add (k * 3)).off + 2, none⟩) adl).trans j2
                obtain ⟨V, hV⟩ : ∃ V, Hid (V = wr.alloc (.cells #[.int .i64 p.1, .int .i64 p.2.1, .int .i64 1] 38)) := ⟨_, Lib.hid rfl⟩
                have v2 : V.cell? ⟨wr.heap.size, 2, none⟩ = some (.int .i64 1) := by rw [hV.out]; exact box_cell _ _ _ 2
                have HBV : Hid (Below w5.heap.size w5 V) := Lib.hid (by rw [hV.out]; exact HBk.out.alloc HBk.out.size _)
                clear hp hr6 hadl j0 j1 j2 hp1 adl
                go_upto_region 35 with fail
                rw [← hV.out]
                clear k0 k1 k2
                go_wp2
                go_roundw
                case rel => exact ⟨k + 1, by omega, by go_num, HBV⟩
                case measure => simp [intOf]; omega
              · obtain rfl : k = M := by omega
                go_wp2
                go_ret
                exact ⟨rfl, HB5.out.trans (HBk.out.mono HB5.out.size)⟩
        · obtain rfl : k = n2 := by omega
          have HPE := Lib.hid (peers_any g T ks hk8 HID.out.self HID.out.kn wr HT.out)
          have HPA := Lib.hid (peers_alive HID.out.alive)
          go_wp2_with ((go_at_call 27); (with_reducible refine HPE.out.mono ?_); rintro e w5 ⟨v5, rfl, ho5, hb5⟩; obtain ⟨A5, c5, rfl⟩ := ownD_slice ho5; obtain ⟨M, hM⟩ : ∃ M, Hid (M = (T.peers 8).length) := ⟨_, Lib.hid rfl⟩; rw [← hM.out] at ho5 ⊢; have HO5 := Lib.hid ho5.rd; have HML : Hid (M ≤ 8) := Lib.hid (by rw [hM.out]; exact peers_len T 8); have HB5 : Hid (Below w.heap.size w w5) := Lib.hid (HB.out.trans (hb5.mono HB.out.size)); clear ho5 hb5)
          have hM8 : M ≤ 8 := HML.out
          go_loopw [136] (fun i wr => ∃ (k1 : Nat), k1 ≤ M ∧ i = .int .i64 k1 ∧ Hid (Below w5.heap.size w5 wr)) (fun i _ => M - (intOf i).toNat)
          case atStart => exact ⟨0, Nat.zero_le _, rfl, Lib.hid (Below.refl _ _)⟩
          case round =>
            obtain ⟨k', hk', rfl, HBk⟩ := hrel
            by_cases hkM : k' < M
            · obtain ⟨p, hp⟩ : ∃ p, (T.peers 8)[k']? = some p := ⟨(T.peers 8)[k']'(by rw [← hM.out]; exact hkM), List.getElem?_eq_getElem _⟩
              obtain ⟨A6, c6, e6, _, hr6⟩ := HO5.out
              injection e6 with e6 _ _
              subst e6
              obtain ⟨ad, rfl, hadl, j0, j1, j2⟩ := hr6 k' p hp
              have hp1 : p.2.2 = 1 := HPA.out p (List.mem_of_getElem? hp)
              have adl : (ad.add (k' * 3)).block < w5.heap.size := by rw [add_block]; exact hadl
              have k0 : wr.cell? (ad.add (k' * 3)) = some (.int .i64 p.1) := (HBk.out.cell adl).trans j0
              have k1 : wr.cell? ⟨(ad.add (k' * 3)).block, (ad.add (k' * 3)).off + 1, none⟩ = some (.int .i64 p.2.1) := (HBk.out.cell (p := ⟨(ad.add (k' * 3)).block, (ad.add (k' * 3)).off + 1, none⟩) adl).trans j1
              have k2 : wr.cell? ⟨(ad.add (k' * 3)).block, (ad.add (k' * 3)).off + 2, none⟩ = some (.int .i64 1) := by rw [← hp1]; exact (HBk.out.cell (p := ⟨(ad.add (k' * 3)).block, (ad.add (k' * 3)).off + 2, none⟩) adl).trans j2
              obtain ⟨V, hV⟩ : ∃ V, Hid (V = wr.alloc (.cells #[.int .i64 p.1, .int .i64 p.2.1, .int .i64 1] 38)) := ⟨_, Lib.hid rfl⟩
              have v2 : V.cell? ⟨wr.heap.size, 2, none⟩ = some (.int .i64 1) := by rw [hV.out]; exact box_cell _ _ _ 2
              have HBV : Hid (Below w5.heap.size w5 V) := Lib.hid (by rw [hV.out]; exact HBk.out.alloc HBk.out.size _)
              clear hp hr6 hadl j0 j1 j2 hp1 adl
              go_upto_region 35 with fail
              rw [← hV.out]
              clear k0 k1 k2
              go_wp2
              go_roundw
              case rel => exact ⟨k' + 1, by omega, by go_num, HBV⟩
              case measure => simp [intOf]; omega
            · obtain rfl : k' = M := by omega
              go_wp2
              go_ret
              exact ⟨rfl, HB5.out.trans (HBk.out.mono HB5.out.size)⟩
end Go.Proofs.Ythipdadhhelieaa
