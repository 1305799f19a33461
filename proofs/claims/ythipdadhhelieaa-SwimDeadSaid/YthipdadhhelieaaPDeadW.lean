/- The walk of SwimDead. -/
import Derived.Test.YthipdadhhelieaaPDead
namespace Go.Proofs.Ythipdadhhelieaa
open Go.RowKit Go.Sort Go.BigFrame

theorem wrapU (x : Int) : 0 ≤ IntKind.u64.wrap x ∧ IntKind.u64.wrap x ≤ 18446744073709551615 := by
  simp [IntKind.wrap, IntKind.bits, IntKind.signed]
  omega
/-- Ahead of the first Tick. -/
structure DeadInit (a b : Nat) (F : Int) (T : TabA) : Prop where
  self : T.self = (a : Int)
  now : T.now = F
  nda : T.nd a = (((a : Int), 0, 1), 0)
  ndb : T.nd b = (((b : Int), 0, 1), F)
  oth : ∀ j, j < 8 → j ≠ a → j ≠ b → T.nd j = noSt
  last : T.last = (-1, 0, 0, false)
theorem dead_first {a b : Nat} (ha : a < 8) (hb : b < 8) (hab : a ≠ b) {F : Int} {T : TabA} (h : DeadInit a b F T) : DeadInv a b F 0 0 0 (T.tick [] 0 F).1 (T.tick [] 0 F).2 := by
  obtain ⟨T1, hT1⟩ : ∃ T1, T1 = T.pass F := ⟨_, rfl⟩
  have n1 : T1.now = F := by rw [hT1]; unfold TabA.pass; simp only; rw [h.now, if_pos (by omega)]
  have nd1 : ∀ j, T1.nd j = T.nd j := fun j => by rw [hT1]; exact pass_nd' _ _ _
  obtain ⟨T2, hT2⟩ : ∃ T2, T2 = T1.bury 8 := ⟨_, rfl⟩
  have n2 : T2.now = F := by rw [hT2, bury_now, n1]
  have s2 : T2.self = (a : Int) := by rw [hT2, bury_self, hT1]; exact h.self
  have l2 : T2.last = (-1, 0, 0, false) := by rw [hT2, bury_last, hT1]; exact h.last
  have nd2 : ∀ j, j < 8 → (T.nd j).1.2.2 ≠ 2 → T2.nd j = T.nd j := fun j hj h2 => by
    rw [hT2, bury_nd _ 8 (by omega) j hj, nd1, if_neg]
    rintro ⟨_, hd⟩
    unfold TabA.dies at hd
    rw [nd1] at hd
    simp [h2] at hd
  have nda2 : T2.nd a = (((a : Int), 0, 1), 0) := by rw [nd2 a ha (by rw [h.nda]; simp), h.nda]
  have ndb2 : T2.nd b = (((b : Int), 0, 1), F) := by rw [nd2 b hb (by rw [h.ndb]; simp), h.ndb]
  have oth2 : ∀ j, j < 8 → j ≠ a → j ≠ b → T2.nd j = noSt := fun j hj h1 h2 => by rw [nd2 j hj (by rw [h.oth j hj h1 h2]; simp [noSt]), h.oth j hj h1 h2]
  have htk : T.tick [] 0 F = T2.begin [] 0 := by rw [hT2, hT1]; rfl
  have hkb : T2.knows b = true := by unfold TabA.knows; rw [ndb2]; simp
  have hfr : T2.free [] = only b := by rw [free_of hab s2 hkb oth2]; rfl
  have hnx : nx (T2.free []) 0 = b := by rw [hfr]; exact nx_only b 0 hb (by omega)
  have hbg : T2.begins [] 0 = true := by
    unfold TabA.begins TabA.early
    rw [hnx, l2, n2]
    simp [hb]
  have hfs : T2.fresh [] 0 = ((b : Int), 0 + 1, F, false) := by unfold TabA.fresh; rw [hnx, l2, n2]
  have hbe : T2.begin [] 0 = ({ T2 with last := ((b : Int), 0 + 1, F, false) }, [((b : Int), 0 + 1, F, false)]) := by
    unfold TabA.begin
    rw [if_pos hbg, hfs]
    rfl
  rw [htk, hbe]
  have nd4 : ∀ j, ({ T2 with last := ((b : Int), 0 + 1, F, false) } : TabA).nd j = T2.nd j := fun j => by unfold TabA.nd; split <;> rfl
  exact ⟨by omega, by omega, s2, by show T2.now = _; rw [n2]; simp, by rw [nd4, nda2], by rw [nd4, ndb2]; unfold bSt; rw [if_pos (by omega)], fun j hj h1 h2 => by rw [nd4, oth2 j hj h1 h2], by simp, by simp⟩
/-- Ahead of Tick i. -/
def DeadAt (a b : Nat) (F : Int) (i : Nat) (T : TabA) (P : List PingA) (st : Nat) : Prop := (i = 0 ∧ DeadInit a b F T ∧ P = [] ∧ st = 0) ∨ ∃ m k r, i = m + 1 ∧ DeadInv a b F m k r T P ∧ st = b + 1
theorem dead_tick {a b : Nat} (ha : a < 8) (hb : b < 8) (hab : a ≠ b) {F : Int} {i : Nat} (hi : i < 420) {T : TabA} {P : List PingA} {st : Nat} (h : DeadAt a b F i T P st) : ∃ k r, DeadInv a b F i k r (T.tick P st (F + (i : Int))).1 (T.tick P st (F + (i : Int))).2 := by
  rcases h with ⟨rfl, h1, rfl, rfl⟩ | ⟨m, k, r, rfl, h1, rfl⟩
  · have := dead_first ha hb hab h1
    simp only [Int.natCast_zero, Int.add_zero]
    exact ⟨0, 0, this⟩
  · have := dead_step ha hb hab (by omega) h1
    rw [show F + ((m + 1 : Nat) : Int) = F + (m : Int) + 1 by omega]
    exact this
theorem timed_all {T : TabA} {n : Int} (h0 : 0 ≤ n) (h1 : n ≤ 4611686018427387904) (hn : (T.pass n).now = n) (h : ∀ j, j < 8 → 0 ≤ (T.nd j).2 ∧ (T.nd j).2 ≤ n) : (T.pass n).timed :=
  ⟨by rw [hn]; exact h0, by rw [hn]; exact h1, fun j hj => by rw [pass_nd', hn]; exact h j hj⟩
theorem dead_ok {a b : Nat} (ha : a < 8) (hb : b < 8) (_ : a ≠ b) {F : Int} (hF0 : 0 ≤ F) (hF1 : F < 1099511627776) {i : Nat} (hi : i < 420) {T : TabA} {P : List PingA} {st : Nat} (h : DeadAt a b F i T P st) :
    T.self = (a : Int) ∧ T.knows a = true ∧ (T.pass (F + (i : Int))).timed ∧ Fine (T.pass (F + (i : Int))) P ∧ Lasts (T.pass (F + (i : Int))) st ∧ P.length ≤ 100 := by
  have hca : ∀ T : TabA, T.nd a = (((a : Int), 0, 1), 0) → T.knows a = true := fun T e => by unfold TabA.knows; rw [e]; simp
  rcases h with ⟨rfl, h1, rfl, rfl⟩ | ⟨m, k, r, rfl, h1, rfl⟩
  · have hn : (T.pass (F + ((0 : Nat) : Int))).now = F + ((0 : Nat) : Int) := by unfold TabA.pass; simp only; rw [h1.now, if_pos (by omega)]
    refine ⟨h1.self, hca T h1.nda, timed_all (by omega) (by omega) hn fun j hj => ?_, fun p hp => by simp at hp, ⟨by omega, by show T.last.1 = _; rw [h1.last]; simp, by show 0 ≤ T.last.2.2.1; rw [h1.last]; simp, by show T.last.2.2.1 ≤ _; rw [h1.last, hn]; simp; omega, by show 0 ≤ T.last.2.1; rw [h1.last]; simp, by show T.last.2.1 ≤ _; rw [h1.last]; simp⟩, by simp⟩
    by_cases e1 : j = a
    · subst e1; rw [h1.nda]; simp; omega
    · by_cases e2 : j = b
      · subst e2; rw [h1.ndb]; simp; omega
      · rw [h1.oth j hj e1 e2]; simp [noSt]; omega
  · have hm := h1.hm
    have hr := h1.hr
    have hn : (T.pass (F + ((m + 1 : Nat) : Int))).now = F + ((m + 1 : Nat) : Int) := by unfold TabA.pass; simp only; rw [h1.now, if_pos (by omega)]
    refine ⟨h1.self, hca T h1.nda, timed_all (by omega) (by omega) hn fun j hj => ?_, fun p hp => ?_, ⟨by omega, by show T.last.1 = _; rw [h1.last]; simp, by show 0 ≤ T.last.2.2.1; rw [h1.last]; simp; omega, by show T.last.2.2.1 ≤ _; rw [h1.last, hn]; simp; omega, by show 0 ≤ T.last.2.1; rw [h1.last]; simp; omega, by show T.last.2.1 ≤ _; rw [h1.last]; simp; omega⟩, by rw [h1.open_]; simp⟩
    · by_cases e1 : j = a
      · subst e1; rw [h1.nda]; simp; omega
      · by_cases e2 : j = b
        · subst e2
          rw [h1.ndb]
          unfold bSt
          repeat' split
          all_goals simp
          all_goals omega
        · rw [h1.oth j hj e1 e2]; simp [noSt]; omega
    · rw [h1.open_] at hp
      simp only [List.mem_singleton] at hp
      subst hp
      refine ⟨by simp, by simp; omega, ?_, ?_⟩
      · simp only; split <;> omega
      · rw [hn]; simp only; split <;> omega

theorem small_of (x n : Int) (h0 : 0 < n) (h1 : n ≤ 1099511627776) : ∃ k : Nat, (k : Int) < n ∧ wrap64 ((IntKind.u64.wrap x).tmod n) = (k : Int) := by
  obtain ⟨a, b⟩ := wrapU x
  rw [Int.tmod_eq_emod_of_nonneg a]
  have h2 := Int.emod_nonneg (IntKind.u64.wrap x) (show n ≠ 0 by omega)
  have h3 := Int.emod_lt_of_pos (IntKind.u64.wrap x) h0
  generalize IntKind.u64.wrap x % n = r at *
  obtain ⟨k, rfl⟩ := Int.eq_ofNat_of_zero_le h2
  refine ⟨k, h3, ?_⟩
  simp [wrap64]
  omega
/-- The table of a new node that has heard of another one. -/
theorem dead_init {a b : Nat} (ha : a < 8) (hb : b < 8) (hab : a ≠ b) (F : Nat) :
    DeadInit a b F (((((Z0 (a : Int)).setNd a (((a : Int), 0, 1), 0)).pass F).hear b ((b : Int), 0, 1))) ∧ (((((Z0 (a : Int)).setNd a (((a : Int), 0, 1), 0)).pass F).hear b ((b : Int), 0, 1))).opened = .slice none 0 0 := by
  have hz : ∀ j, j < 8 → (Z0 (a : Int)).nd j = noSt := fun j hj => by
    rcases (by omega : j = 0 ∨ j = 1 ∨ j = 2 ∨ j = 3 ∨ j = 4 ∨ j = 5 ∨ j = 6 ∨ j = 7) with rfl | rfl | rfl | rfl | rfl | rfl | rfl | rfl <;> rfl
  have hk : ((Z0 (a : Int)).setNd a (((a : Int), 0, 1), 0)).takes b ((b : Int), 0, 1) = true := by
    unfold TabA.takes TabA.knows
    rw [setNd_nd _ ha _ hb, if_neg (fun e => hab e.symm), hz b hb]
    have : mayP ((b : Int), 0, 1) = true := by unfold mayP isNodeB; simp; omega
    rw [this]
    rfl
  have e1 : ((Z0 (a : Int)).setNd a (((a : Int), 0, 1), 0)).now = 0 := setNd_now _ _ _
  have e2 : ((Z0 (a : Int)).setNd a (((a : Int), 0, 1), 0)).self = (a : Int) := setNd_self _ _ _
  have e3 : ((Z0 (a : Int)).setNd a (((a : Int), 0, 1), 0)).last = (-1, 0, 0, false) := setNd_last _ _ _
  have e4 : ((Z0 (a : Int)).setNd a (((a : Int), 0, 1), 0)).opened = .slice none 0 0 := setNd_opened _ _ _
  have en : ∀ j, j < 8 → ((Z0 (a : Int)).setNd a (((a : Int), 0, 1), 0)).nd j = if j = a then (((a : Int), 0, 1), 0) else noSt := fun j hj => by rw [setNd_nd _ ha _ hj, hz j hj]
  generalize (Z0 (a : Int)).setNd a (((a : Int), 0, 1), 0) = t at *
  have hp : (t.pass F).now = F := by unfold TabA.pass; simp only; rw [e1, if_pos (by omega)]
  have hh : (t.pass F).hear b ((b : Int), 0, 1) = (t.pass F).setNd b (((b : Int), 0, 1), F) := by
    unfold TabA.hear
    rw [pass_takes, hk, if_pos rfl, hp]
  rw [hh]
  refine ⟨⟨by rw [setNd_self]; exact e2, by rw [setNd_now]; exact hp, ?_, ?_, fun j hj h1 h2 => ?_, by rw [setNd_last]; exact e3⟩, by rw [setNd_opened]; exact e4⟩
  · rw [setNd_nd _ hb _ ha, if_neg hab, pass_nd', en a ha, if_pos rfl]
  · rw [setNd_nd _ hb _ hb, if_pos rfl]
  · rw [setNd_nd _ hb _ hj, if_neg h2, pass_nd', en j hj, if_neg h1]

set_option maxRecDepth 100000 in
set_option maxHeartbeats 6400000 in
theorem dead_walk (self other : Nat) (from_ : Int) (w : World) (hsz : self ≤ 18446744073709551615) (hoz : other ≤ 18446744073709551615) :
    Calls Try.prog 10 #[.int .u64 (self : Int), .int .u64 (other : Int), .int .i64 from_] w fun e w' => e = .returned (.bool true) ∧ Below w.heap.size w w' := by
  obtain ⟨a, ha⟩ : ∃ a, Hid (a = self % 8) := ⟨_, Lib.hid rfl⟩
  obtain ⟨b, hb⟩ : ∃ b, Hid (b = other % 8) := ⟨_, Lib.hid rfl⟩
  have HA : Hid ((self : Int) % 8 = (a : Int)) := Lib.hid (by rw [ha.out]; omega)
  have HB : Hid ((other : Int) % 8 = (b : Int)) := Lib.hid (by rw [hb.out]; omega)
  have ha8 : a < 8 := by rw [ha.out]; omega
  have hb8 : b < 8 := by rw [hb.out]; omega
  obtain ⟨F, hF, hFe⟩ := small_of from_ 1099511627776 (by decide) (by decide)
  have HFE := Lib.hid hFe
  have HF1 := Lib.hid hF
  have HAW := fun w' => Lib.hid (awake_any w')
  have HNEW := fun w' => Lib.hid (new_any a ha8 w')
  clear hFe hF
  go_enter Try.func10, Try.ntmps10
  go_upto_region 2 with fail
  rw [HA.out, HB.out]
  clear hsz hoz
  by_cases hab : a = b
  · have d1 : ((a : Int) == (b : Int)) = true := by simp [hab]
    clear hab
    go_wp2_with ((go_at_call 13); (with_reducible refine (HAW _).out.mono ?_); rintro e w1 ⟨rfl, hb1⟩)
    go_ret
    exact ⟨rfl, hb1⟩
  · have d1 : ((a : Int) == (b : Int)) = false := by simp; omega
    have HAB := Lib.hid hab
    clear hab
    go_upto_region 8 with (first
      | (go_at_call 11
         (with_reducible refine (HNEW _).out.mono ?_); rintro e w1 ⟨g, hg, rfl, ht, hb1⟩
         have HG := Lib.hid hg
         have HT1 := Lib.hid ht
         have HB1 := Lib.hid hb1
         clear hg ht hb1)
      | (go_at_call 13
         (with_reducible refine (HAW _).out.mono ?_); rintro e w2 ⟨rfl, hb2⟩
         have HT2 := Lib.hid (HT1.out.below hb2 HT1.out.lt)
         have HB2 : Hid (Below w.heap.size w w2) := Lib.hid (HB1.out.trans (hb2.mono HB1.out.size))
         clear hb2))
    rw [HFE.out]
    clear HFE
    obtain ⟨t0, ht0⟩ : ∃ t0, Hid (t0 = (Z0 (a : Int)).setNd a (((a : Int), 0, 1), 0)) := ⟨_, Lib.hid rfl⟩
    rw [← ht0.out] at HT2
    obtain ⟨V, hV⟩ : ∃ V, Hid (V = w2.alloc (.cells #[.int .i64 (b : Int), .int .i64 0, .int .i64 1] 38)) := ⟨_, Lib.hid rfl⟩
    have hbV : Below w2.heap.size w2 V := by rw [hV.out]; exact (Below.refl _ _).alloc (Nat.le_refl _) _
    have HTV := HT2.out.below hbV HT2.out.lt
    have hrV : V.heap[w2.heap.size]? = some (.cells #[.int .i64 (b : Int), .int .i64 0, .int .i64 1] 38 (0, 0)) := by rw [hV.out]; exact heap_alloc_new _ _
    have HBV : Hid (Below w.heap.size w V) := Lib.hid (HB2.out.trans (hbV.mono HB2.out.size))
    obtain ⟨T0, hT0⟩ : ∃ T0, Hid (T0 = (t0.pass F).hear b ((b : Int), 0, 1)) := ⟨_, Lib.hid rfl⟩
    have HDI : Hid (DeadInit a b F T0 ∧ T0.opened = .slice none 0 0) := Lib.hid (by rw [hT0.out, ht0.out]; exact dead_init ha8 hb8 HAB.out F)
    have HH : Hid (Calls Try.prog 15 #[.pointer (some ⟨g, 0, none⟩), .slice (some ⟨w2.heap.size, 0, none⟩) 1 1, .int .i64 (F : Int)] V fun e w' => (∃ v, e = .returned v) ∧ TabAt w' g T0 ∧ Turns g V.heap.size V w') := Lib.hid (by
      have hs0 : t0.self = (a : Int) := by rw [ht0.out]; exact setNd_self _ _ _
      have hk0 : t0.knows a = true := by unfold TabA.knows; rw [ht0.out, setNd_nd _ ha8 _ ha8, if_pos rfl]; simp
      rw [hT0.out]
      exact hear1_any g w2.heap.size t0 b hb8 ((b : Int), 0, 1) rfl (by rw [hs0]; have := HAB.out; simp; omega) a ha8 hs0 hk0 F V HTV hrV (by have := HT2.out.lt; omega))
    clear hbV HTV hrV
    go_upto_region 9 with ((go_at_call 15); rw [← hV.out]; (with_reducible refine HH.out.mono ?_); rintro e w3 ⟨⟨v3, rfl⟩, ht3, hg3⟩; have HT3 := Lib.hid ht3; have HB3 : Hid (Below w.heap.size w w3) := Lib.hid (((Turns.of HBV.out).trans (hg3.mono HBV.out.size)).below HG.out); clear ht3 hg3)
    have HGL : Hid (g < w3.heap.size) := Lib.hid HT3.out.lt
    have HO3 : Hid (∃ base, g < base ∧ OwnG w3 base T0.opened []) := Lib.hid ⟨g + 1, by omega, by rw [HDI.out.2]; exact ownG_nil _ _⟩
    have HF0 : Hid ((0 : Int) ≤ (F : Int)) := Lib.hid (by omega)
    obtain ⟨N, hN⟩ : ∃ N : Nat, Hid (N = 420) := ⟨_, Lib.hid rfl⟩
    go_wp2_with fail
    go_loopw [48] (fun i wr => ∃ (k : Nat) (T : TabA) (P : List PingA) (st : Nat), k ≤ N ∧ i = .int .i64 k ∧ Hid (DeadAt a b F k T P st) ∧ Hid (TabAt wr g T) ∧ Hid (∃ base, g < base ∧ OwnG wr base T.opened P) ∧ Hid (Below w.heap.size w wr)) (fun i _ => N - (intOf i).toNat)
    case atStart => exact ⟨0, T0, [], 0, Nat.zero_le _, rfl, Lib.hid (.inl ⟨rfl, HDI.out.1, rfl, rfl⟩), HT3, HO3, HB3⟩
    case round =>
      obtain ⟨k, T, P, st, hk, rfl, HD, HT, HO, HBR⟩ := hrel
      by_cases hlt : k < N
      · have hk420 : k < 420 := by have := hN.out; omega
        have e0 : decide ((k : Int) < 420) = true := by simp; omega
        obtain ⟨base, hgb, hob⟩ := HO.out
        obtain ⟨o1, o2, o3, o4, o5, o6⟩ := dead_ok ha8 hb8 HAB.out HF0.out HF1.out hk420 HD.out
        have HTK := Lib.hid (tick_any g base hgb T P o6 st ((F : Int) + (k : Int)) a ha8 o1 o2 o3 o4 o5 wr HT.out hob)
        obtain ⟨k2, r2, hd2⟩ := dead_tick ha8 hb8 HAB.out hk420 HD.out
        obtain ⟨T', hT'⟩ : ∃ T', Hid (T' = (T.tick P st ((F : Int) + (k : Int))).1) := ⟨_, Lib.hid rfl⟩
        obtain ⟨P', hP'⟩ : ∃ P', Hid (P' = (T.tick P st ((F : Int) + (k : Int))).2) := ⟨_, Lib.hid rfl⟩
        rw [← hT'.out, ← hP'.out] at HTK hd2
        have HD2 := Lib.hid hd2
        have hF2 : (F : Int) < 1099511627776 := HF1.out
        clear o1 o2 o3 o4 o5 o6 hob hgb hd2 HO
        have HST : ∀ (w4 : World) (ov : Value), TabAt w4 g { T' with opened := ov } → Hid (Calls Try.prog 28 #[.pointer (some ⟨g, 0, none⟩), .int .i64 (b : Int)] w4 fun e w' => e = .returned (.int .i64 (bSt b F k).1.2.2) ∧ w4 = w') := fun w4 ov ht => Lib.hid (by
          have hi := HD2.out.opened ov
          have := status_any g { T' with opened := ov } a ha8 hi.self (by unfold TabA.knows; rw [hi.nda]; simp) b hb8 w4 ht
          rwa [hi.ndb] at this)
        have HUP : ∀ (w4 : World) (ov : Value), TabAt w4 g { T' with opened := ov } → Hid (Calls Try.prog 29 #[.pointer (some ⟨g, 0, none⟩), .int .i64 (b : Int)] w4 fun e w' => e = .returned (.bool (decide ((bSt b F k).1.2.2 = 1) || decide ((bSt b F k).1.2.2 = 2))) ∧ w4 = w') := fun w4 ov ht => Lib.hid (by
          have hi := HD2.out.opened ov
          have := up_any g { T' with opened := ov } a ha8 hi.self (by unfold TabA.knows; rw [hi.nda]; simp) b hb8 w4 ht
          rwa [hi.ndb] at this)
        have dd : (decide ((k : Int) ≥ 100) = false ∧ decide ((k : Int) ≥ 400) = false ∧ decide ((k : Int) < 400) = true ∧ Hid ((bSt b F k).1.2.2 = 1) ∧ Hid ((decide ((bSt b F k).1.2.2 = 1) || decide ((bSt b F k).1.2.2 = 2)) = true)) ∨ (decide ((k : Int) ≥ 100) = true ∧ decide ((k : Int) ≥ 400) = false ∧ decide ((k : Int) < 400) = true ∧ Hid ((bSt b F k).1.2.2 = 2) ∧ Hid ((decide ((bSt b F k).1.2.2 = 1) || decide ((bSt b F k).1.2.2 = 2)) = true)) ∨ (decide ((k : Int) ≥ 100) = true ∧ decide ((k : Int) ≥ 400) = true ∧ decide ((k : Int) < 400) = false ∧ Hid ((bSt b F k).1.2.2 = 3) ∧ Hid ((decide ((bSt b F k).1.2.2 = 1) || decide ((bSt b F k).1.2.2 = 2)) = false)) := by
          unfold bSt
          by_cases a1 : k < 100
          · refine .inl ⟨by simp; omega, by simp; omega, by simp; omega, Lib.hid ?_, Lib.hid ?_⟩ <;> rw [if_pos a1] <;> rfl
          · by_cases a2 : k < 400
            · refine .inr (.inl ⟨by simp; omega, by simp; omega, by simp; omega, Lib.hid ?_, Lib.hid ?_⟩) <;> rw [if_neg a1, if_pos a2] <;> rfl
            · refine .inr (.inr ⟨by simp; omega, by simp; omega, by simp; omega, Lib.hid ?_, Lib.hid ?_⟩) <;> rw [if_neg a1, if_neg a2] <;> rfl
        rcases dd with ⟨e1, e2, e3, hs, hu⟩ | ⟨e1, e2, e3, hs, hu⟩ | ⟨e1, e2, e3, hs, hu⟩
        all_goals
          rw [hu.out] at HUP
          rw [hs.out] at HST
          go_wp2_with (first
            | (go_at_call 18
               (with_reducible refine HTK.out.mono ?_); rintro e w4 hp4
               obtain ⟨a4, b4, ov4, n4, m4, rfl, _, _, ht4, ho4, hg4⟩ := hp4
               have HT4 := Lib.hid ht4
               have HO4 : Hid (∃ base, g < base ∧ OwnG w4 base ({ T' with opened := ov4 } : TabA).opened P') := Lib.hid ⟨wr.heap.size, HT.out.lt, ho4⟩
               have HB4 : Hid (Below w.heap.size w w4) := Lib.hid (((Turns.of HBR.out).trans (hg4.mono HBR.out.size)).below HG.out)
               have HS4 := HST w4 ov4 ht4
               have HU4 := HUP w4 ov4 ht4
               clear ht4 ho4 hg4)
            | (go_at_call 28
               (with_reducible refine HS4.out.mono ?_); rintro e w5 ⟨rfl, rfl⟩)
            | (go_at_call 29
               (with_reducible refine HU4.out.mono ?_); rintro e w6 ⟨rfl, rfl⟩))
          have HDN : Hid (DeadAt a b F (k + 1) { T' with opened := ov4 } P' (b + 1)) := Lib.hid (.inr ⟨k, k2, r2, rfl, HD2.out.opened ov4, rfl⟩)
          go_roundw
          case rel => exact ⟨k + 1, _, P', b + 1, by omega, by go_num, HDN, HT4, HO4, HB4⟩
          case measure => simp [intOf]; omega
      · obtain rfl : k = N := by omega
        have e0 : decide ((k : Int) < 420) = false := by have := hN.out; simp; omega
        go_wp2
        go_ret
        exact ⟨rfl, HBR.out⟩
end Go.Proofs.Ythipdadhhelieaa
