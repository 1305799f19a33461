/- The next node; a message to it. -/
import Derived.Test.YtefciibkcafbiaaGDue
import Derived.Test.YtefciibkcafbiaaGNums
import Derived.Test.YtefciibkcafbiaaGTurnM
namespace Go.Proofs.Ytefciibkcafbiaa
open Go.RowKit Go.Sort Go.BigFrame

/-- A place in a list, or one below nought where there is none. -/
def IsIdx (zs : List Int) (x : Int) (w : World) (e : Ending) (w' : World) : Prop := (∃ k : Int, e = .returned (.int .i64 k) ∧ decide (k ≥ 0) = zs.contains x) ∧ w = w'
def nxI (L : List Bool) (st : Nat) : Int := if nx L st < 8 then (nx L st : Int) else -1
set_option maxRecDepth 100000 in
theorem index_ints (A : Option Addr) (zs : List Int) (c : Nat) (x : Int) (w : World) (h : RdZ w A zs) (hl : zs.length ≤ 1048576) :
    Calls Try.prog 29 #[.slice A zs.length c, .int .i64 x] w (IsIdx zs x w) := by
  obtain ⟨n, hn⟩ : ∃ n, Hid (n = zs.length) := ⟨_, Lib.hid rfl⟩
  have hl2 : n ≤ 1048576 := by rw [hn.out]; exact hl
  rw [← hn.out]
  have H := Lib.hid h
  clear h hl
  go_enter Try.func29, Try.ntmps29
  go_wp2
  go_loop [8] (fun i => ∃ k : Nat, k ≤ n ∧ i = .int .i64 k ∧ Hid (∀ j, j < k → zs[j]? ≠ some x)) (fun i => n - (intOf i).toNat)
  case atStart => exact ⟨0, Nat.zero_le _, rfl, Lib.hid fun j hj => by omega⟩
  case round =>
    obtain ⟨k, hk, rfl, hno⟩ := hrel
    by_cases hlt : k < n
    · obtain ⟨z, hz⟩ : ∃ z, zs[k]? = some z := ⟨zs[k]'(by rw [← hn.out]; exact hlt), List.getElem?_eq_getElem _⟩
      obtain ⟨ad, rfl, _, hc, _⟩ := H.out k z hz
      have HZ := Lib.hid hz
      clear hz
      by_cases hxz : x = z
      · have d1 : (x == z) = true := by simpa using hxz
        have HX := Lib.hid hxz
        clear hxz
        go_wp2
        go_ret
        refine ⟨⟨(k : Int), rfl, ?_⟩, rfl⟩
        have : zs.contains x = true := by rw [HX.out]; exact List.contains_iff_mem.2 (List.mem_of_getElem? HZ.out)
        rw [this]
        simp
      · have d1 : (x == z) = false := by simpa using hxz
        have HX := Lib.hid hxz
        clear hxz
        go_wp2
        go_round
        case rel =>
          refine ⟨k + 1, by omega, by go_num, Lib.hid fun j hj => ?_⟩
          by_cases hjk : j = k
          · subst hjk
            rw [HZ.out]
            intro e
            exact HX.out (Option.some.inj e).symm
          · exact hno.out j (by omega)
        case measure => simp [intOf]; omega
    · obtain rfl : k = n := by omega
      go_wp2
      go_ret
      refine ⟨⟨-1, rfl, ?_⟩, rfl⟩
      have : zs.contains x = false := by
        rw [Bool.eq_false_iff]
        intro hc
        obtain ⟨j, hj⟩ := List.getElem?_of_mem (List.contains_iff_mem.1 hc)
        have hjl := (List.getElem?_eq_some_iff.1 hj).1
        exact hno.out j (by rw [hn.out]; exact hjl) hj
      rw [this]
      rfl
theorem contains_ints (A : Option Addr) (zs : List Int) (c : Nat) (x : Int) (w : World) (h : RdZ w A zs) (hl : zs.length ≤ 1048576) :
    Calls Try.prog 26 #[.slice A zs.length c, .int .i64 x] w fun e w' => e = .returned (.bool (zs.contains x)) ∧ w = w' := by
  have H0 := Lib.hid (index_ints A zs c x w h hl)
  obtain ⟨b, hb⟩ : ∃ b, Hid (b = zs.contains x) := ⟨_, Lib.hid rfl⟩
  rw [← hb.out]
  clear h hl
  go_enter Try.func26, Try.ntmps26
  go_wp2_with ((go_at_call 29); (with_reducible refine H0.out.mono ?_); rintro e w1 ⟨⟨k, rfl, hk⟩, rfl⟩; have HK := Lib.hid hk; clear hk)
  go_ret
  exact ⟨ret_bool (HK.out.trans hb.out.symm), rfl⟩

set_option maxRecDepth 100000 in
set_option maxHeartbeats 1600000 in
theorem next_any (g : Nat) (m : Bool) (ks st : Nat) (t a : Int) (ht : t = (st : Int) - 1) (hst : st ≤ 8) (A : Option Addr) (zs : List Int) (c : Nat) (w : World) (h : BoxAt w g m (ks : Int) t a) (hz : RdZ w A zs) (hl : zs.length ≤ 1048576) :
    Calls Try.prog 19 #[.pointer (some ⟨g, 0, none⟩), .slice A zs.length c] w fun e w' => e = .returned (.int .i64 (nxI (marks ks zs) st)) ∧ w = w' := by
  have c1 : w.cell? ⟨g, 1, none⟩ = some (.int .i64 (ks : Int)) := h.cell 1
  have c42 : w.cell? ⟨g, 42, none⟩ = some (.int .i64 t) := h.cell 42
  have HT := Lib.hid ht
  have t0 : -1 ≤ t := by omega
  have t1 : t ≤ 7 := by omega
  have HC := fun x => Lib.hid (contains_ints A zs c x w hz hl)
  obtain ⟨n, hn⟩ : ∃ n, Hid (n = zs.length) := ⟨_, Lib.hid rfl⟩
  rw [← hn.out] at HC ⊢
  obtain ⟨L, hL⟩ : ∃ L, Hid (L = marks ks zs) := ⟨_, Lib.hid rfl⟩
  rw [← hL.out]
  have HM : Hid (∀ i, i < 8 → L.getD i false = (!decide ((i : Int) = (ks : Int)) && zs.contains (i : Int))) := Lib.hid (by rw [hL.out]; exact fun i hi => marks_at _ _ _ hi)
  clear h hz ht hl
  go_enter Try.func19, Try.ntmps19
  go_wp2
  go_loop [7] (fun i => ∃ k : Nat, k ≤ 8 ∧ i = .int .i64 k ∧ Hid (nx L st = nxF L st k (8 - k))) (fun i => 8 - (intOf i).toNat)
  case atStart => exact ⟨0, Nat.zero_le _, rfl, Lib.hid rfl⟩
  case round =>
    obtain ⟨k, hk, rfl, hno⟩ := hrel
    by_cases hlt : k < 8
    · obtain ⟨q, hq⟩ : ∃ q, Hid (q = (st + k) % 8) := ⟨_, Lib.hid rfl⟩
      have hq8 : q < 8 := by rw [hq.out]; omega
      have HN : Hid (nxF L st k (8 - k) = if L.getD q false then q else nxF L st (k + 1) (8 - (k + 1))) := Lib.hid (by
        rw [hq.out, show 8 - k = (8 - (k + 1)) + 1 by omega]
        rfl)
      have hmod : (t + 1 + (k : Int)) % 8 = (q : Int) := by rw [hq.out, HT.out]; omega
      have hmq := HM.out q hq8
      by_cases hqs : (q : Int) = (ks : Int)
      · have d1 : ((q : Int) == (ks : Int)) = true := by simpa using hqs
        have d2 : ((q : Int) != (ks : Int)) = false := by simp [hqs]
        have HF : Hid (L.getD q false = false) := Lib.hid (by rw [hmq]; simp [hqs])
        clear hqs hmq
        go_wp2
        go_round
        case rel => exact ⟨k + 1, by omega, by go_num, Lib.hid (by rw [hno.out, HN.out, HF.out]; rfl)⟩
        case measure => simp [intOf]; omega
      · have d1 : ((q : Int) == (ks : Int)) = false := by simpa using hqs
        have d2 : ((q : Int) != (ks : Int)) = true := by simp [hqs]
        have HF : Hid (L.getD q false = zs.contains (q : Int)) := Lib.hid (by rw [hmq]; simp [hqs])
        have HCq := HC (q : Int)
        clear hqs hmq
        cases hb : zs.contains (q : Int)
        · rw [hb] at HCq HF
          clear hb
          go_wp2_with ((go_at_call 26); (with_reducible refine HCq.out.mono ?_); rintro e w1 ⟨rfl, rfl⟩)
          go_round
          case rel => exact ⟨k + 1, by omega, by go_num, Lib.hid (by rw [hno.out, HN.out, HF.out]; rfl)⟩
          case measure => simp [intOf]; omega
        · rw [hb] at HCq HF
          clear hb
          go_wp2_with ((go_at_call 26); (with_reducible refine HCq.out.mono ?_); rintro e w1 ⟨rfl, rfl⟩)
          go_ret
          have hx : nx L st = q := by rw [hno.out, HN.out, HF.out]; rfl
          exact ⟨ret_int (by unfold nxI; rw [hx, if_pos hq8]), rfl⟩
    · obtain rfl : k = 8 := by omega
      go_wp2
      go_ret
      have hx : nx L st = 8 := by rw [hno.out]; rfl
      exact ⟨ret_int (by unfold nxI; rw [hx]; rfl), rfl⟩
end Go.Proofs.Ytefciibkcafbiaa
