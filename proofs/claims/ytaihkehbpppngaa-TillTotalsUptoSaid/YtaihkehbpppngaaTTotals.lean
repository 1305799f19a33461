/- TillTotals. -/
import Derived.Test.YtaihkehbpppngaaTShareP
namespace Go.Proofs.Ytaihkehbpppngaa
open Go.RowKit

set_option maxRecDepth 100000 in
set_option maxHeartbeats 1600000 in
theorem totals_walk (v : Value) (ls : List LineA) (amount : Nat) (hh : Int) (w : World) (h : RdL w v ls) (hl : ls.length ≤ 1099511627776) :
    Calls Try.prog 4 #[v, .int .u64 amount, .int .i64 hh] w fun e w' => e = .returned (.bool true) ∧ Below w.heap.size w w' := by
  have H0 := Lib.hid (cloneL_any v ls w h hl)
  have HV := fun w' (hb : Below w.heap.size w w') => Lib.hid (h.below hb)
  have H1 := fun v' w' (h' : RdL w' v' ls) => Lib.hid (Total_any v' ls w' h' hl)
  have H2 := fun v' w' (h' : RdL w' v' ls) => Lib.hid (refTotalP_any v' ls w' h' hl)
  have H3 := fun w' => Lib.hid (off_any amount hh w')
  have H4 := fun w' => Lib.hid (refOff_any amount hh w')
  have H5 := fun v' w' (h' : RdL w' v' ls) => Lib.hid (share_any v' ls amount w' h' hl)
  have H6 := fun v' w' (h' : RdL w' v' ls) => Lib.hid (refShare_any v' ls amount w' h' hl)
  have HSL := Lib.hid (show (shareV ls (totV ls) amount).length ≤ 1099511627776 by rw [shareV_len]; exact hl)
  have H7 := fun v' u' w' (h' : RdW uV w' v' (shareV ls (totV ls) amount)) (h2 : RdW uV w' u' (shareV ls (totV ls) amount)) => Lib.hid (equalU_same v' u' _ w' h' h2 HSL.out)
  have H8 := fun v' u' w' (h' : RdL w' v' ls) (h2 : RdL w' u' ls) => Lib.hid (equalL_same v' u' ls w' h' h2 hl)
  generalize shareV ls (totV ls) amount = sh at H5 H6 H7 HSL
  generalize totV ls = tt at H1 H2
  generalize offV amount (clampH hh) = oo at H3 H4
  obtain ⟨n, hn⟩ : ∃ n, Hid (n = ls.length) := ⟨_, Lib.hid rfl⟩
  rw [← hn.out] at H0 H5 H6
  clear h hl hn
  go_enter Try.func4, Try.ntmps4
  go_wp2_with (first
    | (go_at_call 11
       (with_reducible refine H0.out.mono ?_); rintro e w1 ⟨A1, c1, rfl, hr1, hb1⟩
       have HR1 := Lib.hid hr1
       have HB1 := Lib.hid hb1
       clear hr1 hb1)
    | (go_at_call 12
       (with_reducible refine (H1 _ _ HR1.out).out.mono ?_); rintro e w2 ⟨rfl, hb2⟩
       have HR2 := Lib.hid (HR1.out.below hb2)
       have HB2 : Hid (Below w.heap.size w w2) := Lib.hid (HB1.out.trans (hb2.mono HB1.out.size))
       clear hb2)
    | (go_at_call 13
       (with_reducible refine (H2 _ _ (HV _ HB2.out).out).out.mono ?_); rintro e w3 ⟨rfl, hb3⟩
       have HR3 := Lib.hid (HR2.out.below hb3)
       have HB3 : Hid (Below w.heap.size w w3) := Lib.hid (HB2.out.trans (hb3.mono HB2.out.size))
       clear hb3)
    | (go_at_call 14
       (with_reducible refine (H3 _).out.mono ?_); rintro e w4 ⟨rfl, hb4⟩
       have HR4 := Lib.hid (HR3.out.below hb4)
       have HB4 : Hid (Below w.heap.size w w4) := Lib.hid (HB3.out.trans (hb4.mono HB3.out.size))
       clear hb4)
    | (go_at_call 15
       (with_reducible refine (H4 _).out.mono ?_); rintro e w5 ⟨rfl, hb5⟩
       have HR5 := Lib.hid (HR4.out.below hb5)
       have HB5 : Hid (Below w.heap.size w w5) := Lib.hid (HB4.out.trans (hb5.mono HB4.out.size))
       clear hb5)
    | (go_at_call 17
       (with_reducible refine (H5 _ _ HR5.out).out.mono ?_); rintro e w6 ⟨A6, c6, rfl, hr6, hb6⟩
       have HS6 := Lib.hid hr6
       have HR6 := Lib.hid (HR5.out.below hb6)
       have HB6 : Hid (Below w.heap.size w w6) := Lib.hid (HB5.out.trans (hb6.mono HB5.out.size))
       clear hr6 hb6)
    | (go_at_call 18
       (with_reducible refine (H6 _ _ (HV _ HB6.out).out).out.mono ?_); rintro e w7 ⟨A7, c7, rfl, hr7, hb7⟩
       have HS7 := Lib.hid hr7
       have HS6' := Lib.hid (HS6.out.below hb7)
       have HR7 := Lib.hid (HR6.out.below hb7)
       have HB7 : Hid (Below w.heap.size w w7) := Lib.hid (HB6.out.trans (hb7.mono HB6.out.size))
       clear hr7 hb7)
    | (go_at_call 16
       (with_reducible refine (H7 _ _ _ HS6'.out HS7.out).out.mono ?_); rintro e w8 ⟨rfl, hb8⟩
       have HR8 := Lib.hid (HR7.out.below hb8)
       have HB8 : Hid (Below w.heap.size w w8) := Lib.hid (HB7.out.trans (hb8.mono HB7.out.size))
       clear hb8)
    | (go_at_call 19
       (with_reducible refine (H8 _ _ _ HR8.out (HV _ HB8.out).out).out.mono ?_); rintro e w9 ⟨rfl, hb9⟩))
  go_ret
  exact ⟨rfl, HB8.out.trans (hb9.mono HB8.out.size)⟩
end Go.Proofs.Ytaihkehbpppngaa
