/- SeglogNames, walked. -/
import Derived.Test.YtakmndfcelghfaaDoorSNames
namespace Go.Proofs.YtakmndfcelghfaaDoor
open Go.RowKit Go.Sort Go.BigFrame

theorem seg12 : segS 12 = (⟨#[108, 111, 103, 46, 49, 50]⟩ : ByteArray) := by
  unfold segS
  rw [if_neg (by omega)]
  unfold digs strOf
  rw [if_neg (by decide), Lib.decDigits_two (by decide) (by decide)]
  rfl

set_option maxRecDepth 100000 in
set_option maxHeartbeats 1600000 in
theorem seglogNames_walk (n : Int) (h0 : -9223372036854775808 ≤ n) (h1 : n ≤ 9223372036854775807) (w : World) (ht : powTab w) :
    Calls Tryd.prog 3 #[.int .i64 n] w fun e w' => e = .returned (.bool true) ∧ Below w.heap.size w w' := by
  have HS := Lib.hid (fun w' (hb : Below w.heap.size w w') => segName_any n h0 h1 w' (pow_below ht hb))
  have H12 := Lib.hid (fun w' (hb : Below w.heap.size w w') => segName_any 12 (by decide) (by decide) w' (pow_below ht hb))
  rw [seg12] at H12
  have HR := Lib.hid (fun w' => refSeg_any n w')
  obtain ⟨s, hs⟩ : ∃ s, Hid (s = segS n) := ⟨_, Lib.hid rfl⟩
  rw [← hs.out] at HS HR
  clear ht
  go_enter Tryd.func3, Tryd.ntmps3
  go_wp2_with fail
  (with_reducible refine (HS.out w (Below.refl _ _)).mono ?_); rintro e w1 ⟨rfl, hb1⟩
  have HB1 := Lib.hid hb1
  clear hb1
  go_wp2_with fail
  (with_reducible refine (HR.out w1).mono ?_); rintro e w2 ⟨rfl, hb2⟩
  have HB2 : Hid (Below w.heap.size w w2) := Lib.hid (HB1.out.trans (hb2.mono HB1.out.size))
  clear hb2
  go_wp2_with fail
  (with_reducible refine (H12.out w2 HB2.out).mono ?_); rintro e w3 ⟨rfl, hb3⟩
  have HB3 : Hid (Below w.heap.size w w3) := Lib.hid (HB2.out.trans (hb3.mono HB2.out.size))
  clear hb3
  go_wp2
  go_ret
  exact ⟨rfl, HB3.out⟩
end Go.Proofs.YtakmndfcelghfaaDoor
