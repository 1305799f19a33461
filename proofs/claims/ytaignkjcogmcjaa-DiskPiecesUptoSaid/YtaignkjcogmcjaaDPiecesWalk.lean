/- DiskPieces, walked. -/
import Derived.Test.YtaignkjcogmcjaaDPair
import Derived.Test.YtaignkjcogmcjaaConcat
namespace Go.Proofs.Ytaignkjcogmcjaa
open Go.RowKit
open Go.Lib (byteCells byteCells_length)

set_option maxRecDepth 100000 in
set_option maxHeartbeats 6400000 in
theorem pieces_walk (room : Int) (v1 : Value) (os : List DoA) (nm : ByteArray) (va vb : Value) (a b : List UInt8) (w : World) (hr1 : RdDos w v1 os) (hl1 : os.length ≤ 1048576) (hnm : nm.size ≤ 9223372036854775807) (ra : Rd w 0 w.heap.size va a) (rb : Rd w 0 w.heap.size vb b) (hla : a.length ≤ 1048576) (hlb : b.length ≤ 1048576) :
    Calls Try.prog 9 #[.int .i64 room, v1, .string nm, va, vb] w fun e w' => e = .returned (.bool true) ∧ Below w.heap.size w w' := by
  have HBG := Lib.hid (begun_can room v1 os w hr1 hl1)
  have HRA := Lib.hid ra
  have HRB := Lib.hid rb
  obtain ⟨Aa, ca, rfl, _, _⟩ := ra
  obtain ⟨Ab, cb, rfl, _, _⟩ := rb
  obtain ⟨A2, c2, rfl, hc2, hx2⟩ := hr1
  obtain ⟨n, hn⟩ : ∃ n, Hid (n = os.length) := ⟨_, Lib.hid rfl⟩
  rw [← hn.out] at hc2 HBG ⊢
  clear hx2
  go_enter Try.func9, Try.ntmps9
  go_wp2_with fail
  (with_reducible refine HBG.out.mono ?_); rintro e w1 (⟨rfl, hb1⟩ | ⟨d, tag, fs, rfl, hh, hcan⟩)
  · have HAW := Lib.hid (awake_any w1)
    have HB1 := Lib.hid hb1
    clear hb1
    go_wp2_with fail
    (with_reducible refine HAW.out.mono ?_); rintro e w2 ⟨rfl, hb2⟩
    go_wp2
    go_ret
    exact ⟨rfl, HB1.out.trans (hb2.mono HB1.out.size)⟩
  have HAW := Lib.hid (awake_any w1)
  have HH := Lib.hid hh
  have HCAN := Lib.hid hcan
  clear hh hcan
  go_wp2_with fail
  (with_reducible refine HAW.out.mono ?_); rintro e w2 ⟨rfl, hb2⟩
  have hh2 := HH.out.alloc hb2
  have HH2 := Lib.hid hh2
  have HCP := Lib.hid (copy_made hh2.1)
  clear hb2 hh2
  go_wp2_with fail
  (with_reducible refine HCP.out.mono ?_); rintro e w3 ⟨c, tc, rfl, hc3⟩
  have hp3 := HH2.out.pair hc3
  have HP3 := Lib.hid hp3
  have hrise := Lib.hid hc3.1.rise
  have HK3 := Lib.hid (clone_any _ a w3 ((HRA.out.below hp3.below (Nat.le_refl _)).mono (Nat.le_refl _) hp3.below.size) (by omega))
  clear hp3 hc3
  go_wp2_with fail
  (with_reducible refine HK3.out.mono ?_); rintro e w4 ⟨u4, rfl, ho4, hb4⟩
  have hp4 := HP3.out.alloc hb4
  have HP4 := Lib.hid hp4
  have hAP := append_made hp4.one.1 nm hnm u4 a (ho4.rd.mono (Nat.zero_le _) (Nat.le_refl _)) (by omega)
  obtain ⟨x5, hx5⟩ : ∃ x, Hid (x = appC room fs nm.data.toList a) := ⟨_, Lib.hid rfl⟩
  rw [← hx5.out] at hAP
  have HAP := Lib.hid hAP
  clear hp4 ho4 hb4 hAP
  go_wp2_with fail
  (with_reducible refine HAP.out.mono ?_); rintro e w5 ⟨rfl, hl5⟩
  obtain ⟨t5, hp5⟩ := HP4.out.left hl5
  have HP5 := Lib.hid hp5
  clear hl5 hp5
  by_cases h5 : x5 = 0
  · have hx0 : appC room fs nm.data.toList a = 0 := by rw [← hx5.out]; exact h5
    have HX0 := Lib.hid hx0
    have hq5 : (x5 != 0) = false := by rw [h5]; rfl
    have HK5 := Lib.hid (clone_any _ b w5 ((HRB.out.below HP5.out.below (Nat.le_refl _)).mono (Nat.le_refl _) HP5.out.below.size) (by omega))
    clear hx0 h5
    go_wp2_with fail
    (with_reducible refine HK5.out.mono ?_); rintro e w6 ⟨u6, rfl, ho6, hb6⟩
    have hp6 := HP5.out.alloc hb6
    have HP6 := Lib.hid hp6
    have hAP := append_made hp6.one.1 nm hnm u6 b (ho6.rd.mono (Nat.zero_le _) (Nat.le_refl _)) (by omega)
    obtain ⟨x7, hx7⟩ : ∃ x, Hid (x = appC room (appF room fs nm.data.toList a) nm.data.toList b) := ⟨_, Lib.hid rfl⟩
    rw [← hx7.out] at hAP
    have HAP2 := Lib.hid hAP
    clear hp6 ho6 hb6 hAP
    go_wp2_with fail
    (with_reducible refine HAP2.out.mono ?_); rintro e w7 ⟨rfl, hl7⟩
    obtain ⟨t7, hp7⟩ := HP6.out.left hl7
    have HP7 := Lib.hid hp7
    clear hl7 hp7
    by_cases h7 : x7 = 0
    · have hpc := pieces hrise.out HX0.out (by rw [← hx7.out]; exact h7)
      have HPC := Lib.hid hpc
      have hq7 : (x7 != 0) = false := by rw [h7]; rfl
      clear hpc h7
      have hb8 : Below w7.heap.size w7 (w7.alloc (.cells #[.slice Aa a.length ca, .slice Ab b.length cb] 31)) := (Below.refl _ _).alloc (Nat.le_refl _) _
      have hp8 := HP7.out.alloc hb8
      have HP8 := Lib.hid hp8
      have hnew := heap_alloc_new w7 (.cells #[.slice Aa a.length ca, .slice Ab b.length cb] 31)
      have HCC := Lib.hid (concat_any w7.heap.size _ _ a b _ (cell_of_row _ _ 0 _ _ (0, 0) hnew) (cell_of_row _ _ 1 _ _ (0, 0) hnew) ((HRA.out.below hp8.below (Nat.le_refl _)).mono (Nat.le_refl _) hp8.below.size) ((HRB.out.below hp8.below (Nat.le_refl _)).mono (Nat.le_refl _) hp8.below.size) hla hlb)
      clear hb8 hp8 hnew
      go_wp2_with fail
      (with_reducible refine HCC.out.mono ?_); rintro e w9 ⟨u9, rfl, ho9, hb9⟩
      have hp9 := HP8.out.alloc hb9
      have HP9 := Lib.hid hp9
      have hAP := append_made hp9.two.1 nm hnm u9 (a ++ b) (ho9.rd.mono (Nat.zero_le _) (Nat.le_refl _)) (by rw [List.length_append]; omega)
      rw [HPC.out.1] at hAP
      have HAP3 := Lib.hid hAP
      clear hp9 ho9 hb9 hAP
      go_wp2_with fail
      (with_reducible refine HAP3.out.mono ?_); rintro e w10 ⟨rfl, hl10⟩
      obtain ⟨t10, hp10⟩ := HP9.out.symm.left hl10
      have HP10 := Lib.hid hp10
      have HAL := Lib.hid (alike_any hp10.one.1 hp10.two.1 true ⟨by rw [HPC.out.2], fun _ => HPC.out.2.symm⟩ (appF_can HCAN.out))
      clear hl10 hp10
      go_wp2_with fail
      (with_reducible refine HAL.out.mono ?_); rintro e w11 ⟨rfl, hb11⟩
      have HB11 := Lib.hid (HP10.out.alloc hb11).below
      clear hb11
      go_wp2
      go_ret
      exact ⟨rfl, HB11.out⟩
    · have hq7 : (x7 != 0) = true := by simpa using h7
      clear h7
      go_wp2
      go_ret
      exact ⟨rfl, HP7.out.below⟩
  · have hq5 : (x5 != 0) = true := by simpa using h5
    clear h5
    go_wp2
    go_ret
    exact ⟨rfl, HP5.out.below⟩
end Go.Proofs.Ytaignkjcogmcjaa
