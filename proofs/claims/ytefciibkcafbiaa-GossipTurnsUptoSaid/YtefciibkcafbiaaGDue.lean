/- A box without rumours sends none. -/
import Derived.Test.YtefciibkcafbiaaGBase
import Derived.Deep.MidRow
import Derived.Laws.EntriesVeiled
namespace Go.Proofs.Ytefciibkcafbiaa
open Go.RowKit Go.Sort Go.BigFrame

abbrev rumZ : Value := .agg #[.int .i64 0, .int .i64 0, .int .i64 0, .nilFunc, .nilFunc]
def kept0 : List Value := [.int .i64 0, .int .i64 0, .int .i64 0, .nilFunc, .nilFunc, .int .i64 0, .int .i64 0, .int .i64 0, .nilFunc, .nilFunc,
  .int .i64 0, .int .i64 0, .int .i64 0, .nilFunc, .nilFunc, .int .i64 0, .int .i64 0, .int .i64 0, .nilFunc, .nilFunc,
  .int .i64 0, .int .i64 0, .int .i64 0, .nilFunc, .nilFunc, .int .i64 0, .int .i64 0, .int .i64 0, .nilFunc, .nilFunc,
  .int .i64 0, .int .i64 0, .int .i64 0, .nilFunc, .nilFunc, .int .i64 0, .int .i64 0, .int .i64 0, .nilFunc, .nilFunc]
theorem kept_index {k : Nat} (hk : k < 8) (w : World) : (Instr.index 64 (.agg kept0.toArray) (.int .i64 (k : Int))).run Try.prog w = .ok rumZ w := by
  rcases (by omega : k = 0 ∨ k = 1 ∨ k = 2 ∨ k = 3 ∨ k = 4 ∨ k = 5 ∨ k = 6 ∨ k = 7) with rfl | rfl | rfl | rfl | rfl | rfl | rfl | rfl <;> kernel_rfl
theorem kept_at {w : World} {g : Nat} {m : Bool} {s t a : Int} (h : BoxAt w g m s t a) : w.rangeAt g 2 kept0 := fun j v hv => by
  match j, hv with
  | 0, hv => exact (h.cell 2).trans hv
  | 1, hv => exact (h.cell 3).trans hv
  | 2, hv => exact (h.cell 4).trans hv
  | 3, hv => exact (h.cell 5).trans hv
  | 4, hv => exact (h.cell 6).trans hv
  | 5, hv => exact (h.cell 7).trans hv
  | 6, hv => exact (h.cell 8).trans hv
  | 7, hv => exact (h.cell 9).trans hv
  | 8, hv => exact (h.cell 10).trans hv
  | 9, hv => exact (h.cell 11).trans hv
  | 10, hv => exact (h.cell 12).trans hv
  | 11, hv => exact (h.cell 13).trans hv
  | 12, hv => exact (h.cell 14).trans hv
  | 13, hv => exact (h.cell 15).trans hv
  | 14, hv => exact (h.cell 16).trans hv
  | 15, hv => exact (h.cell 17).trans hv
  | 16, hv => exact (h.cell 18).trans hv
  | 17, hv => exact (h.cell 19).trans hv
  | 18, hv => exact (h.cell 20).trans hv
  | 19, hv => exact (h.cell 21).trans hv
  | 20, hv => exact (h.cell 22).trans hv
  | 21, hv => exact (h.cell 23).trans hv
  | 22, hv => exact (h.cell 24).trans hv
  | 23, hv => exact (h.cell 25).trans hv
  | 24, hv => exact (h.cell 26).trans hv
  | 25, hv => exact (h.cell 27).trans hv
  | 26, hv => exact (h.cell 28).trans hv
  | 27, hv => exact (h.cell 29).trans hv
  | 28, hv => exact (h.cell 30).trans hv
  | 29, hv => exact (h.cell 31).trans hv
  | 30, hv => exact (h.cell 32).trans hv
  | 31, hv => exact (h.cell 33).trans hv
  | 32, hv => exact (h.cell 34).trans hv
  | 33, hv => exact (h.cell 35).trans hv
  | 34, hv => exact (h.cell 36).trans hv
  | 35, hv => exact (h.cell 37).trans hv
  | 36, hv => exact (h.cell 38).trans hv
  | 37, hv => exact (h.cell 39).trans hv
  | 38, hv => exact (h.cell 40).trans hv
  | 39, hv => exact (h.cell 41).trans hv
  | j + 40, hv => simp [kept0] at hv
theorem kept_len : kept0.length = 40 := rfl

theorem eqFunc_nil (w : World) (d : Nat) : (Op.equalIn (d + 1) 61 .nilFunc .nilFunc).run Try.prog w = .ok true w := by
  simp [Op.equalIn, run_underlying Try.underlying61]
theorem eqFunc_some (fn : Fn) (x y : Array Value) (w : World) (d : Nat) : (Op.equalIn (d + 1) 61 (.func fn x y) .nilFunc).run Try.prog w = .ok false w := by
  simp [Op.equalIn, run_underlying Try.underlying61]
theorem neFunc_nil (w : World) : (binOp .neq 61 .nilFunc .nilFunc).run Try.prog w = .ok (.bool false) w := by
  simp only [binOp]
  simp [Op.equal, Op.maxDepth, eqFunc_nil w 9999]
theorem neFunc_some (fn : Fn) (x y : Array Value) (w : World) : (binOp .neq 61 (.func fn x y) .nilFunc).run Try.prog w = .ok (.bool true) w := by
  simp only [binOp]
  simp [Op.equal, Op.maxDepth, eqFunc_some fn x y w 9999]
theorem isKept_none (w : World) : Calls Try.prog 23 #[rumZ] w fun e w' => e = .returned (.bool false) ∧ Below w.heap.size w w' := by
  have HB : Hid (Below w.heap.size w (w.alloc (.cells #[.int .i64 0, .int .i64 0, .int .i64 0, .nilFunc, .nilFunc] 63))) := Lib.hid ((Below.refl _ _).alloc (Nat.le_refl _) _)
  have hne := neFunc_nil
  go_enter Try.func23, Try.ntmps23
  go_wp2
  go_ret
  exact ⟨rfl, HB.out⟩

set_option maxRecDepth 100000 in
set_option maxHeartbeats 1600000 in
theorem due_none (g : Nat) (m : Bool) (s t a : Int) (w : World) (h : BoxAt w g m s t a) :
    Calls Try.prog 22 #[.pointer (some ⟨g, 0, none⟩)] w fun e w' => e = .returned (.slice none 0 0) ∧ Below w.heap.size w w' := by
  have HT := Lib.hid h
  have hi : (Try.prog.info? 64).map (·.size) = some kept0.length := by rw [kept_len]; kernel_rfl
  have hix := fun (k : Nat) (hk : k < 8) w' => kept_index hk w'
  obtain ⟨L, hL⟩ : ∃ L, L = kept0 := ⟨_, rfl⟩
  rw [← hL] at hi hix
  have HIX := Lib.hid hix
  have HL := Lib.hid hL
  have HK := fun w' => Lib.hid (isKept_none w')
  clear hL h hix
  go_enter Try.func22, Try.ntmps22
  go_wp2
  go_loopw [7, 3] (fun i x wr => ∃ k : Nat, k ≤ 3 ∧ i = .int .i64 k ∧ x = .slice none 0 0 ∧ Below w.heap.size w wr) (fun i _ _ => 3 - (intOf i).toNat)
  case atStart => exact ⟨0, Nat.zero_le _, rfl, rfl, Below.refl _ _⟩
  case round =>
    obtain ⟨q, hq, rfl, rfl, hb⟩ := hrel
    by_cases hlt : q < 3
    · have HN : Hid (wr.rangeAt g 2 L) := Lib.hid (by rw [HL.out]; exact kept_at (HT.out.below hb HT.out.lt))
      obtain ⟨wo, hwo⟩ : ∃ wo : World, wo = wr := ⟨_, rfl⟩
      subst hwo
      have HBO := Lib.hid hb
      clear hb
      go_wp2_with (with_reducible refine wpList_load_mid rfl 64 (.tmp 12) rfl g 2 rfl L _ HN.out Try.underlying64 rfl hi ?_)
      go_loopw [14, 3] (fun i x wr => ∃ k : Nat, k ≤ 8 ∧ i = .int .i64 k ∧ x = .slice none 0 0 ∧ Below w.heap.size w wr) (fun i _ _ => 8 - (intOf i).toNat)
      case atStart => exact ⟨0, Nat.zero_le _, rfl, rfl, HBO.out⟩
      case round =>
        obtain ⟨k, hk, rfl, rfl, hb⟩ := hrel
        by_cases hlt2 : k < 8
        · have ix := HIX.out k hlt2
          obtain ⟨V, hV⟩ : ∃ V, Hid (V = wr.alloc (.cells #[.int .i64 0, .int .i64 0, .int .i64 0, .nilFunc, .nilFunc] 63)) := ⟨_, Lib.hid rfl⟩
          have HBV : Hid (Below w.heap.size w V) := Lib.hid (by rw [hV.out]; exact hb.alloc hb.size _)
          have v0 : V.cell? ⟨wr.heap.size, 0, none⟩ = some (.int .i64 0) := by rw [hV.out]; exact box_cell _ _ _ 0
          have v1 : V.cell? ⟨wr.heap.size, 1, none⟩ = some (.int .i64 0) := by rw [hV.out]; exact box_cell _ _ _ 1
          have v2 : V.cell? ⟨wr.heap.size, 2, none⟩ = some (.int .i64 0) := by rw [hV.out]; exact box_cell _ _ _ 2
          have v3 : V.cell? ⟨wr.heap.size, 3, none⟩ = some .nilFunc := by rw [hV.out]; exact box_cell _ _ _ 3
          have v4 : V.cell? ⟨wr.heap.size, 4, none⟩ = some .nilFunc := by rw [hV.out]; exact box_cell _ _ _ 4
          clear hb
          go_upto_region 8 with fail
          rw [← hV.out]
          go_wp2_with ((go_at_call 23); (with_reducible refine (HK _).out.mono ?_); rintro e w1 ⟨rfl, hb1⟩; have HB1 : Hid (Below w.heap.size w w1) := Lib.hid (HBV.out.trans (hb1.mono HBV.out.size)); clear hb1)
          go_roundw
          case rel => exact ⟨k + 1, by omega, by go_num, rfl, HB1.out⟩
          case measure => simp [intOf]; omega
        · obtain rfl : k = 8 := by omega
          have HBE := Lib.hid hb
          clear hb
          go_wp2
          go_roundw
          case rel => exact ⟨q + 1, by omega, by go_num, rfl, HBE.out⟩
          case measure => simp [intOf]; omega
    · obtain rfl : q = 3 := by omega
      go_wp2
      go_ret
      exact ⟨rfl, hb⟩
theorem send_none (g : Nat) (m : Bool) (s t a : Int) (w : World) (h : BoxAt w g m s t a) :
    Calls Try.prog 21 #[.pointer (some ⟨g, 0, none⟩)] w fun e w' => e = .returned (.slice none 0 0) ∧ Below w.heap.size w w' := by
  have H0 := Lib.hid (due_none g m s t a w h)
  clear h
  go_enter Try.func21, Try.ntmps21
  go_wp2_with ((go_at_call 22); (with_reducible refine H0.out.mono ?_); rintro e w1 ⟨rfl, hb1⟩)
  refine wp_loop_rounds 1 ?_
  rw [rounds_succ]
  go_wp2
  go_ret
  exact ⟨rfl, hb1⟩
end Go.Proofs.Ytefciibkcafbiaa
