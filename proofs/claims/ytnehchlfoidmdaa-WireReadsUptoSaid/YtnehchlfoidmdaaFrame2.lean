/- Frame of the document's own answer. -/
import Derived.Test.YtnehchlfoidmdaaFrame
namespace Go.Proofs.Ytnehchlfoidmdaa
open Go.RowKit
open Go.Lib (byteCells byteCells_length byteCells_append strCells strCells_eq)

def sumF : Nat → Nat → List UInt8
  | 0, _ => []
  | k + 1, s => UInt8.ofNat s :: sumF k (s / 256)
theorem sumF_four (s : Nat) : sumF 4 s = sumBytes s := by
  simp only [sumF, sumBytes]
  rw [Nat.div_div_eq_div_mul, Nat.div_div_eq_div_mul]

theorem rd_nil (w : World) (lo hi : Nat) : Rd w lo hi (.slice none 0 0) [] := ⟨none, 0, rfl, Nat.le_refl _, fun h => by simp at h⟩

set_option maxRecDepth 100000 in
set_option maxHeartbeats 3200000 in
theorem refFrame_any (v : Value) (bs : List UInt8) (w : World) (h : Rd w 0 w.heap.size v bs) (hl : bs.length ≤ 1099511627776) :
    Calls Try.prog 19 #[v] w (FramePost bs w) := by
  have h0 := h
  have hnl := num_length bs.length
  have hcl := crc_lt bs
  obtain ⟨A, c, rfl, hc, hx⟩ := h
  by_cases hbig : 65536 < bs.length
  · go_enter Try.func19, Try.ntmps19
    go_wp2
    go_ret2
    exact .inl ⟨hbig, rfl, Below.refl _ _⟩
  · go_enter Try.func19, Try.ntmps19
    go_wp2_with fail
    refine (refPut_any _ [] _ w (rd_nil w 0 _) (by simp) (by omega)).mono ?_
    rintro e w2 ⟨v2, rfl, hown2, hb02⟩
    have hx2 : RdA w2 0 w.heap.size A bs := hx.keep fun p _ hp => hb02.cell hp
    go_wp2_with (at_builtin; refine wpList_append_rd _ rfl (.tmp 11) (.tmp 12) rfl rfl hown2 rfl rfl hx2 ?_ hb02.size ?_)
    case _ => simp; omega
    intro v3 w3 hown3 hg3 hat3
    have hb03 := hb02.grown hg3 hb02.size (fun k hk => (hown2.lt k hk).1)
    go_wp2_with fail
    refine (refSum_any _ bs _ _ w3 (h0.below hb03 (Nat.le_refl _)) hl).mono ?_
    rintro e w4 ⟨rfl, rfl⟩
    obtain ⟨xs, hxs⟩ : ∃ xs, Hid (xs = num bs.length ++ bs) := ⟨_, Lib.hid rfl⟩
    have hown3' : Own w3 w.heap.size v3 xs := by rw [hxs.out]; simpa using hown3
    have hxl : xs.length ≤ 1099511627790 := by rw [hxs.out]; simp; omega
    obtain ⟨s, hs⟩ : ∃ s, Hid (s = crc bs) := ⟨_, Lib.hid rfl⟩
    rw [← hs.out] at hcl ⊢
    clear hown3 hown2 hx2 hx hg3 hat3 hb02
    go_wp2_with fail
    go_loopw [4, 5, 16] (fun x y i wr => ∃ (k s' : Nat) (cs : List UInt8), k ≤ 4 ∧ i = .int .i64 (k : Int) ∧ y = .int .i64 (s' : Int) ∧ s' < 4294967296 ∧ Own wr w.heap.size x cs ∧ cs ++ sumF (4 - k) s' = xs ++ sumBytes s ∧ Below w.heap.size w wr ∧ cs.length ≤ xs.length + k) (fun _ _ i _ => 4 - (intOf i).toNat)
    case atStart => exact ⟨0, s, xs, by omega, rfl, rfl, hcl, hown3', by rw [sumF_four], hb03, by omega⟩
    case round =>
      obtain ⟨k, s', cs, hk, rfl, rfl, hsl, hown, heq, hbel, hcl2⟩ := hrel
      have hbs : w.heap.size ≤ wr.heap.size := hbel.size
      have HE := Lib.hid heq
      clear heq hown3'
      by_cases hlt : k < 4
      · obtain ⟨b, HB⟩ : ∃ b : UInt8, Hid (b = UInt8.ofNat s') := ⟨_, Lib.hid rfl⟩
        go_wp2_with (at_builtin; refine wpList_append_rd _ rfl (.tmp 18) (.tmp 22) rfl rfl (own_alloc hown _) (ys := [b]) rfl rfl (rdA_one (World.cell?_alloc_at _ _ _ _ rfl) ?_) ?_ ?_ ?_)
        case _ => rw [HB.out, UInt8.toNat_ofNat']; simp
        case _ => simp; omega
        case _ => simp; omega
        intro v1 w1 hown1 hg1 hat1
        go_wp2
        go_roundw
        case rel => exact ⟨k + 1, s' / 256, cs ++ [b], by omega, by go_num, by go_num, by omega, hown1, by rw [← HE.out, HB.out]; obtain ⟨j, hj⟩ : ∃ j, 4 - k = j + 1 := ⟨3 - k, by omega⟩; rw [hj, show 4 - (k + 1) = j by omega]; simp [sumF], (hbel.alloc hbs _).grown hg1 (by simp; omega) (fun k hk => (hown.lt k hk).1), by simp; omega⟩
        case measure => simp [intOf]; omega
      · obtain rfl : k = 4 := by omega
        go_wp2
        go_ret2
        refine .inr ⟨by omega, _, rfl, ?_, hbel⟩
        have e : cs = frameOf bs := by
          have := HE.out
          rw [hxs.out, hs.out] at this
          simpa [sumF, frameOf] using this
        rw [← e]
        exact hown
end Go.Proofs.Ytnehchlfoidmdaa
