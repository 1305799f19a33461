/- Frame of the program and of the document's own answer, sumForm, bytes.Equal: their contracts. -/
import Derived.Test.YtnehchlfoidmdaaSum
import Derived.Laws.IdiomStrings
namespace Go.Proofs.Ytnehchlfoidmdaa
open Go.RowKit
open Go.Lib (byteCells byteCells_length byteCells_append strCells strCells_eq)

/-- A sum in four bytes, the lowest first. -/
def sumBytes (s : Nat) : List UInt8 := [UInt8.ofNat s, UInt8.ofNat (s / 256), UInt8.ofNat (s / 65536), UInt8.ofNat (s / 16777216)]
def frameOf (bs : List UInt8) : List UInt8 := num bs.length ++ bs ++ sumBytes (crc bs)

theorem u8_wrap (s : Nat) : IntKind.u8.wrap (s : Int) = ((UInt8.ofNat s).toNat : Int) := by
  rw [UInt8.toNat_ofNat', IntKind.wrap_u8]; omega

set_option maxHeartbeats 800000 in
theorem sumForm_any (v : Value) (bs : List UInt8) (w : World) (h : Rd w 0 w.heap.size v bs) (hl : bs.length ≤ 1099511627776) :
    Calls Try.prog 35 #[v] w (Gives (sumBytes (crc bs)) w) := by
  have hlt := crc_lt bs
  go_enter Try.func35, Try.ntmps35
  go_wp2_with fail
  refine (sum_any v bs _ _ w h hl).mono ?_
  rintro e w1 ⟨rfl, rfl⟩
  obtain ⟨s, hs⟩ : ∃ s, Hid (s = crc bs) := ⟨_, Lib.hid rfl⟩
  rw [← hs.out] at hlt ⊢
  go_wp2
  go_ret
  rw [← hs.out]
  refine ⟨_, rfl, ?_, (Below.refl _ _).alloc (Nat.le_refl _) _⟩
  have h0 := World.ownsRow_lit (e := 5) (size := 1) (base := w.heap.size) w (byteCells (sumBytes s)).toArray 4 (Nat.le_refl _) (by decide) (by simp [byteCells, sumBytes])
  have e : (byteCells (sumBytes s)).toArray = #[Value.int IntKind.u8 (s % 256), Value.int IntKind.u8 (s / 256 % 256), Value.int IntKind.u8 (s / 65536 % 256), Value.int IntKind.u8 (s / 16777216)] := by
    have e0 : ((UInt8.ofNat s).toNat : Int) = (s : Int) % 256 := by rw [UInt8.toNat_ofNat']; omega
    have e1 : ((UInt8.ofNat (s / 256)).toNat : Int) = (s : Int) / 256 % 256 := by rw [UInt8.toNat_ofNat']; omega
    have e2 : ((UInt8.ofNat (s / 65536)).toNat : Int) = (s : Int) / 65536 % 256 := by rw [UInt8.toNat_ofNat']; omega
    have e3 : ((UInt8.ofNat (s / 16777216)).toNat : Int) = (s : Int) / 16777216 := by rw [UInt8.toNat_ofNat']; omega
    simp only [byteCells, sumBytes, List.map_cons, List.map_nil, e0, e1, e2, e3]
  rw [e] at h0
  have e2 : (#[Value.int IntKind.u8 (s % 256), Value.int IntKind.u8 (s / 256 % 256), Value.int IntKind.u8 (s / 65536 % 256), Value.int IntKind.u8 (s / 16777216)] : Array Value).toList = byteCells (sumBytes s) := by rw [← e]
  rw [e2] at h0
  exact h0

theorem convert_rd {A : Option Addr} {c lo hi : Nat} {bs : List UInt8} {w : World} (h : RdA w lo hi A bs) : (convert 22 9 (.slice A bs.length c)).run Try.prog w = .ok (.string ⟨bs.toArray⟩) w := by
  by_cases h0 : bs = []
  · subst h0
    cases A with
    | none => rw [show ([] : List UInt8).length = 0 from rfl, run_convert_bytes_string w _ _ 5 none 0 c Try.underlying22 Try.underlying5 Try.underlying9]; rfl
    | some ad => exact run_convert_bytes_back (P := Try.prog) w _ _ 5 ad c [] Try.underlying22 Try.underlying5 Try.underlying9 (fun j hj => absurd hj (by simp))
  · obtain ⟨ad, rfl, _, _, hc⟩ := h (List.length_pos_iff.2 h0)
    exact run_convert_bytes_back (P := Try.prog) w _ _ 5 ad c bs Try.underlying22 Try.underlying5 Try.underlying9 (fun j hj => hc j _ (byteCells_at bs j hj))

set_option maxHeartbeats 800000 in
theorem equalB_any (v1 v2 : Value) (xs ys : List UInt8) (lo1 hi1 lo2 hi2 : Nat) (w : World) (h1 : Rd w lo1 hi1 v1 xs) (h2 : Rd w lo2 hi2 v2 ys) :
    Calls Try.prog 49 #[v1, v2] w fun e w' => e = .returned (.bool (xs == ys)) ∧ ∃ n, w' = w.drewN n := by
  obtain ⟨A, c, rfl, hc, hx⟩ := h1
  obtain ⟨B, d, rfl, hd, hy⟩ := h2
  have e1 := convert_rd (c := c) hx
  have e2 := convert_rd (c := d) hy
  go_enter Try.func49, Try.ntmps49
  go_wp2
  go_ret
  exact ⟨rfl, 0, rfl⟩

/-- What Frame comes to. -/
def FramePost (bs : List UInt8) (w : World) (e : Ending) (w' : World) : Prop :=
  (65536 < bs.length ∧ e = .returned (.tuple #[.slice none 0 0, .int .i64 4]) ∧ Below w.heap.size w w') ∨
  (bs.length ≤ 65536 ∧ ∃ v, e = .returned (.tuple #[v, .int .i64 0]) ∧ Own w' w.heap.size v (frameOf bs) ∧ Below w.heap.size w w')

set_option maxHeartbeats 1600000 in
theorem frame_any (v : Value) (bs : List UInt8) (w : World) (h : Rd w 0 w.heap.size v bs) (hl : bs.length ≤ 1099511627776) :
    Calls Try.prog 18 #[v] w (FramePost bs w) := by
  obtain ⟨i0, hi0, hz0, hz1, hz2⟩ := info_parts info5
  have h0 := h
  have hnl := num_length bs.length
  obtain ⟨A, c, rfl, hc, hx⟩ := h
  by_cases hbig : 65536 < bs.length
  · go_enter Try.func18, Try.ntmps18
    go_wp2
    go_ret2
    exact .inl ⟨hbig, rfl, Below.refl _ _⟩
  · go_enter Try.func18, Try.ntmps18
    go_wp2_with (at_make; refine wpList_make_own _ rfl _ _ _ rfl w.heap.size 5 i0 _ 1 Try.underlying22 hi0 hz0 hz1 .i64 .i64 _ (9 + bs.length + 4) rfl rfl ?_ ?_ ?_ ?_ ?_)
    case _ => simp
    case _ => rw [hz2]; omega
    case _ => simp only [maxLen]; omega
    case _ => exact Nat.le_refl _
    intro w1 hown1 hg1
    have hb1 : Below w.heap.size w w1 := (Below.refl _ _).grown hg1 (Nat.le_refl _) (by simp)
    have hown1' : Own w1 w.heap.size (.slice (some ⟨w.heap.size, 0, none⟩) 0 (9 + bs.length + 4)) [] := hown1
    clear hown1
    go_wp2_with fail
    refine (putNumber_any w.heap.size _ [] _ w1 hown1' hb1.size (by simp) (by omega)).mono ?_
    rintro e w2 ⟨v2, rfl, hown2, hb2⟩
    have hb02 := hb1.trans hb2
    have hx2 : RdA w2 0 w.heap.size A bs := hx.keep fun p _ hp => hb02.cell hp
    go_wp2_with (at_builtin; refine wpList_append_rd _ rfl (.tmp 16) (.tmp 17) rfl rfl hown2 rfl rfl hx2 ?_ hb02.size ?_)
    case _ => simp; omega
    intro v3 w3 hown3 hg3 hat3
    have hb03 := hb02.grown hg3 hb02.size (fun k hk => (hown2.lt k hk).1)
    go_wp2_with fail
    refine (sumForm_any _ bs w3 ((h0.below hb03 (Nat.le_refl _)).mono (Nat.le_refl _) hb03.size) hl).mono ?_
    rintro e w4 ⟨v4, rfl, hown4, hb4⟩
    obtain ⟨B, d, rfl, hd, hy⟩ := hown4.rd
    have hown3' := hown3.below hb4
    have hb04 := hb03.trans (hb4.mono hb03.size)
    go_wp2_with (at_builtin; refine wpList_append_rd _ rfl (.tmp 19) (.tmp 21) rfl rfl hown3' rfl rfl hy ?_ hb04.size ?_)
    case _ => simp [sumBytes]; omega
    intro v5 w5 hown5 hg5 hat5
    go_wp2
    go_ret2
    exact .inr ⟨by omega, _, rfl, by simpa [frameOf] using hown5, hb04.grown hg5 hb04.size (fun k hk => (hown3'.lt k hk).1)⟩
end Go.Proofs.Ytnehchlfoidmdaa
