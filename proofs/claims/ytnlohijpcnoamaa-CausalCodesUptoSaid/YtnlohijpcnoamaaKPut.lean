/- Put, Text and what they call, of the program and of the document's own answers: their contracts. -/
import Derived.Test.YtnlohijpcnoamaaClone
namespace Go.Proofs.Ytnlohijpcnoamaa
open Go.RowKit
open Go.Lib (byteCells byteCells_length byteCells_append strCells strCells_eq)

/-- A number's form, of at most f + 1 bytes. -/
def numF : Nat → Nat → List UInt8
  | 0, n => [UInt8.ofNat n]
  | f + 1, n => if n < 128 then [UInt8.ofNat n] else UInt8.ofNat (n % 128 + 128) :: numF f (n / 128)
def num (n : Nat) : List UInt8 := numF 8 n

theorem numF_length (f : Nat) : ∀ n, (numF f n).length ≤ f + 1 := by
  induction f with
  | zero => intro n; simp [numF]
  | succ f ih => intro n; unfold numF; split <;> simp; exact ih _
theorem numF_pos (f : Nat) : ∀ n, 1 ≤ (numF f n).length := by
  cases f with
  | zero => intro n; simp [numF]
  | succ f => intro n; unfold numF; split <;> simp
theorem num_pos (n : Nat) : 1 ≤ (num n).length := numF_pos 8 n
theorem num_length (n : Nat) : (num n).length ≤ 9 := numF_length 8 n
theorem numF_last (f n : Nat) (h : n < 128) : numF f n = [UInt8.ofNat n] := by
  cases f with
  | zero => rfl
  | succ f => simp [numF, h]
theorem numF_more (f n : Nat) (h : ¬ n < 128) : numF (f + 1) n = UInt8.ofNat (n % 128 + 128) :: numF f (n / 128) := by simp [numF, h]

theorem u8_of (m : Nat) (h : m < 256) : ((UInt8.ofNat m).toNat : Int) = (m : Int) := by
  rw [UInt8.toNat_ofNat']; omega

/-- One byte in a cell reads as that byte. -/
theorem rdA_one {w : World} {ad : Addr} {X : Int} {b : UInt8} (hc : w.cell? ad = some (.int .u8 X)) (hX : X = (b.toNat : Int)) : RdA w 0 (ad.block + 1) (some ad) [b] := fun _ => by
  refine ⟨ad, rfl, Nat.zero_le _, Nat.lt_succ_self _, fun j u hu => ?_⟩
  cases j with
  | zero =>
    simp [byteCells] at hu
    subst hu; subst hX
    have : ad.add 0 = ad := by unfold Addr.add; simp
    rw [this]; exact hc
  | succ j => simp [byteCells] at hu

theorem own_alloc {w : World} {base : Nat} {v : Value} {bs : List UInt8} (h : Own w base v bs) (o : Obj) : Own (w.alloc o) base v bs := World.ownsRow.alloc h o

set_option maxHeartbeats 800000 in
theorem copied_any (v : Value) (bs : List UInt8) (r : Int) (w : World) (h : Rd w 0 w.heap.size v bs) (hl : bs.length ≤ 1099511627776) (h0 : 0 ≤ r) (hr : r ≤ 1099511627776) :
    Calls Try.prog 28 #[v, .int .i64 r] w (Gives bs w) := by
  obtain ⟨A, c, rfl, hc, hx⟩ := h
  obtain ⟨i0, hi0, hz0, hz1, hz2⟩ := info_parts info5
  go_enter Try.func28, Try.ntmps28
  go_wp2_with (at_make; refine wpList_make_own _ rfl _ _ _ rfl w.heap.size 5 i0 _ 1 Try.underlying26 hi0 hz0 hz1 .i64 .i64 _ (bs.length + r.toNat) rfl rfl ?_ ?_ ?_ ?_ ?_)
  case _ => simp; omega
  case _ => rw [hz2]; omega
  case _ => simp only [maxLen]; omega
  case _ => exact Nat.le_refl _
  intro w1 hown1 hg1
  have hx' : RdA w1 0 w.heap.size A bs := hx.keep fun p _ hp => World.cell?_of_block (hg1.block _ hp (by simp))
  have hown1' : Own w1 w.heap.size (.slice (some ⟨w.heap.size, 0, none⟩) 0 (bs.length + r.toNat)) [] := hown1
  have hb1 : Below w.heap.size w w1 := (Below.refl _ _).grown hg1 (Nat.le_refl _) (by simp)
  clear hown1
  go_wp2_with (at_builtin; refine wpList_append_rd _ rfl (.tmp 9) (.tmp 10) rfl rfl hown1' rfl rfl hx' ?_ ?_ ?_)
  case _ => simp; omega
  case _ => exact hb1.size
  intro v2 w2 hown2 hg2 hat2
  go_wp2
  go_ret
  exact ⟨_, rfl, by simpa using hown2, hb1.grown hg2 hb1.size (by simp [Value.ownBlock])⟩

/-- The value that comes back is the call's own; below base nothing has turned. -/
def Puts (base : Nat) (bs : List UInt8) (w : World) (e : Ending) (w' : World) : Prop := ∃ v, e = .returned v ∧ Own w' base v bs ∧ Below base w w'

set_option maxRecDepth 100000 in
set_option maxHeartbeats 1600000 in
theorem putNumber_nat (base : Nat) (v : Value) (bs : List UInt8) (n : Nat) (w : World) (h : Own w base v bs) (hb : base ≤ w.heap.size) (hl : bs.length ≤ 1099511627776) (hn : n ≤ 9223372036854775807) :
    Calls Try.prog 63 #[v, .int .i64 (n : Int)] w (Puts base (bs ++ num n) w) := by
  go_enter Try.func63, Try.ntmps63
  go_wp2
  go_loopw [0, 1] (fun x y wr => ∃ (m f : Nat) (cs : List UInt8), y = .int .i64 (m : Int) ∧ m < 128 ^ (f + 1) ∧ m ≤ 9223372036854775807 ∧ Own wr base x cs ∧ cs ++ numF f m = bs ++ num n ∧ Below base w wr ∧ cs.length + f ≤ 1099511627790) (fun _ y _ => (intOf y).toNat)
  case atStart => exact ⟨n, 8, bs, rfl, by omega, hn, h, rfl, Below.refl _ _, by omega⟩
  case round =>
    obtain ⟨m, f, cs, rfl, hm, hm2, hown, heq, hbel, hcl⟩ := hrel
    have hbs : base ≤ wr.heap.size := Nat.le_trans hb hbel.size
    have HE := Lib.hid heq
    have HM := Lib.hid hm
    clear heq h hn hm
    by_cases hlt : m < 128
    · go_wp2_with (at_builtin; refine wpList_append_rd _ rfl (.tmp 18) (.tmp 21) rfl rfl (own_alloc hown _) (ys := [UInt8.ofNat m]) rfl rfl (rdA_one (World.cell?_alloc_at _ _ _ _ rfl) ?_) ?_ ?_ ?_)
      case _ => exact (u8_of m (by omega)).symm
      case _ => simp; omega
      case _ => simp; omega
      intro v1 w1 hown1 hg1 hat1
      go_wp2
      go_ret
      exact ⟨_, rfl, by rw [← HE.out, numF_last _ _ hlt]; exact hown1, (hbel.alloc hbs _).grown hg1 (by simp; omega) (fun k hk => (hown.lt k hk).1)⟩
    · have hmod : m % 128 + 128 < 256 := by omega
      obtain ⟨b, HB⟩ : ∃ b : UInt8, Hid (b = UInt8.ofNat (m % 128 + 128)) := ⟨_, rfl⟩
      go_wp2_with (at_builtin; refine wpList_append_rd _ rfl (.tmp 9) (.tmp 14) rfl rfl (own_alloc hown _) (ys := [b]) rfl rfl (rdA_one (World.cell?_alloc_at _ _ _ _ rfl) ?_) ?_ ?_ ?_)
      case _ => rw [HB.out, u8_of _ hmod]; go_num
      case _ => simp; omega
      case _ => simp; omega
      intro v1 w1 hown1 hg1 hat1
      go_wp2
      go_roundw
      case rel =>
        cases f with
        | zero => exact absurd HM.out (by simp; omega)
        | succ f => exact ⟨m / 128, f, cs ++ [b], by go_num, by have := HM.out; rw [Nat.pow_succ] at this; omega, by omega, hown1, by rw [← HE.out, numF_more _ _ hlt, HB.out]; simp, (hbel.alloc hbs _).grown hg1 (by simp; omega) (fun k hk => (hown.lt k hk).1), by simp; omega⟩
      case measure => simp [intOf]; omega

set_option maxHeartbeats 800000 in
theorem putNumber_neg (base : Nat) (v : Value) (bs : List UInt8) (n : Int) (w : World) (h : Own w base v bs) (hb : base ≤ w.heap.size) (hl : bs.length ≤ 1099511627776) (hn : n < 0) :
    Calls Try.prog 63 #[v, .int .i64 n] w (Puts base (bs ++ [0]) w) := by
  go_enter Try.func63, Try.ntmps63
  go_wp2
  refine wp_loop_rounds 1 ?_
  rw [rounds_succ]
  go_wp2_with (at_builtin; refine wpList_append_rd _ rfl (.tmp 18) (.tmp 21) rfl rfl (own_alloc h _) (ys := [0]) rfl rfl (rdA_one (World.cell?_alloc_at _ _ _ _ rfl) ?_) ?_ ?_ ?_)
  case _ => rfl
  case _ => simp; omega
  case _ => simp; omega
  intro v1 w1 hown1 hg1 hat1
  go_wp2
  go_ret
  exact ⟨_, rfl, hown1, ((Below.refl _ _).alloc hb _).grown hg1 (by simp; omega) (fun k hk => (h.lt k hk).1)⟩

theorem putNumber_any (base : Nat) (v : Value) (bs : List UInt8) (n : Int) (w : World) (h : Own w base v bs) (hb : base ≤ w.heap.size) (hl : bs.length ≤ 1099511627776) (hn : n ≤ 9223372036854775807) :
    Calls Try.prog 63 #[v, .int .i64 n] w (Puts base (bs ++ num n.toNat) w) := by
  by_cases h0 : n < 0
  · have e : num n.toNat = [0] := by rw [show n.toNat = 0 by omega]; rfl
    rw [e]
    exact putNumber_neg base v bs n w h hb hl h0
  · obtain ⟨m, rfl⟩ := Int.eq_ofNat_of_zero_le (by omega : 0 ≤ n)
    exact putNumber_nat base v bs m w h hb hl (by omega)

/-- What comes from a call made later is the call's own, too. -/
theorem Gives.of {bs : List UInt8} {w w1 : World} {e : Ending} {w' : World} (hb : Below w.heap.size w w1) (h : Puts w.heap.size bs w1 e w') : Gives bs w e w' := by
  obtain ⟨v, he, ho, hb2⟩ := h
  exact ⟨v, he, ho, hb.trans hb2⟩

set_option maxHeartbeats 400000 in
theorem put_any (v : Value) (bs : List UInt8) (n : Int) (w : World) (h : Rd w 0 w.heap.size v bs) (hl : bs.length ≤ 1099511627776) (hn : n ≤ 9223372036854775807) :
    Calls Try.prog 42 #[v, .int .i64 n] w (Gives (bs ++ num n.toNat) w) := by
  go_enter Try.func42, Try.ntmps42
  go_wp2_with fail
  refine (copied_any v bs 9 w h hl (by omega) (by omega)).mono ?_
  rintro e w1 ⟨v1, rfl, hown1, hb1⟩
  go_wp2_with fail
  refine (putNumber_any w.heap.size v1 bs n w1 hown1 hb1.size hl hn).mono ?_
  rintro e w2 ⟨v2, rfl, hown2, hb2⟩
  go_wp2
  go_ret
  exact ⟨_, rfl, hown2, hb1.trans hb2⟩

set_option maxRecDepth 100000 in
set_option maxHeartbeats 1600000 in
theorem refPut_nat (v : Value) (bs : List UInt8) (n : Nat) (w : World) (h : Rd w 0 w.heap.size v bs) (hl : bs.length ≤ 1099511627776) (hn : n ≤ 9223372036854775807) :
    Calls Try.prog 27 #[v, .int .i64 (n : Int)] w (Gives (bs ++ num n) w) := by
  obtain ⟨A, c, rfl, hc, hx⟩ := h
  have hown0 : Own (w.alloc (.cells #[] 5)) w.heap.size (.slice (some ⟨w.heap.size, 0, none⟩) 0 0) [] := World.ownsRow_made w #[] 0 (Nat.le_refl _) (by decide) (by simp)
  have hx' : RdA (w.alloc (.cells #[] 5)) 0 w.heap.size A bs := hx.keep fun p _ hp => World.cell?_alloc_lt w _ p hp
  go_enter Try.func27, Try.ntmps27
  go_wp2_with (at_builtin; refine wpList_append_rd _ rfl (.tmp 6) (.tmp 7) rfl rfl hown0 rfl rfl hx' ?_ ?_ ?_)
  case _ => simp; omega
  case _ => simp
  intro v1 w1 hown1 hg1 hat1
  have hb1 : Below w.heap.size w w1 := ((Below.refl _ _).alloc (Nat.le_refl _) _).grown hg1 (by simp) (by simp [Value.ownBlock])
  clear hown0 hx' hx hg1 hat1
  go_wp2
  go_loopw [5, 1] (fun x y wr => ∃ (m f : Nat) (cs : List UInt8), y = .int .i64 (m : Int) ∧ m < 128 ^ (f + 1) ∧ m ≤ 9223372036854775807 ∧ Own wr w.heap.size x cs ∧ cs ++ numF f m = bs ++ num n ∧ Below w.heap.size w wr ∧ cs.length + f ≤ 1099511627790) (fun _ y _ => (intOf y).toNat)
  case atStart => exact ⟨n, 8, bs, rfl, by omega, hn, by simpa using hown1, rfl, hb1, by omega⟩
  case round =>
    obtain ⟨m, f, cs, rfl, hm, hm2, hown, heq, hbel, hcl⟩ := hrel
    have hbs : w.heap.size ≤ wr.heap.size := hbel.size
    have HE := Lib.hid heq
    have HM := Lib.hid hm
    clear heq hn hm hown1
    by_cases hlt : m < 128
    · go_wp2_with (at_builtin; refine wpList_append_rd _ rfl (.tmp 22) (.tmp 25) rfl rfl (own_alloc hown _) (ys := [UInt8.ofNat m]) rfl rfl (rdA_one (World.cell?_alloc_at _ _ _ _ rfl) ?_) ?_ ?_ ?_)
      case _ => exact (u8_of m (by omega)).symm
      case _ => simp; omega
      case _ => simp; omega
      intro v1 w1 hown1 hg1 hat1
      go_wp2
      go_ret
      exact ⟨_, rfl, by rw [← HE.out, numF_last _ _ hlt]; exact hown1, (hbel.alloc hbs _).grown hg1 (by simp; omega) (fun k hk => (hown.lt k hk).1)⟩
    · have hmod : m % 128 + 128 < 256 := by omega
      obtain ⟨b, HB⟩ : ∃ b : UInt8, Hid (b = UInt8.ofNat (m % 128 + 128)) := ⟨_, rfl⟩
      go_wp2_with (at_builtin; refine wpList_append_rd _ rfl (.tmp 13) (.tmp 18) rfl rfl (own_alloc hown _) (ys := [b]) rfl rfl (rdA_one (World.cell?_alloc_at _ _ _ _ rfl) ?_) ?_ ?_ ?_)
      case _ => rw [HB.out, u8_of _ hmod]; go_num
      case _ => simp; omega
      case _ => simp; omega
      intro v1 w1 hown1 hg1 hat1
      go_wp2
      go_roundw
      case rel =>
        cases f with
        | zero => exact absurd HM.out (by simp; omega)
        | succ f => exact ⟨m / 128, f, cs ++ [b], by go_num, by have := HM.out; rw [Nat.pow_succ] at this; omega, by omega, hown1, by rw [← HE.out, numF_more _ _ hlt, HB.out]; simp, (hbel.alloc hbs _).grown hg1 (by simp; omega) (fun k hk => (hown.lt k hk).1), by simp; omega⟩
      case measure => simp [intOf]; omega

set_option maxHeartbeats 800000 in
theorem refPut_neg (v : Value) (bs : List UInt8) (n : Int) (w : World) (h : Rd w 0 w.heap.size v bs) (hl : bs.length ≤ 1099511627776) (hn : n < 0) :
    Calls Try.prog 27 #[v, .int .i64 n] w (Gives (bs ++ [0]) w) := by
  obtain ⟨A, c, rfl, hc, hx⟩ := h
  have hown0 : Own (w.alloc (.cells #[] 5)) w.heap.size (.slice (some ⟨w.heap.size, 0, none⟩) 0 0) [] := World.ownsRow_made w #[] 0 (Nat.le_refl _) (by decide) (by simp)
  have hx' : RdA (w.alloc (.cells #[] 5)) 0 w.heap.size A bs := hx.keep fun p _ hp => World.cell?_alloc_lt w _ p hp
  go_enter Try.func27, Try.ntmps27
  go_wp2_with (at_builtin; refine wpList_append_rd _ rfl (.tmp 6) (.tmp 7) rfl rfl hown0 rfl rfl hx' ?_ ?_ ?_)
  case _ => simp; omega
  case _ => simp
  intro v1 w1 hown1 hg1 hat1
  have hb1 : Below w.heap.size w w1 := ((Below.refl _ _).alloc (Nat.le_refl _) _).grown hg1 (by simp) (by simp [Value.ownBlock])
  clear hown0 hx' hx hg1 hat1
  go_wp2
  refine wp_loop_rounds 1 ?_
  rw [rounds_succ]
  go_wp2_with (at_builtin; refine wpList_append_rd _ rfl (.tmp 22) (.tmp 25) rfl rfl (own_alloc hown1 _) (ys := [0]) rfl rfl (rdA_one (World.cell?_alloc_at _ _ _ _ rfl) ?_) ?_ ?_ ?_)
  case _ => rfl
  case _ => simp; omega
  case _ => simp; exact Nat.le_succ_of_le hb1.size
  intro v2 w2 hown2 hg2 hat2
  go_wp2
  go_ret
  exact ⟨_, rfl, by simpa using hown2, (hb1.alloc hb1.size _).grown hg2 (by simp; exact Nat.le_succ_of_le hb1.size) (fun k hk => (hown1.lt k hk).1)⟩

theorem refPut_any (v : Value) (bs : List UInt8) (n : Int) (w : World) (h : Rd w 0 w.heap.size v bs) (hl : bs.length ≤ 1099511627776) (hn : n ≤ 9223372036854775807) :
    Calls Try.prog 27 #[v, .int .i64 n] w (Gives (bs ++ num n.toNat) w) := by
  by_cases h0 : n < 0
  · have e : num n.toNat = [0] := by rw [show n.toNat = 0 by omega]; rfl
    rw [e]
    exact refPut_neg v bs n w h hl h0
  · obtain ⟨m, rfl⟩ := Int.eq_ofNat_of_zero_le (by omega : 0 ≤ n)
    exact refPut_nat v bs m w h hl (by omega)
end Go.Proofs.Ytnlohijpcnoamaa
