/- number: the number that stands at the cursor, or what is wrong with it. -/
import Derived.Test.YtnlohijpcnoamaaKCursor
namespace Go.Proofs.Ytnlohijpcnoamaa
open Go.RowKit
open Go.Lib (byteCells byteCells_length byteCells_append strCells strCells_eq)

/-- The number at the beginning of bytes, how many it takes, and the error's number: r bytes may still come, i have been read, worth n. -/
def uintR : Nat → Nat → Nat → List UInt8 → Nat × Nat × Int
  | 0, _, _, _ => (0, 0, 5)
  | _ + 1, _, _, [] => (0, 0, 2)
  | r + 1, i, n, x :: bs => if x.toNat = 0 ∧ 0 < i then (0, 0, 10) else if x.toNat < 128 then (n + x.toNat % 128 * 128 ^ i, i + 1, 0) else uintR r (i + 1) (n + x.toNat % 128 * 128 ^ i) bs
def uint (bs : List UInt8) : Nat × Nat × Int := uintR 9 0 0 bs

theorem setCell_self {w : World} {g o : Nat} {v : Value} (h : w.cell? ⟨g, o, none⟩ = some v) : w.setCell ⟨g, o, none⟩ v = w := by
  unfold World.setCell
  have hh : (w.heap.modify g fun | .cells c e f => .cells (c.setIfInBounds o v) e f | x => x) = w.heap := by
    apply Array.ext_getElem?
    intro i
    simp only [Array.getElem?_modify]
    by_cases hg : g = i
    · subst hg
      simp only [if_true]
      unfold World.cell? at h
      cases hx : w.heap[g]? with
      | none => rfl
      | some x =>
        rw [hx] at h
        cases x with
        | cells c e f =>
          simp at h
          simp
          apply Array.ext_getElem?
          intro j
          rw [Array.getElem?_setIfInBounds]
          split
          · rename_i ho
            subst ho
            split
            · rw [h]
            · rename_i hh
              rw [Array.getElem?_eq_none (by omega)]
          · rfl
        | _ => rfl
    · simp only [hg, if_false]
  first | exact congrArg (fun hp => { w with heap := hp }) hh | (rw [hh])

theorem AtIs.none_ {w : World} {g o : Nat} {x : Int} (h : w.cell? ⟨g, o, none⟩ = some (.int .i64 x)) (n : Nat) : AtIs w (w.drewN n) g o x := ⟨n, by rw [setCell_self h]⟩

theorem two_pow7 (k : Nat) : (2 : Nat) ^ (7 * k) = 128 ^ k := by rw [Nat.pow_mul]
theorem pow_le9 {k : Nat} (h : k ≤ 9) : 128 ^ k ≤ 9223372036854775808 := Nat.pow_le_pow_right (by decide) h

theorem or_step (n k d : Nat) (hn : n < 128 ^ k) (hk : k ≤ 8) (hd : d < 128) : bits .or .i64 (n : Int) (wrap64 ((d : Int) * 2 ^ (7 * k))) = ((n + d * 128 ^ k : Nat) : Int) := by
  have hp : d * 128 ^ k < 9223372036854775808 := by
    have h1 : d * 128 ^ k ≤ 127 * 128 ^ k := Nat.mul_le_mul_right _ (by omega)
    have h2 : 128 ^ (k + 1) ≤ 9223372036854775808 := pow_le9 (by omega)
    have h3 : 0 < 128 ^ k := Nat.pow_pos (by decide)
    rw [Nat.pow_succ] at h2
    omega
  have hn2 : n < 9223372036854775808 := Nat.lt_of_lt_of_le hn (pow_le9 (by omega))
  have e : ((d : Int) * 2 ^ (7 * k)) = ((d * 128 ^ k : Nat) : Int) := by
    rw [Int.natCast_mul, ← two_pow7, Int.natCast_pow]; rfl
  rw [e, show wrap64 ((d * 128 ^ k : Nat) : Int) = ((d * 128 ^ k : Nat) : Int) by unfold wrap64; omega, i64_or_nat n _ hn2 hp]
  congr 1
  rw [Nat.or_comm, nat_join (7 * k) (d * 128 ^ k) n (by rw [two_pow7]; exact Nat.mul_mod_left _ _) (by rw [two_pow7]; exact hn)]
  omega
theorem or_none (n k : Nat) (hn : n < 128 ^ k) (hk : k ≤ 8) : bits .or .i64 (n : Int) 0 = (n : Int) := by
  have hn2 : n < 9223372036854775808 := Nat.lt_of_lt_of_le hn (pow_le9 (by omega))
  have := i64_or_nat n 0 hn2 (by decide)
  rw [Nat.or_zero] at this
  exact this

theorem uintR_form (k n : Nat) (x : UInt8) (l : List UInt8) (hk : k < 9) (h : x.toNat = 0 ∧ 0 < k) : uintR (9 - k) k n (x :: l) = (0, 0, 10) := by
  obtain ⟨r, hr⟩ : ∃ r, 9 - k = r + 1 := ⟨8 - k, by omega⟩
  rw [hr]; simp only [uintR]; rw [if_pos h]
theorem uintR_last (k n : Nat) (x : UInt8) (l : List UInt8) (hk : k < 9) (h : ¬(x.toNat = 0 ∧ 0 < k)) (h2 : x.toNat < 128) : uintR (9 - k) k n (x :: l) = (n + x.toNat % 128 * 128 ^ k, k + 1, 0) := by
  obtain ⟨r, hr⟩ : ∃ r, 9 - k = r + 1 := ⟨8 - k, by omega⟩
  rw [hr]; simp only [uintR]; rw [if_neg h, if_pos h2]
theorem uintR_more (k n : Nat) (x : UInt8) (l : List UInt8) (hk : k < 9) (h2 : ¬ x.toNat < 128) : uintR (9 - k) k n (x :: l) = uintR (9 - (k + 1)) (k + 1) (n + x.toNat % 128 * 128 ^ k) l := by
  obtain ⟨r, hr⟩ : ∃ r, 9 - k = r + 1 := ⟨8 - k, by omega⟩
  rw [show 9 - (k + 1) = r by omega, hr]
  show (if x.toNat = 0 ∧ 0 < k then _ else if x.toNat < 128 then _ else _) = _
  rw [if_neg (fun hh => by omega), if_neg h2]
theorem uintR_nil (k n : Nat) (hk : k < 9) : uintR (9 - k) k n [] = (0, 0, 2) := by
  obtain ⟨r, hr⟩ : ∃ r, 9 - k = r + 1 := ⟨8 - k, by omega⟩
  rw [hr]; rfl
theorem sum_lt (n k d : Nat) (hn : n < 128 ^ k) (hd : d < 128) : n + d * 128 ^ k < 128 ^ (k + 1) := by
  have h1 : d * 128 ^ k ≤ 127 * 128 ^ k := Nat.mul_le_mul_right _ (by omega)
  rw [Nat.pow_succ]
  omega

/-- What a read comes to: the number, and how far the cursor has gone; or a panic with the error's number. -/
def NumPost (r : Nat × Nat × Int) (g o p len : Nat) (w : World) (e : Ending) (w' : World) : Prop :=
  (r.2.2 = 0 ∧ e = .returned (.int .i64 (r.1 : Int)) ∧ AtIs w w' g (o + 1) ((p + r.2.1 : Nat) : Int)) ∨ (r.2.2 ≠ 0 ∧ Gave r.2.2 e ∧ ∃ q : Nat, q ≤ len ∧ AtIs w w' g (o + 1) (q : Int))

set_option maxRecDepth 100000 in
set_option maxHeartbeats 3200000 in
theorem number_any (g o : Nat) (A : Option Addr) (c : Nat) (bs : List UInt8) (p lo hi : Nat) (w : World) (h : Cur w g o A c bs p) (hr : RdA w lo hi A bs) (hg : hi ≤ g ∨ g < lo) :
    Calls Try.prog 76 #[.pointer (some ⟨g, o, none⟩)] w (NumPost (uint (bs.drop p)) g o p bs.length w) := by
  go_enter Try.func76, Try.ntmps76
  go_wp2
  go_loopw [3, 6] (fun x i wr => ∃ (n k : Nat), k ≤ 9 ∧ i = .int .i64 (k : Int) ∧ x = .int .i64 (n : Int) ∧ n < 128 ^ k ∧ p + k ≤ bs.length ∧ uintR (9 - k) k n (bs.drop (p + k)) = uint (bs.drop p) ∧ AtIs w wr g (o + 1) ((p + k : Nat) : Int)) (fun _ i _ => 9 - (intOf i).toNat)
  case atStart => exact ⟨0, 0, by omega, rfl, rfl, by omega, h.le, rfl, AtIs.none_ (n := 0) h.at_⟩
  case round =>
    obtain ⟨n, k, hk, rfl, rfl, hn, hpk, hun, hat⟩ := hrel
    have hcur := h.moved hat hpk
    have HN := Lib.hid hn
    have HU := Lib.hid hun
    clear hn hun
    by_cases hk9 : k < 9
    · by_cases hend : p + k < bs.length
      · go_wp2_with fail
        refine (take_ok g o A c bs (p + k) 1 wr hcur (by omega)).mono ?_
        rintro e w1 ⟨A', rfl, hpc, hat1⟩
        have hrw : RdA w1 lo hi A bs := (hr.keep fun q h1 h2 => (World.cell?_of_block (hat.block (by omega)))).keep fun q h1 h2 => (World.cell?_of_block (hat1.block (by omega)))
        have hpr := hpc.rd (n := 1) hrw h.cap
        obtain ⟨x, hx⟩ : ∃ x, Hid ((bs.drop (p + k)) = x :: bs.drop (p + k + 1)) := ⟨bs[p + k], Lib.hid (by rw [List.drop_eq_getElem_cons hend])⟩
        rw [hx.out] at hpr
        obtain ⟨ad, rfl, hc1⟩ := hpr.at_ (k := 0) (by simp)
        have hc1' : w1.cell? ad = some (.int .u8 (x.toNat : Int)) := by
          have e : ad.add 0 = ad := by unfold Addr.add; simp
          rw [e] at hc1
          exact hc1
        clear hc1 hpr hpc hrw
        have hxb := byte_lt x
        have HT := Lib.hid (hat.trans hat1)
        have HR : Hid (uint (bs.drop p) = uintR (9 - k) k n (x :: bs.drop (p + k + 1))) := by rw [← hx.out]; exact HU.out.symm
        clear hat1
        by_cases hC : x.toNat < 128
        · by_cases hA : x.toNat = 0
          · by_cases hB : 0 < k
            · have e := Lib.hid (HR.out.trans (uintR_form k n x _ hk9 ⟨hA, hB⟩))
              have hA' : ((x.toNat : Int) == 0) = true := by simp [hA]
              clear HR
              go_wp2
              exact ⟨rfl, .inr ⟨by rw [e.out]; decide, by rw [e.out]; rfl, _, by omega, HT.out⟩⟩
            · obtain rfl : k = 0 := by omega
              have e := Lib.hid (HR.out.trans (uintR_last 0 n x _ hk9 (by omega) hC))
              have hv := Lib.hid (or_none n 0 HN.out (by omega))
              clear HR
              go_wp2
              go_ret
              exact .inl ⟨by rw [e.out], ret_int (by rw [e.out, hv.out]; simp [hA]), by rw [e.out]; exact HT.out⟩
          · have e := Lib.hid (HR.out.trans (uintR_last k n x _ hk9 (by omega) hC))
            have hv := Lib.hid (or_step n k (x.toNat % 128) HN.out (by omega) (by omega))
            clear HR
            go_wp2
            go_ret
            exact .inl ⟨by rw [e.out], ret_int (by rw [e.out]; exact hv.out), by rw [e.out]; exact HT.out⟩
        · have e := Lib.hid (HR.out.trans (uintR_more k n x _ hk9 hC))
          have hv := Lib.hid (or_step n k (x.toNat % 128) HN.out (by omega) (by omega))
          have hs := Lib.hid (sum_lt n k (x.toNat % 128) HN.out (by omega))
          clear HR
          go_wp2
          go_roundw
          case rel => exact ⟨_, k + 1, by omega, by go_num, val_int hv.out, hs.out, by omega, e.out.symm, HT.out⟩
          case measure => simp [intOf]; omega
      · go_wp2_with fail
        refine (take_short g o A c bs (p + k) 1 wr hcur (by omega)).mono ?_
        rintro e w1 ⟨rfl, j, rfl⟩
        have e2 : Hid (uint (bs.drop p) = (0, 0, 2)) := Lib.hid (by rw [← HU.out, List.drop_of_length_le (by omega)]; exact uintR_nil k n hk9)
        go_wp2
        exact ⟨rfl, .inr ⟨by rw [e2.out]; decide, by rw [e2.out]; rfl, _, hpk, hat.behind j⟩⟩
    · obtain rfl : k = 9 := by omega
      have e2 : Hid (uint (bs.drop p) = (0, 0, 5)) := Lib.hid (by rw [← HU.out]; rfl)
      go_wp2
      exact ⟨rfl, .inr ⟨by rw [e2.out]; decide, by rw [e2.out]; rfl, _, hpk, hat⟩⟩
end Go.Proofs.Ytnlohijpcnoamaa
