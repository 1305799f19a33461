/- The walk of WirePuts. -/
import Derived.Test.YtnehchlfoidmdaaSum
namespace Go.Proofs.Ytnehchlfoidmdaa
open Go.RowKit
open Go.Lib (byteCells byteCells_length byteCells_append strCells strCells_eq)

theorem add_lit (g k : Nat) : (⟨g, 0, none⟩ : Addr).add k = ⟨g, k, none⟩ := by unfold Addr.add; split <;> simp_all

/-- A byte of a slice of the call's own is written over: it is still one of the call's own, of as many bytes. -/
theorem Own.set_ {w : World} {base g n cap : Nat} {bs : List UInt8} (h : Own w base (.slice (some ⟨g, 0, none⟩) n cap) bs) (k : Nat) {z : Int} {b : UInt8} (hz : z = (b.toNat : Int)) :
    Own (w.setCell ⟨g, k, none⟩ (.int .u8 z)) base (.slice (some ⟨g, 0, none⟩) n cap) (bs.set k b) := by
  have hn : n = bs.length := by
    rcases h.2 with ⟨e, _⟩ | ⟨g', cap', cur, e, _⟩
    · cases e
    · injection e
  subst hn
  have h1 := World.ownsRow.stored h k (.int .u8 z)
  subst hz
  unfold Own
  have e : byteCells (bs.set k b) = (byteCells bs).set k (.int .u8 (b.toNat : Int)) := by simp [byteCells, List.map_set]
  rw [e, List.length_set]
  exact h1.1
theorem xor_byte (x y : UInt8) : bits .xor .u8 (x.toNat : Int) (y.toNat : Int) = ((x ^^^ y).toNat : Int) := by
  rw [u8_xor_nat _ _ (byte_lt x) (byte_lt y), UInt8.toNat_xor]

theorem grownBy_set {w0 w : World} {g : Nat} (h : w0.grownBy w (some g)) (k : Nat) (u : Value) : w0.grownBy (w.setCell ⟨g, k, none⟩ u) (some g) :=
  ⟨h.os, h.tape, h.output, by simpa [World.setCell] using h.size, fun i hi hne => (Below.heap_setCell w ⟨g, k, none⟩ u i (fun e => hne (by rw [e]))).trans (h.block i hi hne)⟩

set_option maxRecDepth 100000 in
set_option maxHeartbeats 3200000 in
theorem puts_walk (v : Value) (bs : List UInt8) (n : Int) (t : ByteArray) (w : World) (h : Rd w 0 w.heap.size v bs) (hl : bs.length ≤ 1099511627776) (ht : t.size ≤ 549755813888) (hn : n ≤ 9223372036854775807) :
    Calls Try.prog 3 #[v, .int .i64 n, .string t] w fun e w' => e = .returned (.bool true) ∧ Below w.heap.size w w' := by
  have hnl := num_length n.toNat
  have htl := num_length t.size
  have hnp := num_pos n.toNat
  obtain ⟨xs, hxs⟩ : ∃ xs, Hid (xs = bs ++ num n.toNat) := ⟨_, Lib.hid rfl⟩
  obtain ⟨ys, hys⟩ : ∃ ys, Hid (ys = bs ++ num t.size ++ t.data.toList) := ⟨_, Lib.hid rfl⟩
  have hxl : xs.length ≤ 1099511627790 := by rw [hxs.out]; simp; omega
  have hxp : 0 < xs.length := by rw [hxs.out]; simp; omega
  have hyl : ys.length ≤ 2199023255552 := by rw [hys.out]; simp only [List.length_append, size_list]; omega
  go_enter Try.func3, Try.ntmps3
  go_wp2_with fail
  refine (clone_any v bs w h (by omega)).mono ?_
  rintro e w1 ⟨v1, rfl, hown1, hb1⟩
  have r1 : Rd w1 w.heap.size w1.heap.size v1 bs := hown1.rd
  go_wp2_with fail
  refine (put_any v1 bs n w1 (r1.mono (Nat.zero_le _) (Nat.le_refl _)) hl hn).mono ?_
  rintro e w2 ⟨v2, rfl, hown2, hb2⟩
  rw [← hxs.out] at hown2
  have r2 : Rd w2 w1.heap.size w2.heap.size v2 _ := hown2.rd
  go_wp2_with fail
  refine (text_any v1 bs t w2 ((r1.below hb2 (Nat.le_refl _)).mono (Nat.zero_le _) hb2.size) hl ht).mono ?_
  rintro e w3 ⟨v3, rfl, hown3, hb3⟩
  rw [← hys.out] at hown3
  have r3 : Rd w3 w2.heap.size w3.heap.size v3 _ := hown3.rd
  have b03 : Below w.heap.size w w3 := (hb1.trans (hb2.mono hb1.size)).trans (hb3.mono (Nat.le_trans hb1.size hb2.size))
  have keep : ∀ (wk : World), Below w3.heap.size w3 wk → Rd wk 0 wk.heap.size v bs ∧ Rd wk w.heap.size w1.heap.size v1 bs ∧ Rd wk w1.heap.size w2.heap.size v2 xs ∧ Rd wk w2.heap.size w3.heap.size v3 ys := fun wk hk =>
    ⟨((h.below b03 (Nat.le_refl _)).below hk b03.size).mono (Nat.zero_le _) (Nat.le_trans b03.size hk.size), ((r1.below hb2 (Nat.le_refl _)).below hb3 hb2.size).below hk (Nat.le_trans hb2.size hb3.size), (r2.below hb3 (Nat.le_refl _)).below hk hb3.size, r3.below hk (Nat.le_refl _)⟩
  have kept := Lib.hid keep
  clear keep
  have s12 := hb2.size
  have s23 := hb3.size
  have s01 := hb1.size
  go_wp2_with fail
  refine (refPut_any v bs n w3 (kept.out _ (Below.refl _ _)).1 hl hn).mono ?_
  rintro e w4 ⟨v4, rfl, hown4, hb4⟩
  rw [← hxs.out] at hown4
  go_wp2_with fail
  refine (equal_same v2 v4 _ _ _ _ _ w4 (kept.out _ hb4).2.2.1 hown4.rd (by omega)).mono ?_
  rintro e w5 ⟨rfl, n5, rfl⟩
  have hb5 : Below w3.heap.size w3 (w4.drewN n5) := below_drewN hb4 n5
  go_wp2_with fail
  refine (refText_any v bs t _ (kept.out _ hb5).1 hl ht).mono ?_
  rintro e w6 ⟨v6, rfl, hown6, hb6⟩
  rw [← hys.out] at hown6
  have hb6' : Below w3.heap.size w3 w6 := hb5.trans (hb6.mono hb5.size)
  go_wp2_with fail
  refine (equal_same v3 v6 _ _ _ _ _ w6 (kept.out _ hb6').2.2.2 hown6.rd (by omega)).mono ?_
  rintro e w7 ⟨rfl, n7, rfl⟩
  have hb7 : Below w3.heap.size w3 (w6.drewN n7) := below_drewN hb6' n7
  go_wp2_with fail
  refine (sum_any v1 bs _ _ _ (kept.out _ hb7).2.1 hl).mono ?_
  rintro e w8 ⟨rfl, rfl⟩
  go_wp2_with fail
  refine (refSum_any v bs _ _ _ (kept.out _ hb7).1 hl).mono ?_
  rintro e w9 ⟨rfl, rfl⟩
  have hcc : (((crc bs : Nat) : Int) != (crc bs : Int)) = false := by simp
  obtain ⟨g, cap, rfl, hg1, hg2⟩ := World.ownsRow.form hown2 hxp
  have hg1' : w.heap.size ≤ g := Nat.le_trans s01 hg1
  have ownL : Own (w6.drewN n7) w1.heap.size (.slice (some ⟨g, 0, none⟩) xs.length cap) xs := Own.below hown2 ((hb3.trans (hb7.mono s23)))
  go_wp2_with fail
  go_loopw [42] (fun i wr => ∃ (k : Nat) (cs : List UInt8), k ≤ xs.length ∧ i = .int .i64 k ∧ cs.length = xs.length ∧ Own wr w1.heap.size (.slice (some ⟨g, 0, none⟩) xs.length cap) cs ∧ (w6.drewN n7).grownBy wr (some g)) (fun i _ => xs.length - (intOf i).toNat)
  case atStart => exact ⟨0, xs, Nat.zero_le _, rfl, rfl, ownL, World.grownBy.refl _ _⟩
  case round =>
    obtain ⟨k, cs, hk, rfl, hcs, hown, hgr⟩ := hrel
    by_cases hlt : k < xs.length
    · have hlt' : k < cs.length := by omega
      have HC := Lib.hid hcs
      clear hcs
      have ha : wr.cell? ⟨g, k, none⟩ = some (.int .u8 (cs[k].toNat : Int)) := by
        have := hown.rd
        obtain ⟨A, c, e, hc, hx⟩ := this
        injection e with e1 e2 e3
        subst e1
        obtain ⟨ad, e4, h4⟩ := hx.at_ hlt'
        injection e4 with e4
        subst e4
        rwa [add_lit] at h4
      have hf : wr.frozen? ⟨g, k, none⟩ = false := by
        have h0 := hown
        unfold Own at h0
        rw [HC.out] at h0
        exact World.ownsRow.frozenAt h0 k
      go_wp2_with fail
      go_roundw
      case rel => exact ⟨k + 1, cs.set k (cs[k] ^^^ 255), by omega, by go_num, by rw [List.length_set]; exact HC.out, hown.set_ k (xor_byte cs[k] 255), grownBy_set hgr k _⟩
      case measure => simp [intOf]; omega
    · have hz := hgr.size
      have hzz : w3.heap.size ≤ (w6.drewN n7).heap.size := hb7.size
      have q := kept.out _ hb7
      have m0 : Rd wr 0 w.heap.size v bs := ((h.below b03 (Nat.le_refl _)).below hb7 b03.size).grown hgr (by omega) (.inr hg1')
      have m1 : Rd wr w.heap.size w1.heap.size v1 bs := q.2.1.grown hgr (by omega) (.inr hg1)
      have m3 : Rd wr w2.heap.size w3.heap.size v3 ys := q.2.2.2.grown hgr (by omega) (.inl hg2)
      have bL : Below w.heap.size w wr := (b03.trans (hb7.mono b03.size)).grown hgr (by omega) (by simp; omega)
      have hbig : w3.heap.size ≤ wr.heap.size := by omega
      clear q ownL hown hgr
      have keep : ∀ (wk : World), Below wr.heap.size wr wk → Rd wk 0 wk.heap.size v bs ∧ Rd wk 0 wk.heap.size v1 bs ∧ Rd wk 0 wk.heap.size v3 ys ∧ Below w.heap.size w wk := fun wk hk =>
        have hs := hk.size
        ⟨(m0.below hk (by omega)).mono (Nat.zero_le _) (by omega), (m1.below hk (by omega)).mono (Nat.zero_le _) (by omega), (m3.below hk (by omega)).mono (Nat.zero_le _) (by omega), bL.trans (hk.mono (by omega))⟩
      have kept2 := Lib.hid keep
      clear keep kept
      go_wp2_with fail
      refine (equal_same v1 v bs _ _ _ _ wr (kept2.out _ (Below.refl _ _)).2.1 (kept2.out _ (Below.refl _ _)).1 (by omega)).mono ?_
      rintro e y1 ⟨rfl, k1, rfl⟩
      have c1 : Below wr.heap.size wr (wr.drewN k1) := below_drewN (Below.refl _ _) k1
      go_wp2_with fail
      refine (put_any v1 bs n _ (kept2.out _ c1).2.1 hl hn).mono ?_
      rintro e y2 ⟨u2, rfl, hown2', hc2⟩
      rw [← hxs.out] at hown2'
      have c2 : Below wr.heap.size wr y2 := c1.trans (hc2.mono c1.size)
      go_wp2_with fail
      refine (refPut_any v bs n _ (kept2.out _ c2).1 hl hn).mono ?_
      rintro e y3 ⟨u3, rfl, hown3', hc3⟩
      rw [← hxs.out] at hown3'
      have c3 : Below wr.heap.size wr y3 := c2.trans (hc3.mono c2.size)
      go_wp2_with fail
      refine (equal_same u2 u3 xs _ _ _ _ y3 (hown2'.rd.below hc3 (Nat.le_refl _)) hown3'.rd (by omega)).mono ?_
      rintro e y4 ⟨rfl, k4, rfl⟩
      have c4 : Below wr.heap.size wr (y3.drewN k4) := below_drewN c3 k4
      go_wp2_with fail
      refine (refText_any v bs t _ (kept2.out _ c4).1 hl ht).mono ?_
      rintro e y5 ⟨u5, rfl, hown5, hc5⟩
      rw [← hys.out] at hown5
      have c5 : Below wr.heap.size wr y5 := c4.trans (hc5.mono c4.size)
      go_wp2_with fail
      refine (equal_same v3 u5 ys _ _ _ _ y5 (kept2.out _ c5).2.2.1 hown5.rd (by omega)).mono ?_
      rintro e y6 ⟨rfl, k6, rfl⟩
      go_wp2
      go_ret
      exact ⟨rfl, (kept2.out _ (below_drewN c5 k6)).2.2.2⟩
end Go.Proofs.Ytnehchlfoidmdaa
