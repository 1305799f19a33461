/- The walk of WireNobody: a reader that no call made, nil or plain. -/
import Derived.Test.YtnehchlfoidmdaaReader2
namespace Go.Proofs.Ytnehchlfoidmdaa
open Go.RowKit

/-- A reader that no call made. -/
def Plain (w : World) (r : Option Addr) : Prop := r = none ∨ ∃ g, r = some ⟨g, 0, none⟩ ∧ w.heap[g]? = some (.cells #[.bool false, .slice none 0 0, .int .i64 0] 58 (0, 0))

theorem Plain.keep {w w' : World} {r : Option Addr} (h : Plain w r) (hb : Below w.heap.size w w') : Plain w' r := by
  rcases h with rfl | ⟨g, rfl, hg⟩
  · exact .inl rfl
  · refine .inr ⟨g, rfl, ?_⟩
    rw [hb.block g (Array.getElem?_eq_some_iff.1 hg).1]
    exact hg

theorem read_plain (fv : Fn) (cap : Array Value) (r : Option Addr) (w : World) (h : Plain w r) :
    Calls Try.prog 39 #[.pointer r, .func fv #[] cap] w fun e w' => e = .returned (.int .i64 8) ∧ Below w.heap.size w w' := by
  rcases h with rfl | ⟨g, rfl, hg⟩
  · exact read_nil fv cap w
  · exact read_unmade fv cap g w (cell_of_row w g 0 _ _ (0, 0) hg)

set_option maxHeartbeats 800000 in
theorem uint_plain (r : Option Addr) (w : World) (h : Plain w r) :
    Calls Try.prog 23 #[.pointer r] w fun e w' => e = .returned (.tuple #[.int .i64 0, .int .i64 8]) ∧ Below w.heap.size w w' := by
  have hmf : ∀ (fn : Fn) (first cap : Array Value) (w : World), (Instr.makeFunc fn first cap).run Try.prog w = .ok (.func fn first cap) w := fun _ _ _ _ => rfl
  have hb0 : Below w.heap.size w (w.alloc (.cells #[.int .i64 0] 3)) := (Below.refl _ w).alloc (Nat.le_refl _) _
  go_enter Try.func23, Try.ntmps23
  go_wp2_with fail
  refine (read_plain _ _ r _ (h.keep hb0)).mono ?_
  rintro e w1 ⟨rfl, hb⟩
  have hc : w1.cell? ⟨w.heap.size, 0, none⟩ = some (.int .i64 0) := cell_of_one ((hb.block _ (by simp)).trans (heap_alloc_new w _))
  go_wp2
  go_ret2
  exact ⟨rfl, hb0.trans (hb.mono (by simp))⟩

set_option maxHeartbeats 800000 in
theorem byte_plain (r : Option Addr) (w : World) (h : Plain w r) :
    Calls Try.prog 25 #[.pointer r] w fun e w' => e = .returned (.tuple #[.int .i64 0, .int .i64 8]) ∧ Below w.heap.size w w' := by
  have hmf : ∀ (fn : Fn) (first cap : Array Value) (w : World), (Instr.makeFunc fn first cap).run Try.prog w = .ok (.func fn first cap) w := fun _ _ _ _ => rfl
  have hb0 : Below w.heap.size w (w.alloc (.cells #[.int .i64 0] 3)) := (Below.refl _ w).alloc (Nat.le_refl _) _
  go_enter Try.func25, Try.ntmps25
  go_wp2_with fail
  refine (read_plain _ _ r _ (h.keep hb0)).mono ?_
  rintro e w1 ⟨rfl, hb⟩
  have hc : w1.cell? ⟨w.heap.size, 0, none⟩ = some (.int .i64 0) := cell_of_one ((hb.block _ (by simp)).trans (heap_alloc_new w _))
  go_wp2
  go_ret2
  exact ⟨rfl, hb0.trans (hb.mono (by simp))⟩

set_option maxHeartbeats 800000 in
theorem text_plain (r : Option Addr) (m : Int) (w : World) (h : Plain w r) :
    Calls Try.prog 27 #[.pointer r, .int .i64 m] w fun e w' => e = .returned (.tuple #[.string .empty, .int .i64 8]) ∧ Below w.heap.size w w' := by
  have hmf : ∀ (fn : Fn) (first cap : Array Value) (w : World), (Instr.makeFunc fn first cap).run Try.prog w = .ok (.func fn first cap) w := fun _ _ _ _ => rfl
  have hb0 : Below w.heap.size w ((w.alloc (.cells #[.int .i64 m] 3)).alloc (.cells #[.string .empty] 9)) := ((Below.refl _ w).alloc (Nat.le_refl _) _).alloc (by simp) _
  go_enter Try.func27, Try.ntmps27
  go_wp2_with fail
  refine (read_plain _ _ r _ (h.keep hb0)).mono ?_
  rintro e w1 ⟨rfl, hb⟩
  have hc : w1.cell? ⟨w.heap.size + 1, 0, none⟩ = some (.string .empty) := cell_of_one ((hb.block _ (by simp)).trans (by have := heap_alloc_new (w.alloc (.cells #[.int .i64 m] 3)) (.cells #[.string .empty] 9); simpa using this))
  go_wp2
  go_ret2
  exact ⟨rfl, hb0.trans (hb.mono (by simp; omega))⟩

set_option maxHeartbeats 800000 in
theorem end_plain (r : Option Addr) (w : World) (h : Plain w r) :
    Calls Try.prog 29 #[.pointer r] w fun e w' => e = .returned (.int .i64 8) ∧ Below w.heap.size w w' := by
  go_enter Try.func29, Try.ntmps29
  go_wp2_with fail
  refine (read_plain _ _ r _ h).mono ?_
  rintro e w1 ⟨rfl, hb⟩
  go_wp2
  go_ret
  exact ⟨rfl, hb⟩

set_option maxHeartbeats 800000 in
theorem at_plain (r : Option Addr) (w : World) (h : Plain w r) :
    Calls Try.prog 30 #[.pointer r] w fun e w' => e = .returned (.int .i64 0) ∧ w = w' := by
  rcases h with rfl | ⟨g, rfl, hg⟩
  · go_enter Try.func30, Try.ntmps30
    go_wp2
    go_ret
    exact ⟨rfl, rfl⟩
  · have hc : w.cell? ⟨g, 2, none⟩ = some (.int .i64 0) := cell_of_row w g 2 _ _ (0, 0) hg
    go_enter Try.func30, Try.ntmps30
    go_wp2
    go_ret
    exact ⟨rfl, rfl⟩

set_option maxHeartbeats 800000 in
theorem left_plain (r : Option Addr) (w : World) (h : Plain w r) :
    Calls Try.prog 31 #[.pointer r] w fun e w' => e = .returned (.int .i64 0) ∧ ∃ n, w' = w.drewN n := by
  rcases h with rfl | ⟨g, rfl, hg⟩
  · go_enter Try.func31, Try.ntmps31
    go_wp2
    go_ret
    exact ⟨rfl, 0, rfl⟩
  · have hcur : Cur w g 1 none 0 [] 0 := ⟨cell_of_row w g 1 _ _ (0, 0) hg, cell_of_row w g 2 _ _ (0, 0) hg, frozen_of_row w g 1 _ _ hg, frozen_of_row w g 2 _ _ hg, Nat.le_refl _, Nat.le_refl _, by simp⟩
    have HL := Lib.hid (left_any g 1 none 0 [] 0 w hcur)
    go_enter Try.func31, Try.ntmps31
    go_wp2_with fail
    refine HL.out.mono ?_
    rintro e w1 ⟨rfl, j, rfl⟩
    go_wp2
    go_ret
    exact ⟨rfl, _, rfl⟩

set_option maxRecDepth 100000 in
set_option maxHeartbeats 1600000 in
theorem nobody_walk (m : Int) (w : World) :
    Calls Try.prog 9 #[.int .i64 m] w fun e w' => e = .returned (.bool true) ∧ Below w.heap.size w w' := by
  obtain ⟨W1, hW1⟩ : ∃ W1, Hid (W1 = (w.alloc (.cells #[.bool false, .slice none 0 0, .int .i64 0] 58)).alloc (.cells #[.pointer none, .pointer (some ⟨w.heap.size, 0, none⟩)] 36)) := ⟨_, Lib.hid rfl⟩
  have s1 : W1.heap.size = w.heap.size + 2 := by rw [hW1.out]; simp
  have b1 : Below w.heap.size w W1 := by
    rw [hW1.out]
    exact ((Below.refl _ w).alloc (Nat.le_refl _) _).alloc (by simp) _
  have k0 : W1.heap[w.heap.size]? = some (.cells #[.bool false, .slice none 0 0, .int .i64 0] 58 (0, 0)) := by
    rw [hW1.out, Below.heap_alloc _ _ _ (by simp)]
    exact heap_alloc_new w _
  have k1 : W1.heap[w.heap.size + 1]? = some (.cells #[.pointer none, .pointer (some ⟨w.heap.size, 0, none⟩)] 36 (0, 0)) := by
    rw [hW1.out]
    have := heap_alloc_new (w.alloc (.cells #[.bool false, .slice none 0 0, .int .i64 0] 58)) (.cells #[.pointer none, .pointer (some ⟨w.heap.size, 0, none⟩)] 36)
    simpa using this
  have K0 := Lib.hid k0
  have K1 := Lib.hid k1
  have S1 := Lib.hid s1
  clear k0 k1 s1
  go_enter Try.func9, Try.ntmps9
  go_wp2_with fail
  have e2 := hW1.out.symm
  rw [e2]
  clear e2
  go_loopw [17] (fun i wr => ∃ k : Nat, k ≤ 2 ∧ i = .int .i64 k ∧ Below W1.heap.size W1 wr) (fun i _ => 2 - (intOf i).toNat)
  case atStart => exact ⟨0, by omega, rfl, Below.refl _ _⟩
  case round =>
    obtain ⟨k, hk, rfl, hb⟩ := hrel
    have hsz := hb.size
    have hs := S1.out
    by_cases hlt : k < 2
    · obtain ⟨r, hc, hp⟩ : ∃ r, wr.cell? ⟨w.heap.size + 1, k, none⟩ = some (.pointer r) ∧ Plain wr r := by
        have hblk : wr.heap[w.heap.size + 1]? = some (.cells #[.pointer none, .pointer (some ⟨w.heap.size, 0, none⟩)] 36 (0, 0)) := (hb.block _ (by omega)).trans K1.out
        have hrow := fun i => cell_of_row wr (w.heap.size + 1) i _ _ (0, 0) hblk
        have : k = 0 ∨ k = 1 := by omega
        rcases this with rfl | rfl
        · exact ⟨none, hrow 0, .inl rfl⟩
        · exact ⟨some ⟨w.heap.size, 0, none⟩, hrow 1, .inr ⟨_, rfl, (hb.block _ (by omega)).trans K0.out⟩⟩
      clear hs hsz
      go_wp2_with fail
      refine (uint_plain r wr hp).mono ?_
      rintro e w1 ⟨rfl, hb1⟩
      go_wp2_with fail
      refine (byte_plain r w1 (hp.keep hb1)).mono ?_
      rintro e w2 ⟨rfl, hb2⟩
      have hb02 := hb1.trans (hb2.mono hb1.size)
      go_wp2_with fail
      refine (text_plain r m w2 (hp.keep hb02)).mono ?_
      rintro e w3 ⟨rfl, hb3⟩
      have hb03 := hb02.trans (hb3.mono hb02.size)
      go_wp2_with fail
      refine (end_plain r w3 (hp.keep hb03)).mono ?_
      rintro e w4 ⟨rfl, hb4⟩
      have hb04 := hb03.trans (hb4.mono hb03.size)
      go_wp2_with fail
      refine (at_plain r w4 (hp.keep hb04)).mono ?_
      rintro e w5 ⟨rfl, rfl⟩
      go_wp2_with fail
      refine (left_plain r w4 (hp.keep hb04)).mono ?_
      rintro e w5 ⟨rfl, j, rfl⟩
      have hb05 : Below wr.heap.size wr (w4.drewN j) := below_drewN hb04 j
      clear hb1 hb2 hb02 hb3 hb03 hb4 hb04
      go_wp2
      go_roundw
      case rel => exact ⟨k + 1, by omega, by go_num, hb.trans (hb05.mono hb.size)⟩
      case measure => simp [intOf]; omega
    · have bL : Below w.heap.size w wr := b1.trans (hb.mono b1.size)
      have hrd : Rd (wr.alloc (.cells #[.int .u8 7] 5)) 0 (wr.alloc (.cells #[.int .u8 7] 5)).heap.size (.slice (some ⟨wr.heap.size, 0, none⟩) 1 1) [7] :=
        ⟨some ⟨wr.heap.size, 0, none⟩, 1, rfl, Nat.le_refl _, (rdA_one (b := 7) (World.cell?_alloc_at _ _ _ _ rfl) rfl).mono (Nat.zero_le _) (by simp)⟩
      have bA : Below w.heap.size w (wr.alloc (.cells #[.int .u8 7] 5)) := bL.alloc bL.size _
      have hov := Lib.hid (over_any _ [7] _ hrd (by simp))
      clear hs hsz hrd
      go_wp2_with fail
      refine hov.out.mono ?_
      rintro e w2 ⟨g, A, c, rfl, hg, hr, hrd, hb2⟩
      have hm := Lib.hid (byte_made g A c [7] 0 _ g w2 hr hrd (Nat.le_of_lt hr.lt) (.inl (Nat.le_refl _)))
      have hgw : w.heap.size ≤ g := Nat.le_trans bA.size hg
      have bB := bA.trans (hb2.mono bA.size)
      clear hr hrd
      go_wp2_with fail
      refine hm.out.mono ?_
      rintro e w3 hR
      have e0 : byteOf (List.drop 0 [7]) = (7, 1, 0) := rfl
      rw [e0] at hR
      obtain rfl := hR.ending
      have bC : Below w.heap.size w w3 := bB.grown hR.grown bB.size (by simp; omega)
      clear hR
      go_wp2
      go_ret
      exact ⟨rfl, bC⟩
end Go.Proofs.Ytnehchlfoidmdaa
