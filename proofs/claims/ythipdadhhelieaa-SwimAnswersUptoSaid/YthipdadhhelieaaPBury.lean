/- bury: those that were suspected for too long are dead. -/
import Derived.Test.YthipdadhhelieaaPTurn
namespace Go.Proofs.Ythipdadhhelieaa
open Go.RowKit Go.Sort Go.BigFrame

/-- Was a node suspected for too long? -/
def TabA.dies (t : TabA) (k : Nat) : Bool := ((t.nd k).1.2.2 == 2) && decide (300 ≤ t.now - (t.nd k).2)
/-- Behind the first so many nodes. -/
def TabA.bury (t : TabA) : Nat → TabA
  | 0 => t
  | k + 1 => if t.dies k then (t.bury k).setNd k (((k : Int), (t.nd k).1.2.1, 3), t.now) else t.bury k
theorem setNd_now (t : TabA) (k : Nat) (s : StateA) : (t.setNd k s).now = t.now := by unfold TabA.setNd; split <;> rfl
theorem setNd_self (t : TabA) (k : Nat) (s : StateA) : (t.setNd k s).self = t.self := by unfold TabA.setNd; split <;> rfl
theorem setNd_opened (t : TabA) (k : Nat) (s : StateA) : (t.setNd k s).opened = t.opened := by unfold TabA.setNd; split <;> rfl
theorem setNd_last (t : TabA) (k : Nat) (s : StateA) : (t.setNd k s).last = t.last := by unfold TabA.setNd; split <;> rfl
theorem bury_now (t : TabA) : ∀ k, (t.bury k).now = t.now
  | 0 => rfl
  | k + 1 => by unfold TabA.bury; split; rw [setNd_now, bury_now t k]; exact bury_now t k
theorem bury_self (t : TabA) : ∀ k, (t.bury k).self = t.self
  | 0 => rfl
  | k + 1 => by unfold TabA.bury; split; rw [setNd_self, bury_self t k]; exact bury_self t k
theorem bury_opened (t : TabA) : ∀ k, (t.bury k).opened = t.opened
  | 0 => rfl
  | k + 1 => by unfold TabA.bury; split; rw [setNd_opened, bury_opened t k]; exact bury_opened t k
theorem bury_last (t : TabA) : ∀ k, (t.bury k).last = t.last
  | 0 => rfl
  | k + 1 => by unfold TabA.bury; split; rw [setNd_last, bury_last t k]; exact bury_last t k
theorem bury_nd (t : TabA) : ∀ k, k ≤ 8 → ∀ j, j < 8 → (t.bury k).nd j = if j < k ∧ t.dies j then (((j : Int), (t.nd j).1.2.1, 3), t.now) else t.nd j
  | 0, _, j, _ => by simp [TabA.bury]
  | k + 1, hk, j, hj => by
    have ih := bury_nd t k (by omega) j hj
    unfold TabA.bury
    by_cases hd : t.dies k = true
    · rw [if_pos hd, setNd_nd _ (by omega) _ hj]
      by_cases e : j = k
      · subst e
        rw [if_pos rfl, if_pos ⟨by omega, hd⟩]
      · rw [if_neg e, ih]
        by_cases h1 : j < k ∧ t.dies j = true
        · rw [if_pos h1, if_pos ⟨by omega, h1.2⟩]
        · rw [if_neg h1, if_neg (fun h => h1 ⟨by omega, h.2⟩)]
    · rw [if_neg hd, ih]
      by_cases h1 : j < k ∧ t.dies j = true
      · rw [if_pos h1, if_pos ⟨by omega, h1.2⟩]
      · rw [if_neg h1, if_neg (fun h => h1 ⟨by
          rcases Nat.lt_or_eq_of_le (Nat.le_of_lt_succ h.1) with h2 | h2
          · exact h2
          · exact absurd (by rw [← h2]; exact h.2) hd, h.2⟩)]
/-- The times of what is known lie between nought and the table's. -/
def TabA.timed (t : TabA) : Prop := 0 ≤ t.now ∧ t.now ≤ 4611686018427387904 ∧ ∀ k, k < 8 → 0 ≤ (t.nd k).2 ∧ (t.nd k).2 ≤ t.now

theorem dcells_one (ds : List DotA) : ∀ u ∈ dcells ds, u.oneCell' = true := fun u hu => by
  unfold dcells at hu
  rw [List.mem_flatMap] at hu
  obtain ⟨d, _, hd⟩ := hu
  simp at hd
  rcases hd with rfl | rfl | rfl <;> rfl
theorem ownD_of_rows {w : World} {base : Nat} {v : Value} {xs ys : List PeerA} (h : w.ownsRow base 38 3 v (xs.length + ys.length) (dcells xs ++ dcells ys)) : OwnD 38 w base v (xs ++ ys) := by
  unfold OwnD
  rw [List.length_append, dcells_append]
  exact h
theorem hz3 : (Value.agg #[.int .i64 0, .int .i64 0, .int .i64 0]).cells.size = 3 ∧ 0 < 3 ∧ 24 ≤ 65536 := ⟨rfl, by decide, by decide⟩
set_option maxRecDepth 100000 in
set_option maxHeartbeats 3200000 in
theorem bury_any (g : Nat) (t : TabA) (ht : t.timed) (w : World) (h : TabAt w g t) :
    Calls Try.prog 46 #[.pointer (some ⟨g, 0, none⟩)] w fun e w' => ∃ v ds, e = .returned v ∧ OwnD 38 w' w.heap.size v ds ∧ ds.length ≤ 8 ∧ TabAt w' g (t.bury 8) ∧ Turns g w.heap.size w w' := by
  have HN := Lib.hid (nodes_at h)
  have hi : (Try.prog.info? 64).map (·.size) = some t.nodes.length := by rw [nodes_len]; kernel_rfl
  have hix := fun (k : Nat) (hk : k < 8) w' => index_any t hk w'
  obtain ⟨L, hL⟩ : ∃ L, L = t.nodes := ⟨_, rfl⟩
  rw [← hL] at HN hi
  rw [← hL] at hix
  have HIX := Lib.hid hix
  have HGL := Lib.hid h.lt
  have HTM := Lib.hid ht
  have HT0 : Hid (TabAt w g (t.bury 0)) := Lib.hid h
  have HD0 : Hid (OwnD 38 w w.heap.size (.slice none 0 0) []) := Lib.hid (ownD_nil _ _ _)
  have HG0 : Hid (Turns g w.heap.size w w) := Lib.hid (Turns.of (Below.refl _ _))
  clear hL h hix ht
  go_enter Try.func46, Try.ntmps46
  go_wp2_with (with_reducible refine wpList_load_mid rfl 64 (.tmp 8) rfl g 2 rfl L _ HN.out Try.underlying64 rfl hi ?_)
  go_loopw [10, 3] (fun i x wr => ∃ (k n : Nat) (A : Option Addr) (c : Nat) (ds : List PeerA), k ≤ 8 ∧ i = .int .i64 k ∧ x = .slice A n c ∧ Hid (n = ds.length) ∧ Hid (OwnD 38 wr w.heap.size (.slice A n c) ds) ∧ Hid (ds.length ≤ k) ∧ Hid (TabAt wr g (t.bury k)) ∧ Hid (Turns g w.heap.size w wr)) (fun i _ _ => 8 - (intOf i).toNat)
  case atStart => exact ⟨0, 0, none, 0, [], Nat.zero_le _, rfl, rfl, Lib.hid rfl, HD0, Lib.hid (Nat.zero_le _), HT0, HG0⟩
  case round =>
    obtain ⟨k, n, A, c, ds, hk, rfl, rfl, HNL, HD, HDL, HT, HG⟩ := hrel
    by_cases hlt : k < 8
    · have ix := HIX.out k hlt
      obtain ⟨s, hs⟩ : ∃ s, Hid (s = t.nd k) := ⟨_, Lib.hid rfl⟩
      rw [← hs.out] at ix
      obtain ⟨V, hV⟩ : ∃ V, Hid (V = wr.alloc (.cells #[.int .i64 s.1.1, .int .i64 s.1.2.1, .int .i64 s.1.2.2, .int .i64 s.2] 63)) := ⟨_, Lib.hid rfl⟩
      have hbv : Below wr.heap.size wr V := by rw [hV.out]; exact (Below.refl _ _).alloc (Nat.le_refl _) _
      have v2 : V.cell? ⟨wr.heap.size, 2, none⟩ = some (.int .i64 s.1.2.2) := by rw [hV.out]; exact box_cell _ _ _ 2
      have v3 : V.cell? ⟨wr.heap.size, 3, none⟩ = some (.int .i64 s.2) := by rw [hV.out]; exact box_cell _ _ _ 3
      have HTV : Hid (TabAt V g (t.bury k)) := Lib.hid (HT.out.below hbv HT.out.lt)
      have HGV : Hid (Turns g w.heap.size w V) := Lib.hid (HG.out.trans ((Turns.of hbv).mono HG.out.size))
      have HDV : Hid (OwnD 38 V w.heap.size (.slice A n c) ds) := Lib.hid (HD.out.below hbv)
      have g1 : V.cell? ⟨g, 1, none⟩ = some (.int .i64 t.now) := by have := HTV.out.cell 1; rw [this]; show some (Value.int .i64 (t.bury k).now) = _; rw [bury_now]
      have hn0 := HTM.out.1
      have hn1 := HTM.out.2.1
      have hs0 : 0 ≤ s.2 := by rw [hs.out]; exact (HTM.out.2.2 k hlt).1
      have hs1 : s.2 ≤ t.now := by rw [hs.out]; exact (HTM.out.2.2 k hlt).2
      have HZV : Hid (w.heap.size ≤ V.heap.size) := Lib.hid HGV.out.size
      have dd : (Hid (t.dies k = false) ∧ ((s.1.2.2 == 2) = false ∨ ((s.1.2.2 == 2) = true ∧ decide (300 ≤ t.now - s.2) = false))) ∨ (Hid (t.dies k = true) ∧ (s.1.2.2 == 2) = true ∧ decide (300 ≤ t.now - s.2) = true) := by
        have e : t.dies k = ((s.1.2.2 == 2) && decide (300 ≤ t.now - s.2)) := by unfold TabA.dies; rw [hs.out]
        rw [e]
        cases (s.1.2.2 == 2) <;> cases decide (300 ≤ t.now - s.2) <;> simp [Hid] <;> first | exact ⟨rfl⟩ | exact Lib.hid rfl
      rcases dd with ⟨hd, dd⟩ | ⟨hd, d1, d2⟩
      · have HTN : Hid (TabAt V g (t.bury (k + 1))) := Lib.hid (by unfold TabA.bury; rw [if_neg (by rw [hd.out]; decide)]; exact HTV.out)
        have HDL2 : Hid (ds.length ≤ k + 1) := Lib.hid (by have := HDL.out; omega)
        rcases dd with d1 | ⟨d1, d2⟩
        all_goals
          go_upto_region 5 with fail
          rw [← hV.out]
          go_quiet (fail)
          go_wp2
          go_roundw
          case rel => first | exact ⟨k + 1, n, A, c, ds, by omega, by go_num, rfl, HNL, HDV, HDL2, HTN, Lib.hid (HGV.out.drewN _)⟩ | exact ⟨k + 1, n, A, c, ds, by omega, by go_num, rfl, HNL, HDV, HDL2, HTN, Lib.hid HGV.out.drew⟩
          case measure => simp [intOf]; omega
      · have H1 := fun w' (hT : TabAt w' g (t.bury k)) => Lib.hid (turn_any g (t.bury k) k hlt 3 w' hT)
        have HTn : ∀ n, TabAt (V.drewN n) g (t.bury k) := fun n => HTV.out
        go_upto_region 5 with fail
        rw [← hV.out]
        go_quiet (fail)
        go_wp2_with (first
          | (go_at_call 65
             (with_reducible refine (H1 _ (HTn _)).out.mono ?_); rintro e w1 ⟨b1, hb1, rfl, ho1, ht1, hg1⟩
             have hgl := HGL.out
             have hG1 : Turns g w.heap.size w w1 := HGV.out.trans (hg1.undrewN.mono HGV.out.size)
             have HG1 := Lib.hid hG1
             have HR1 : Hid (w1.ownsRow w.heap.size 38 3 (.slice A n c) n (dcells ds)) := Lib.hid (row_turn (g := g) (by have := HDV.out; unfold OwnD at this; rwa [← HNL.out] at this) hg1.undrewN hgl)
             have HO1 : Hid (w1.ownsRow V.heap.size 38 3 (.slice (some ⟨b1, 0, none⟩) 1 1) 1 (dcells [((k : Int), ((t.bury k).nd k).1.2.1, 3)])) := Lib.hid ho1
             have HT1 : Hid (TabAt w1 g (t.bury (k + 1))) := Lib.hid (by
               have e1 : (t.bury k).nd k = t.nd k := by rw [bury_nd t k (by omega) k hlt, if_neg (fun h => absurd h.1 (by omega))]
               rw [e1, bury_now] at ht1
               unfold TabA.bury
               rw [if_pos hd.out]
               exact ht1)
             have HZ1 : Hid (w.heap.size ≤ w1.heap.size) := Lib.hid hG1.size
             have HLN : Hid (n + 1 ≤ 65536) := Lib.hid (by have := HDL.out; have := HNL.out; omega)
             clear ht1 ho1 hg1 hb1 hG1 hgl)
          | (at_builtin; go_must (refine wpList_append_rows Try.underlying31 infoPeer hz3 _ rfl (.tmp 28) (.tmp 31) rfl (by rfl) (by rfl) HR1.out HO1.out (dcells_one _) HLN.out HZ1.out ?_)))
        intro v6 w6 ho6 hg6 _
        obtain ⟨A6, c6, rfl⟩ := row_slice ho6
        have HD6 : Hid (OwnD 38 w6 w.heap.size (.slice A6 (n + 1) c6) (ds ++ [((k : Int), ((t.bury k).nd k).1.2.1, 3)])) := Lib.hid (by rw [HNL.out] at ho6 ⊢; exact ownD_of_rows ho6)
        have HNL6 : Hid (n + 1 = (ds ++ [((k : Int), ((t.bury k).nd k).1.2.1, 3)]).length) := Lib.hid (by rw [HNL.out]; simp)
        have HG6 : Hid (Turns g w.heap.size w w6) := Lib.hid (turns_grown HG1.out (Nat.le_refl _) HR1.out hg6)
        have HT6 : Hid (TabAt w6 g (t.bury (k + 1))) := Lib.hid (HT1.out.keep (hg6.block g HT1.out.lt (fun e => by have := (World.ownsRow.lt HR1.out g e.symm).1; have := HGL.out; omega)))
        have HDL6 : Hid ((ds ++ [((k : Int), ((t.bury k).nd k).1.2.1, 3)]).length ≤ k + 1) := Lib.hid (by have := HDL.out; simp; omega)
        clear ho6 hg6
        go_wp2
        go_roundw
        case rel => exact ⟨k + 1, n + 1, A6, c6, _, by omega, by go_num, rfl, HNL6, HD6, HDL6, HT6, HG6⟩
        case measure => simp [intOf]; omega
    · obtain rfl : k = 8 := by omega
      go_wp2
      go_ret
      exact ⟨_, ds, rfl, HD.out, HDL.out, HT.out, HG.out⟩
end Go.Proofs.Ythipdadhhelieaa
