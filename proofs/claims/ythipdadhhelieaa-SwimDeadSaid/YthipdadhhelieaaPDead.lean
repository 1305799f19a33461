/- A node that answers nothing: what each Tick makes of the table. -/
import Derived.Test.YthipdadhhelieaaPTick
namespace Go.Proofs.Ythipdadhhelieaa
open Go.RowKit Go.Sort Go.BigFrame

/-- Marks of one node alone, or of none. -/
def only (b : Nat) : List Bool := (List.range 8).map fun i => decide (i = b)
set_option maxRecDepth 100000 in
theorem only_fin : ∀ b : Fin 8, ∀ s : Fin 9, nx (only b.val) s.val = b.val := by decide +kernel
theorem nx_only (b s : Nat) (hb : b < 8) (hs : s ≤ 8) : nx (only b) s = b := only_fin ⟨b, hb⟩ ⟨s, by omega⟩
theorem only_len (b : Nat) : (only b).length = 8 := by simp [only]
theorem only_at (b i : Nat) (hi : i < 8) : (only b).getD i false = decide (i = b) := by
  rcases (by omega : i = 0 ∨ i = 1 ∨ i = 2 ∨ i = 3 ∨ i = 4 ∨ i = 5 ∨ i = 6 ∨ i = 7) with rfl | rfl | rfl | rfl | rfl | rfl | rfl | rfl <;> rfl
theorem ext8 {L M : List Bool} (h1 : L.length = 8) (h2 : M.length = 8) (h : ∀ i, i < 8 → L.getD i false = M.getD i false) : L = M := by
  apply List.ext_getElem (by omega)
  intro i h3 h4
  have := h i (by omega)
  simpa [List.getD, List.getElem?_eq_getElem h3, List.getElem?_eq_getElem h4] using this

/-- What is known of the other node, so many milliseconds behind its first ping. -/
def bSt (b : Nat) (F : Int) (m : Nat) : StateA := if m < 100 then (((b : Int), 0, 1), F) else if m < 400 then (((b : Int), 0, 2), F + 100) else (((b : Int), 0, 3), F + 400)
/-- The table of a node a, and what is open, so many milliseconds behind the first ping of node b: k pings behind it, r milliseconds behind the last. -/
structure DeadInv (a b : Nat) (F : Int) (m k r : Nat) (T : TabA) (P : List PingA) : Prop where
  hm : m = 100 * k + r
  hr : r < 100
  self : T.self = (a : Int)
  now : T.now = F + (m : Int)
  nda : T.nd a = (((a : Int), 0, 1), 0)
  ndb : T.nd b = bSt b F m
  oth : ∀ j, j < 8 → j ≠ a → j ≠ b → T.nd j = noSt
  last : T.last = ((b : Int), (k : Int) + 1, F + 100 * (k : Int), false)
  open_ : P = [((b : Int), (k : Int) + 1, F + 100 * (k : Int) + (if 50 ≤ r then 50 else 0), decide (50 ≤ r))]

theorem DeadInv.opened {a b : Nat} {F : Int} {m k r : Nat} {T : TabA} {P : List PingA} (h : DeadInv a b F m k r T P) (v : Value) : DeadInv a b F m k r { T with opened := v } P :=
  ⟨h.hm, h.hr, h.self, h.now, by rw [nd_opened]; exact h.nda, by rw [nd_opened]; exact h.ndb, fun j h1 h2 h3 => by rw [nd_opened]; exact h.oth j h1 h2 h3, h.last, h.open_⟩
theorem free_of {T : TabA} {P : List PingA} {a b : Nat} (hab : a ≠ b) (ha : T.self = (a : Int)) (hkb : T.knows b = true) (ho : ∀ j, j < 8 → j ≠ a → j ≠ b → T.nd j = noSt) :
    T.free P = if P.any (fun p => p.1 == (b : Int)) then List.replicate 8 false else only b := by
  by_cases hp : P.any (fun p => p.1 == (b : Int)) = true
  · rw [if_pos hp]
    refine ext8 (free_len _ _) (by simp) fun i hi => ?_
    rw [free_at _ _ _ hi]
    have : (List.replicate 8 false).getD i false = false := by
      rcases (by omega : i = 0 ∨ i = 1 ∨ i = 2 ∨ i = 3 ∨ i = 4 ∨ i = 5 ∨ i = 6 ∨ i = 7) with rfl | rfl | rfl | rfl | rfl | rfl | rfl | rfl <;> rfl
    rw [this]
    by_cases h1 : i = a
    · subst h1; simp [ha]
    · by_cases h2 : i = b
      · subst h2; rw [hp]; simp
      · have : T.knows i = false := by unfold TabA.knows; rw [ho i hi h1 h2]; rfl
        rw [this]; simp
  · rw [if_neg hp]
    refine ext8 (free_len _ _) (only_len b) fun i hi => ?_
    rw [free_at _ _ _ hi, only_at b i hi]
    by_cases h1 : i = a
    · subst h1; simp [ha, hab]
    · by_cases h2 : i = b
      · subst h2
        have h3 : (P.any fun p => p.1 == (i : Int)) = false := by rw [Bool.eq_false_iff]; exact hp
        rw [h3, hkb]
        have h4 : ¬ ((i : Int) = T.self) := by rw [ha]; omega
        simp [h4]
      · have : T.knows i = false := by unfold TabA.knows; rw [ho i hi h1 h2]; rfl
        rw [this]; simp [h2]
theorem knows_bSt {T : TabA} {b : Nat} {F : Int} {m : Nat} (h : T.nd b = bSt b F m) : T.knows b = true := by
  unfold TabA.knows
  rw [h]
  unfold bSt
  repeat' split
  all_goals simp

theorem nx_none8 (s : Nat) (hs : s ≤ 8) : ¬ nx (List.replicate 8 false) s < 8 := by
  have h := nx_none (List.replicate 8 false) (by simp) s hs
  have c : cnt (List.replicate 8 false) = 0 := by decide
  rw [c] at h
  simpa using h

theorem begin_early {T : TabA} {P : List PingA} {st : Nat} (h : T.early = true) : T.begin P st = (T, P) := by
  unfold TabA.begin TabA.begins
  rw [h]
  rfl
theorem wait_one (T : TabA) (p : PingA) : T.wait [p] = waitStep (T, []) p := rfl
theorem bSt_same (b : Nat) (F : Int) {m : Nat} (h1 : m ≠ 99) (h2 : m ≠ 399) : bSt b F (m + 1) = bSt b F m := by
  unfold bSt
  simp only [show (m + 1 < 100) ↔ (m < 100) by omega, show (m + 1 < 400) ↔ (m < 400) by omega]
theorem dead_step {a b : Nat} (ha : a < 8) (hb : b < 8) (hab : a ≠ b) {F : Int} {m k r : Nat} {T : TabA} {P : List PingA} (hm : m < 1000) (h : DeadInv a b F m k r T P) :
    ∃ k' r', DeadInv a b F (m + 1) k' r' (T.tick P (b + 1) (F + (m : Int) + 1)).1 (T.tick P (b + 1) (F + (m : Int) + 1)).2 := by
  have hmk := h.hm
  have hr := h.hr
  obtain ⟨T1, hT1⟩ : ∃ T1, T1 = T.pass (F + (m : Int) + 1) := ⟨_, rfl⟩
  have n1 : T1.now = F + (m : Int) + 1 := by rw [hT1]; unfold TabA.pass; simp only; rw [h.now, if_pos (by omega)]
  have nd1 : ∀ j, T1.nd j = T.nd j := fun j => by rw [hT1]; exact pass_nd' _ _ _
  have s1 : T1.self = (a : Int) := by rw [hT1]; exact h.self
  have l1 : T1.last = ((b : Int), (k : Int) + 1, F + 100 * (k : Int), false) := by rw [hT1]; exact h.last
  obtain ⟨T2, hT2⟩ : ∃ T2, T2 = T1.bury 8 := ⟨_, rfl⟩
  have n2 : T2.now = F + (m : Int) + 1 := by rw [hT2, bury_now, n1]
  have s2 : T2.self = (a : Int) := by rw [hT2, bury_self, s1]
  have l2 : T2.last = ((b : Int), (k : Int) + 1, F + 100 * (k : Int), false) := by rw [hT2, bury_last, l1]
  have nda2 : T2.nd a = (((a : Int), 0, 1), 0) := by
    rw [hT2, bury_nd _ 8 (by omega) a ha, nd1, h.nda, if_neg]
    rintro ⟨_, hd⟩
    unfold TabA.dies at hd
    rw [nd1, h.nda] at hd
    simp at hd
  have oth2 : ∀ j, j < 8 → j ≠ a → j ≠ b → T2.nd j = noSt := fun j hj h1 h2 => by
    rw [hT2, bury_nd _ 8 (by omega) j hj, nd1, h.oth j hj h1 h2, if_neg]
    rintro ⟨_, hd⟩
    unfold TabA.dies at hd
    rw [nd1, h.oth j hj h1 h2] at hd
    simp [noSt] at hd
  -- what is known of b behind bury: dead at 400, else as it was
  have ndb2 : T2.nd b = if m = 399 then (((b : Int), 0, 3), F + 400) else bSt b F m := by
    rw [hT2, bury_nd _ 8 (by omega) b hb]
    unfold TabA.dies
    rw [nd1, h.ndb, n1]
    unfold bSt
    by_cases h1 : m < 100
    · rw [if_pos h1, if_neg (by omega : ¬ m = 399), if_neg (by simp)]
    · rw [if_neg h1]
      by_cases h2 : m < 400
      · rw [if_pos h2]
        by_cases h3 : m = 399
        · subst h3
          rw [if_pos rfl, if_pos ⟨hb, by simp; omega⟩]
          simp
          omega
        · rw [if_neg h3, if_neg]
          rintro ⟨_, hd⟩
          simp at hd
          omega
      · rw [if_neg h2, if_neg (by omega : ¬ m = 399), if_neg (by simp)]
  have htk : T.tick P (b + 1) (F + (m : Int) + 1) = ((T2.wait P).1).begin (T2.wait P).2 (b + 1) := by rw [hT2, hT1]; rfl
  rw [htk, h.open_, wait_one]
  clear htk hT1 hT2 nd1 n1 s1 l1
  have hb2 : ((b : Int)).toNat = b := by omega
  -- where the ping is still waited for, or asked about, nothing else begins
  have stays : ∀ (p : PingA), r ≤ 98 → waitStep (T2, []) ((b : Int), (k : Int) + 1, F + 100 * (k : Int) + (if 50 ≤ r then 50 else 0), decide (50 ≤ r)) = (T2, [p]) →
      p = ((b : Int), (k : Int) + 1, F + 100 * (k : Int) + (if 50 ≤ r + 1 then 50 else 0), decide (50 ≤ r + 1)) →
      ∃ k' r', DeadInv a b F (m + 1) k' r' ((waitStep (T2, []) ((b : Int), (k : Int) + 1, F + 100 * (k : Int) + (if 50 ≤ r then 50 else 0), decide (50 ≤ r))).1.begin (waitStep (T2, []) ((b : Int), (k : Int) + 1, F + 100 * (k : Int) + (if 50 ≤ r then 50 else 0), decide (50 ≤ r))).2 (b + 1)).1 ((waitStep (T2, []) ((b : Int), (k : Int) + 1, F + 100 * (k : Int) + (if 50 ≤ r then 50 else 0), decide (50 ≤ r))).1.begin (waitStep (T2, []) ((b : Int), (k : Int) + 1, F + 100 * (k : Int) + (if 50 ≤ r then 50 else 0), decide (50 ≤ r))).2 (b + 1)).2 := by
    intro p hr98 hw hp
    rw [hw]
    have he : T2.early = true := by
      unfold TabA.early
      rw [l2, n2]
      simp
      omega
    rw [begin_early he]
    refine ⟨k, r + 1, ⟨by omega, by omega, s2, by rw [n2]; omega, nda2, ?_, oth2, l2, by rw [hp]⟩⟩
    rw [ndb2, if_neg (by omega), bSt_same b F (by omega) (by omega)]
  by_cases c1 : r ≤ 48
  · refine stays _ (by omega) ?_ rfl
    unfold waitStep
    rw [n2, if_neg (by omega : ¬ 50 ≤ r), if_neg (by omega : ¬ 50 ≤ r + 1), if_pos (by simp; omega)]
    simp
    omega
  · by_cases c2 : r = 49
    · subst c2
      refine stays ((b : Int), (k : Int) + 1, F + (m : Int) + 1, true) (by omega) ?_ (by simp; omega)
      unfold waitStep
      rw [n2, if_neg (by simp; omega), if_pos (by simp)]
      rfl
    · by_cases c3 : r ≤ 98
      · refine stays _ c3 ?_ rfl
        unfold waitStep
        rw [n2, if_pos (by omega : 50 ≤ r), if_pos (by omega : 50 ≤ r + 1), if_pos (by simp; omega)]
        simp
        omega
      · have hr99 : r = 99 := by omega
        subst hr99
        have hk : k < 100 := by omega
        -- the ping ends, and a new one begins
        have ends : ∃ T3, waitStep (T2, []) ((b : Int), (k : Int) + 1, F + 100 * (k : Int) + (if 50 ≤ 99 then 50 else 0), decide (50 ≤ 99)) = (T3, []) ∧ T3.self = (a : Int) ∧ T3.now = F + (m : Int) + 1 ∧ T3.nd a = (((a : Int), 0, 1), 0) ∧ T3.nd b = bSt b F (m + 1) ∧ (∀ j, j < 8 → j ≠ a → j ≠ b → T3.nd j = noSt) ∧ T3.last = T2.last := by
          have hw : waitStep (T2, []) ((b : Int), (k : Int) + 1, F + 100 * (k : Int) + (if 50 ≤ 99 then 50 else 0), decide (50 ≤ 99)) = if ((T2.nd b).1.2.2 == 1) = true then (T2.setNd b (((b : Int), (T2.nd b).1.2.1, 2), T2.now), []) else (T2, []) := by
            unfold waitStep
            simp only [n2, hb2]
            rw [if_neg (by simp; omega), if_neg (by simp)]
          rw [hw]
          by_cases hm99 : m = 99
          · subst hm99
            have e : T2.nd b = (((b : Int), 0, 1), F) := by rw [ndb2, if_neg (by omega)]; unfold bSt; rw [if_pos (by omega)]
            rw [e, if_pos (by simp)]
            refine ⟨_, rfl, by rw [setNd_self, s2], by rw [setNd_now, n2], ?_, ?_, fun j hj h1 h2 => ?_, setNd_last _ _ _⟩
            · rw [setNd_nd _ hb _ ha, if_neg hab, nda2]
            · rw [setNd_nd _ hb _ hb, if_pos rfl, n2]
              unfold bSt
              rw [if_neg (by omega), if_pos (by omega)]
              simp
              omega
            · rw [setNd_nd _ hb _ hj, if_neg h2, oth2 j hj h1 h2]
          · have e : T2.nd b = bSt b F (m + 1) := by
              rw [ndb2]
              by_cases h3 : m = 399
              · rw [if_pos h3, h3]; unfold bSt; rw [if_neg (by omega), if_neg (by omega)]
              · rw [if_neg h3, bSt_same b F hm99 h3]
            rw [if_neg (by
              rw [e]
              unfold bSt
              rw [if_neg (by omega)]
              split <;> simp)]
            exact ⟨T2, rfl, s2, n2, nda2, e, oth2, rfl⟩
        obtain ⟨T3, hw, s3, n3, nda3, ndb3, oth3, l3⟩ := ends
        rw [hw]
        have hkb : T3.knows b = true := knows_bSt ndb3
        have hfr : T3.free [] = only b := by rw [free_of hab s3 hkb oth3]; rfl
        have hnx : nx (T3.free []) (b + 1) = b := by rw [hfr]; exact nx_only b (b + 1) hb (by omega)
        have hbg : T3.begins [] (b + 1) = true := by
          unfold TabA.begins TabA.early
          rw [hnx, l3, l2, n3]
          simp [hb]
          omega
        have hfs : T3.fresh [] (b + 1) = ((b : Int), (k : Int) + 1 + 1, F + (m : Int) + 1, false) := by unfold TabA.fresh; rw [hnx, l3, l2, n3]
        have hbe : T3.begin [] (b + 1) = ({ T3 with last := ((b : Int), (k : Int) + 1 + 1, F + (m : Int) + 1, false) }, [((b : Int), (k : Int) + 1 + 1, F + (m : Int) + 1, false)]) := by
          unfold TabA.begin
          rw [if_pos hbg, hfs]
          rfl
        show ∃ k' r', DeadInv a b F (m + 1) k' r' (T3.begin [] (b + 1)).1 (T3.begin [] (b + 1)).2
        rw [hbe]
        have nd4 : ∀ j, ({ T3 with last := ((b : Int), (k : Int) + 1 + 1, F + (m : Int) + 1, false) } : TabA).nd j = T3.nd j := fun j => by unfold TabA.nd; split <;> rfl
        refine ⟨k + 1, 0, ⟨by omega, by omega, s3, by show T3.now = _; rw [n3]; omega, by rw [nd4, nda3], by rw [nd4, ndb3], fun j hj h1 h2 => by rw [nd4, oth3 j hj h1 h2], ?_, ?_⟩⟩
        · show ((b : Int), (k : Int) + 1 + 1, F + (m : Int) + 1, false) = _
          simp
          omega
        · simp
          omega
end Go.Proofs.Ythipdadhhelieaa
