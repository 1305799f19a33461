/- Slices of numbers, as lists; numbers cut down to a few. -/
import Derived.Test.YthipdadhhelieaaQHear
import Derived.Test.YthipdadhhelieaaWOpenL
namespace Go.Proofs.Ythipdadhhelieaa
open Go.RowKit Go.Sort Go.BigFrame

/-- A slice whose numbers are these. -/
def RdZ (w : World) (A : Option Addr) (zs : List Int) : Prop := ∀ (j : Nat) (z : Int), zs[j]? = some z → ∃ ad : Addr, A = some ad ∧ ad.block < w.heap.size ∧ w.cell? (ad.add j) = some (.int .i64 z) ∧ -9223372036854775808 ≤ z ∧ z ≤ 9223372036854775807
theorem RdZ.below {w w' : World} {A : Option Addr} {zs : List Int} (h : RdZ w A zs) (hb : Below w.heap.size w w') : RdZ w' A zs := fun j z hz => by
  obtain ⟨ad, e, hlt, hc, hw⟩ := h j z hz
  exact ⟨ad, e, Nat.lt_of_lt_of_le hlt hb.size, (hb.cell (by rw [add_block]; exact hlt)).trans hc, hw⟩
theorem RdN.list {w : World} {A : Option Addr} : ∀ {n : Nat}, RdN .i64 w A n → ∃ zs : List Int, zs.length = n ∧ RdZ w A zs
  | 0, _ => ⟨[], rfl, fun j z hz => by simp at hz⟩
  | n + 1, h => by
    obtain ⟨zs, hl, hz⟩ := RdN.list (n := n) fun j hj => h j (by omega)
    obtain ⟨ad, e, hlt, z, hc, h0, h1⟩ := h n (by omega)
    refine ⟨zs ++ [z], by simp [hl], fun j y hy => ?_⟩
    by_cases hj : j < zs.length
    · rw [List.getElem?_append_left hj] at hy
      exact hz j y hy
    · have hj2 : j = n := by
        have := (List.getElem?_eq_some_iff.1 hy).1
        simp at this
        omega
      subst hj2
      rw [List.getElem?_append_right (by omega)] at hy
      simp [hl] at hy
      subst hy
      have e0 : IntKind.i64.min = -9223372036854775808 := by decide
      have e1 : IntKind.i64.max = 9223372036854775807 := by decide
      rw [e0] at h0
      rw [e1] at h1
      exact ⟨ad, e, hlt, hc, h0, h1⟩

theorem wrapU2 (x : Int) : 0 ≤ IntKind.u64.wrap x ∧ IntKind.u64.wrap x ≤ 18446744073709551615 := by
  simp [IntKind.wrap, IntKind.bits, IntKind.signed]
  omega
/-- A number cut down below n. -/
def cutN (n : Nat) (x : Int) : Nat := (IntKind.u64.wrap x % (n : Int)).toNat
theorem cutN_lt {n : Nat} (h : 0 < n) (x : Int) : cutN n x < n := by
  unfold cutN
  have h2 := Int.emod_nonneg (IntKind.u64.wrap x) (show (n : Int) ≠ 0 by omega)
  have h3 := Int.emod_lt_of_pos (IntKind.u64.wrap x) (show (0 : Int) < n by omega)
  omega
theorem cutN_eq {n : Nat} (h : 0 < n) (h1 : n ≤ 1000) (x : Int) : wrap64 ((IntKind.u64.wrap x).tmod (n : Int)) = (cutN n x : Int) := by
  obtain ⟨a, b⟩ := wrapU2 x
  rw [Int.tmod_eq_emod_of_nonneg a]
  unfold cutN
  have h2 := Int.emod_nonneg (IntKind.u64.wrap x) (show (n : Int) ≠ 0 by omega)
  have h3 := Int.emod_lt_of_pos (IntKind.u64.wrap x) (show (0 : Int) < n by omega)
  generalize IntKind.u64.wrap x % (n : Int) = r at *
  obtain ⟨k, rfl⟩ := Int.eq_ofNat_of_zero_le h2
  simp [wrap64]
  omega

/-- A table in which all are alive, and nothing is open, behind so many steps. -/
structure Idle (T : TabA) (ks st : Nat) (nw : Int) (i : Nat) : Prop where
  self : T.self = (ks : Int)
  kn : T.knows ks = true
  alive : AllAlive T
  now : T.now = nw
  nw1 : nw ≤ 450 * (i : Int)
  tim : T.timed
  le : st ≤ 8
  to : T.last.1 = (st : Int) - 1
  s0 : 0 ≤ T.last.2.2.1
  s1 : T.last.2.2.1 ≤ nw
  r0 : 0 ≤ T.last.2.1
  r1 : T.last.2.1 ≤ (i : Int)
theorem Idle.nw0 {T : TabA} {ks st : Nat} {nw : Int} {i : Nat} (h : Idle T ks st nw i) : 0 ≤ nw := by rw [← h.now]; exact h.tim.1
theorem pass_now {T : TabA} {n : Int} (h : T.now ≤ n) : (T.pass n).now = n := by unfold TabA.pass; simp only; rw [if_pos h]
theorem pass_timed {T : TabA} {n : Int} (ht : T.timed) (h : T.now ≤ n) (h1 : n ≤ 4611686018427387904) : (T.pass n).timed := by
  refine ⟨by rw [pass_now h]; exact Int.le_trans ht.1 h, by rw [pass_now h]; exact h1, fun k hk => ?_⟩
  rw [pass_nd', pass_now h]
  exact ⟨(ht.2.2 k hk).1, Int.le_trans (ht.2.2 k hk).2 h⟩
theorem Idle.later {T : TabA} {ks st : Nat} {nw n : Int} {i : Nat} (h : Idle T ks st nw i) (hi : i ≤ 61) (h0 : nw ≤ n) (h1 : n ≤ 450 * ((i + 1 : Nat) : Int)) : Idle (T.pass n) ks st n (i + 1) :=
  ⟨h.self, by have := h.kn; unfold TabA.knows at this ⊢; rw [pass_nd']; exact this, fun k hk => by rw [pass_nd']; exact h.alive k hk, pass_now (by rw [h.now]; exact h0), h1, pass_timed h.tim (by rw [h.now]; exact h0) (by omega), h.le, h.to, h.s0, Int.le_trans h.s1 h0, h.r0, by have := h.r1; show T.last.2.1 ≤ _; omega⟩
theorem Idle.lasts {T : TabA} {ks st : Nat} {nw : Int} {i : Nat} (h : Idle T ks st nw i) (hi : i ≤ 100) : Lasts T st := ⟨h.le, h.to, h.s0, by rw [h.now]; exact h.s1, h.r0, by have := h.r1; omega⟩
theorem Idle.opened {T : TabA} {ks st : Nat} {nw : Int} {i : Nat} (h : Idle T ks st nw i) (v : Value) : Idle { T with opened := v } ks st nw i :=
  ⟨h.self, by rw [knows_opened]; exact h.kn, fun k hk => by rw [nd_opened]; exact h.alive k hk, h.now, h.nw1, timed_opened h.tim v, h.le, h.to, h.s0, h.s1, h.r0, h.r1⟩
theorem Idle.quiet {T : TabA} {ks st : Nat} {nw : Int} {i : Nat} (h : Idle T ks st nw i) : ∀ k, k < 8 → (T.nd k).1.2.2 ≠ 2 := fun k hk => by
  rcases h.alive k hk with e | ⟨s, e⟩ <;> rw [e]
  · simp [noSt]
  · simp
/-- Who is pinged next is another node that is known. -/
theorem next_known {T : TabA} {ks st : Nat} (hs : T.self = (ks : Int)) (hst : st ≤ 8) (h : nx (T.free []) st < 8) : nx (T.free []) st ≠ ks ∧ T.knows (nx (T.free []) st) = true := by
  have hc : 0 < cnt (T.free []) := by
    have := nx_none (T.free []) (free_len _ _) st hst
    simpa [h] using this
  have h1 := (turn_ok (free_len T []) hst hc).2.1
  rw [show sq (T.free []) st 0 = st from rfl, free_at _ _ _ h] at h1
  simp at h1
  refine ⟨fun e => h1.1 (by rw [e, hs]), h1.2⟩
/-- A ping begins. -/
theorem Idle.pinged {T : TabA} {ks st : Nat} {nw : Int} {i : Nat} (h : Idle T ks st nw (i + 1)) (hr : T.last.2.1 ≤ (i : Int)) (hb : T.begins [] st = true) : Idle { T with last := T.fresh [] st } ks (nx (T.free []) st + 1) nw (i + 1) := by
  have hp := begins_parts hb
  have nd4 : ∀ j, ({ T with last := T.fresh [] st } : TabA).nd j = T.nd j := fun j => by unfold TabA.nd; split <;> rfl
  refine ⟨h.self, by have := h.kn; unfold TabA.knows at this ⊢; rw [nd4]; exact this, fun k hk => by rw [nd4]; exact h.alive k hk, h.now, h.nw1, ⟨h.tim.1, h.tim.2.1, fun k hk => by rw [nd4]; exact h.tim.2.2 k hk⟩, by omega, ?_, ?_, ?_, ?_, ?_⟩
  · show ((nx (T.free []) st : Nat) : Int) = _
    omega
  · show 0 ≤ T.now
    exact h.tim.1
  · show T.now ≤ nw
    rw [h.now]
    omega
  · show 0 ≤ T.last.2.1 + 1
    have := h.r0
    omega
  · show T.last.2.1 + 1 ≤ _
    omega
end Go.Proofs.Ythipdadhhelieaa
