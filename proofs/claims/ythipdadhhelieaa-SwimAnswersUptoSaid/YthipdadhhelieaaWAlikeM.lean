/- What is known is the greatest of what was heard: lists only. -/
import Derived.Test.YthipdadhhelieaaWHear1
import Derived.Test.YthipdadhhelieaaWOrder
namespace Go.Proofs.Ythipdadhhelieaa
open Go.RowKit

/-- What is known of a node. -/
def TabA.val (t : TabA) (k : Nat) : Option PeerA := if t.knows k then some (t.nd k).1 else none
/-- Of these rumours the greatest of a node, if any may be. -/
def Kn (L : List PeerA) (k : Nat) (o : Option PeerA) : Prop := match o with
  | none => ∀ y ∈ L, mayP y = true → y.1 ≠ (k : Int)
  | some x => x ∈ L ∧ mayP x = true ∧ x.1 = (k : Int) ∧ ∀ y ∈ L, mayP y = true → y.1 = (k : Int) → greaterB y x = false
theorem kn_nil (k : Nat) : Kn [] k none := fun y hy => by cases hy
theorem knows_set (t : TabA) {k : Nat} (hk : k < 8) {p : PeerA} (hm : mayP p = true) (n : Int) {j : Nat} (hj : j < 8) : (t.setNd k (p, n)).knows j = if j = k then true else t.knows j := by
  unfold TabA.knows
  rw [setNd_nd t hk _ hj]
  by_cases e : j = k
  · rw [if_pos e, if_pos e]
    have : ¬ ((p, n) : StateA) = ((0, 0, 0), 0) := by
      intro hx
      have h1 : p = (0, 0, 0) := congrArg Prod.fst hx
      rw [h1] at hm
      exact absurd hm (by decide)
    simp [this]
  · rw [if_neg e, if_neg e]
theorem val_hear (t : TabA) {k : Nat} (hk : k < 8) (p : PeerA) {j : Nat} (hj : j < 8) : (t.hear k p).val j = if j = k ∧ t.takes k p = true then some p else t.val j := by
  unfold TabA.hear
  by_cases ht : t.takes k p = true
  · rw [if_pos ht]
    have hm : mayP p = true := by
      unfold TabA.takes at ht
      cases hx : mayP p
      · rw [hx] at ht; simp at ht
      · rfl
    unfold TabA.val
    rw [knows_set t hk hm _ hj, setNd_nd t hk _ hj]
    by_cases e : j = k
    · simp [e, ht]
    · simp [e]
  · rw [if_neg ht, if_neg (fun h => ht h.2)]
theorem kn_step {L : List PeerA} {t : TabA} {k j : Nat} {p : PeerA} (hk : k < 8) (hj : j < 8) (hp : p.1 = (k : Int)) (h : Kn L j (t.val j)) : Kn (L ++ [p]) j ((t.hear k p).val j) := by
  rw [val_hear t hk p hj]
  have same : ∀ o, Kn L j o → (mayP p = true → p.1 = (j : Int) → ∃ x, o = some x ∧ greaterB p x = false) → Kn (L ++ [p]) j o := by
    intro o ho hq
    cases o with
    | none =>
      intro y hy hm hyk
      rcases List.mem_append.1 hy with hy | hy
      · exact ho y hy hm hyk
      · have e : y = p := by simpa using hy
        subst e
        obtain ⟨x, hx, _⟩ := hq hm hyk
        cases hx
    | some x =>
      obtain ⟨h1, h2, h3, h4⟩ := ho
      refine ⟨List.mem_append.2 (.inl h1), h2, h3, fun y hy hm hyk => ?_⟩
      rcases List.mem_append.1 hy with hy | hy
      · exact h4 y hy hm hyk
      · have e : y = p := by simpa using hy
        subst e
        obtain ⟨x', hx, hg⟩ := hq hm hyk
        injection hx with hx
        rw [hx]; exact hg
  by_cases e : j = k
  · subst e
    cases ht : t.takes j p
    · rw [if_neg (by simp)]
      refine same _ h fun hm _ => ?_
      unfold TabA.takes at ht
      rw [hm] at ht
      cases hkn : t.knows j
      · rw [hkn] at ht; simp at ht
      · rw [hkn] at ht
        exact ⟨(t.nd j).1, by unfold TabA.val; rw [hkn]; rfl, by simpa using ht⟩
    · rw [if_pos ⟨rfl, rfl⟩]
      unfold TabA.takes at ht
      have hm : mayP p = true := by
        cases hx : mayP p
        · rw [hx] at ht; simp at ht
        · rfl
      rw [hm] at ht
      refine ⟨by simp, hm, hp, fun y hy hmy hyk => ?_⟩
      rcases List.mem_append.1 hy with hy | hy
      · cases hkn : t.knows j
        · unfold TabA.val at h
          rw [hkn] at h
          exact absurd hyk (h y hy hmy)
        · rw [hkn] at ht
          have hg : greaterB p (t.nd j).1 = true := by simpa using ht
          unfold TabA.val at h
          rw [hkn] at h
          have h4 := h.2.2.2 y hy hmy hyk
          cases hx : greaterB y p
          · rfl
          · have := gr_trans hx hg
            rw [this] at h4; cases h4
      · have e : y = p := by simpa using hy
        subst e
        exact gr_self y
  · rw [if_neg (fun h => e h.1)]
    refine same _ h fun _ hpk => absurd ?_ e
    rw [hp] at hpk
    omega
theorem kn_unique {L L' : List PeerA} {k : Nat} {o o' : Option PeerA} (h : Kn L k o) (h' : Kn L' k o') (hm : ∀ y, y ∈ L ↔ y ∈ L') : o = o' := by
  cases o with
  | none =>
    cases o' with
    | none => rfl
    | some x => exact absurd h'.2.2.1 (h x ((hm x).2 h'.1) h'.2.1)
  | some x =>
    cases o' with
    | none => exact absurd h.2.2.1 (h' x ((hm x).1 h.1) h.2.1)
    | some y =>
      have a := h.2.2.2 y ((hm y).2 h'.1) h'.2.1 h'.2.2.1
      have b := h'.2.2.2 x ((hm x).1 h.1) h.2.1 h.2.2.1
      by_cases e : x = y
      · rw [e]
      · have := gr_total (h.2.2.1.trans h'.2.2.1.symm) e
        rw [a, b] at this
        cases this
/-- What is known of the nodes from the third on. -/
def TabA.others (t : TabA) : List PeerA := (List.range 6).filterMap fun j => t.val (j + 2)
theorem peers_others (t : TabA) : t.peers 8 = t.peers 2 ++ t.others := by
  have e : ∀ k, t.peers (k + 1) = t.peers k ++ (match t.val k with | some x => [x] | none => []) := by
    intro k
    rw [peers_succ]
    unfold TabA.val
    by_cases h : t.knows k = true
    · rw [if_pos h, if_pos h]
    · rw [if_neg h, if_neg h]
  unfold TabA.others
  rw [e 7, e 6, e 5, e 4, e 3, e 2]
  show _ = t.peers 2 ++ List.filterMap (fun j => t.val (j + 2)) [0, 1, 2, 3, 4, 5]
  simp only [List.filterMap_cons, List.filterMap_nil, Nat.zero_add, Nat.reduceAdd]
  cases t.val 2 <;> cases t.val 3 <;> cases t.val 4 <;> cases t.val 5 <;> cases t.val 6 <;> cases t.val 7 <;> simp
end Go.Proofs.Ythipdadhhelieaa
