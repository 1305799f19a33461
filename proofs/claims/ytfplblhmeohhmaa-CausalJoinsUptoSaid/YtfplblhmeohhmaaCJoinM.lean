/- Join: the mathematics of its answers; a context in a block. -/
import Derived.Test.YtfplblhmeohhmaaCJoin
import Derived.Test.YtfplblhmeohhmaaCGatherF
import Derived.Test.YtfplblhmeohhmaaCPrunedWalk
namespace Go.Proofs.Ytfplblhmeohhmaa
open Go.RowKit Go.Sort Go.BigFrame
open Go.Lib (byteCells byteCells_length)

theorem normSpec : NormSpec := fun v vd ms ds w hm hd h1 h2 => normal_any gather_any v vd ms ds w hm hd h1 h2
theorem okC_may {ms ds : List DotA} (h : OkC ms ds) : AllMay ms ∧ AllMay ds := ⟨(okM_iff.1 h.2.2.1).1, fun d hd => (h.canon.2.2 d hd).1⟩
theorem allMay_app {a b : List DotA} : AllMay (a ++ b) ↔ AllMay a ∧ AllMay b := by
  unfold AllMay
  constructor
  · exact fun h => ⟨fun m hm => h m (List.mem_append_left _ hm), fun m hm => h m (List.mem_append_right _ hm)⟩
  · rintro ⟨h1, h2⟩ m hm
    rcases List.mem_append.1 hm with hm | hm
    · exact h1 m hm
    · exact h2 m hm
theorem tot_in {ms ds : List DotA} (h : OkM ms) {x : DotA} (hx : 1 ≤ x.2.2) : Tot ms ds x ↔ InC ms ds x := by
  unfold Tot InC
  constructor
  · rintro (⟨m, hm, e1, e2⟩ | hd)
    · have := markOf_of_mem h hm
      rw [e1] at this
      exact .inl ⟨hx, by omega⟩
    · exact .inr hd
  · rintro (⟨_, h2⟩ | hd)
    · rcases markOf_mem (ms := ms) (a := actOf x) with h0 | ⟨m, hm, e1, e2⟩
      · omega
      · exact .inl ⟨m, hm, e1, by omega⟩
    · exact .inr hd
theorem tot_app {a b c d : List DotA} {x : DotA} : Tot (a ++ b) (c ++ d) x ↔ Tot a c x ∨ Tot b d x := by
  unfold Tot
  constructor
  · rintro (⟨m, hm, h⟩ | h)
    · rcases List.mem_append.1 hm with hm | hm
      · exact .inl (.inl ⟨m, hm, h⟩)
      · exact .inr (.inl ⟨m, hm, h⟩)
    · rcases List.mem_append.1 h with h | h
      · exact .inl (.inr h)
      · exact .inr (.inr h)
  · rintro ((⟨m, hm, h⟩ | h) | (⟨m, hm, h⟩ | h))
    · exact .inl ⟨m, List.mem_append_left _ hm, h⟩
    · exact .inr (List.mem_append_left _ h)
    · exact .inl ⟨m, List.mem_append_right _ hm, h⟩
    · exact .inr (List.mem_append_right _ h)
/-- Two contexts that may be, joined. -/
structure Joined (ms ds ms1 ds1 ms' ds' : List DotA) (er : Int) (ms2 ds2 : List DotA) : Prop where
  canon : Canon ms2 ds2
  same : ∀ x : DotA, 1 ≤ x.2.2 → (InC ms2 ds2 x ↔ InC ms ds x ∨ InC ms1 ds1 x)
  ans : (¬ (ms2.length ≤ 64 ∧ ds2.length ≤ 64) ∧ ms' = [] ∧ ds' = [] ∧ er = 4) ∨ (ms2.length ≤ 64 ∧ ds2.length ≤ 64 ∧ ms' = ms2 ∧ ds' = ds2 ∧ er = 0)
theorem joinRel_ok {ms ds ms1 ds1 ms' ds' : List DotA} {er : Int} (h : OkC ms ds) (h1 : OkC ms1 ds1) (hr : JoinRel ms ds ms1 ds1 ms' ds' er) : ∃ ms2 ds2, Joined ms ds ms1 ds1 ms' ds' er ms2 ds2 := by
  rcases hr with ⟨n, _⟩ | ⟨_, _, hr⟩
  · exact absurd ⟨h, h1⟩ n
  · rcases hr with ⟨n, _⟩ | ⟨_, _, ms2, ds2, hc, ht, ha⟩
    · exact absurd ⟨allMay_app.2 ⟨(okC_may h).1, (okC_may h1).1⟩, allMay_app.2 ⟨(okC_may h).2, (okC_may h1).2⟩⟩ n
    · exact ⟨ms2, ds2, hc, fun x hx => by rw [ht x hx, tot_app, tot_in h.2.2.1 hx, tot_in h1.2.2.1 hx], ha⟩
theorem Joined.uniq {a b c d a' b' c' d' p q p' q' u v u' v' : List DotA} {e e' : Int} (h : Joined a b c d p q e u v) (h' : Joined a' b' c' d' p' q' e' u' v')
    (hs : ∀ x : DotA, 1 ≤ x.2.2 → ((InC a b x ∨ InC c d x) ↔ (InC a' b' x ∨ InC c' d' x))) : p = p' ∧ q = q' ∧ e = e' := by
  obtain ⟨rfl, rfl⟩ := canon_eq h.canon h'.canon fun x hx => (h.same x hx).trans ((hs x hx).trans (h'.same x hx).symm)
  rcases h.ans with ⟨l, rfl, rfl, rfl⟩ | ⟨l1, l2, rfl, rfl, rfl⟩
  · rcases h'.ans with ⟨_, rfl, rfl, rfl⟩ | ⟨l1, l2, _⟩
    · exact ⟨rfl, rfl, rfl⟩
    · exact absurd ⟨l1, l2⟩ l
  · rcases h'.ans with ⟨l, _⟩ | ⟨_, _, rfl, rfl, rfl⟩
    · exact absurd ⟨l1, l2⟩ l
    · exact ⟨rfl, rfl, rfl⟩
theorem Joined.err {a b c d p q u v : List DotA} {e : Int} (h : Joined a b c d p q e u v) : e = 4 ∨ e = 0 := by
  rcases h.ans with ⟨_, _, _, e⟩ | ⟨_, _, _, _, e⟩
  · exact .inl e
  · exact .inr e
theorem Joined.short {a b c d p q u v : List DotA} {e : Int} (h : Joined a b c d p q e u v) : p.length ≤ 1099511627776 ∧ q.length ≤ 1099511627776 := by
  rcases h.ans with ⟨_, rfl, rfl, _⟩ | ⟨h1, h2, rfl, rfl, _⟩
  · exact ⟨by simp, by simp⟩
  · exact ⟨by omega, by omega⟩
/-- Joined without an error. -/
theorem Joined.fine {a b c d p q u v : List DotA} {e : Int} (h : Joined a b c d p q e u v) (he : e = 0) : OkC p q ∧ ∀ x : DotA, 1 ≤ x.2.2 → (InC p q x ↔ InC a b x ∨ InC c d x) := by
  rcases h.ans with ⟨_, _, _, e⟩ | ⟨l1, l2, rfl, rfl, _⟩
  · omega
  · exact ⟨h.canon.ok l1 l2, h.same⟩
/-- A context with itself. -/
theorem Joined.self {a b p q u v : List DotA} {e : Int} (h : Joined a b a b p q e u v) (hok : OkC a b) : p = a ∧ q = b ∧ e = 0 := by
  obtain ⟨rfl, rfl⟩ := canon_eq h.canon hok.canon fun x hx => (h.same x hx).trans or_self_iff
  rcases h.ans with ⟨l, _⟩ | ⟨_, _, rfl, rfl, rfl⟩
  · exact absurd ⟨hok.1, hok.2.1⟩ l
  · exact ⟨rfl, rfl, rfl⟩
/-- What is within another one adds nothing to it. -/
theorem Joined.leq {a b c d p q u v : List DotA} {e : Int} (h : Joined a b c d p q e u v) (hok : OkC a b) (hok1 : OkC c d) (he : e = 0) : LeqC a b c d ↔ (p = c ∧ q = d) := by
  obtain ⟨h1, h2⟩ := h.fine he
  rw [leq_iff hok hok1]
  constructor
  · intro hl
    exact canon_eq h1.canon hok1.canon fun x hx => (h2 x hx).trans ⟨fun k => k.elim (hl x hx) id, .inr⟩
  · rintro ⟨rfl, rfl⟩ x hx hi
    exact (h2 x hx).2 (.inl hi)
theorem Joined.left {a b c d p q u v : List DotA} {e : Int} (h : Joined a b c d p q e u v) (hok : OkC a b) (he : e = 0) : LeqC a b p q := by
  obtain ⟨h1, h2⟩ := h.fine he
  rw [leq_iff hok h1]
  exact fun x hx hi => (h2 x hx).2 (.inl hi)
theorem Joined.right {a b c d p q u v : List DotA} {e : Int} (h : Joined a b c d p q e u v) (hok1 : OkC c d) (he : e = 0) : LeqC c d p q := by
  obtain ⟨h1, h2⟩ := h.fine he
  rw [leq_iff hok1 h1]
  exact fun x hx hi => (h2 x hx).2 (.inr hi)
theorem Joined.comm {a b c d p q u v p' q' u' v' : List DotA} {e e' : Int} (h : Joined a b c d p q e u v) (h' : Joined c d a b p' q' e' u' v') : p = p' ∧ q = q' ∧ e = e' := h.uniq h' fun _ _ => or_comm
/-- (x y) z is x (y z). -/
theorem Joined.assoc {xm xd ym yd zm zd pm pd sm sd tm td um ud u1 v1 u2 v2 u3 v3 u4 v4 : List DotA} {e1 e2 e3 e4 : Int}
    (h1 : Joined xm xd ym yd pm pd e1 u1 v1) (h2 : Joined pm pd zm zd sm sd e2 u2 v2) (h3 : Joined ym yd zm zd tm td e3 u3 v3) (h4 : Joined xm xd tm td um ud e4 u4 v4) (k1 : e1 = 0) (k3 : e3 = 0) : sm = um ∧ sd = ud ∧ e2 = e4 := by
  obtain ⟨_, a1⟩ := h1.fine k1
  obtain ⟨_, a3⟩ := h3.fine k3
  refine h2.uniq h4 fun x hx => ?_
  rw [a1 x hx, a3 x hx]
  exact or_assoc
/-- A context lies in a block. -/
structure BX (w : World) (g : Nat) (a b : Value) (ms ds : List DotA) : Prop where
  lt : g < w.heap.size
  c0 : w.cell? ⟨g, 0, none⟩ = some a
  c1 : w.cell? ⟨g, 1, none⟩ = some b
  rd : RdC w (.agg #[a, b]) ms ds
theorem BX.below {w w' : World} {g : Nat} {a b : Value} {ms ds : List DotA} (h : BX w g a b ms ds) (hb : Below w.heap.size w w') : BX w' g a b ms ds :=
  ⟨Nat.lt_of_lt_of_le h.lt hb.size, (hb.cell (p := ⟨g, 0, none⟩) h.lt).trans h.c0, (hb.cell (p := ⟨g, 1, none⟩) h.lt).trans h.c1, h.rd.below hb⟩
theorem BX.made {w : World} {base base1 : Nat} {T T1 : TypeId} {a b : Value} {ms ds : List DotA} (C : TypeId) (hm : OwnD T w base a ms) (hd : OwnD T1 w base1 b ds) : BX (w.alloc (.cells #[a, b] C)) w.heap.size a b ms ds :=
  ⟨by simp, box_cell _ _ _ 0, box_cell _ _ _ 1, (hm.rdC hd).below (below_alloc (Below.refl _ _))⟩
end Go.Proofs.Ytfplblhmeohhmaa
