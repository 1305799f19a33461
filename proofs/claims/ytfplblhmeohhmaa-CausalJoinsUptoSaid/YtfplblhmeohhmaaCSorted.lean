/- What the sort leaves, as lists; and a row of spans before and behind it. -/
import Derived.Test.YtfplblhmeohhmaaCSpanL
namespace Go.Proofs.Ytfplblhmeohhmaa
open Go.Shelf Go.RowKit Go.Lib Go.Sort

theorem sorted_list {d d' : Array SpanA} (hp : PermIn 0 d.size d d') (hs : SortedIn (ltOf cmpS) 0 d.size d') : d'.toList.Perm d.toList ∧ d'.toList.Pairwise fun a b => ¬ ltS b a := by
  obtain ⟨h1, _, h2⟩ := hp
  constructor
  · have e1 : d'.extract 0 d.size = d' := by rw [← h1, Array.extract_size]
    have e2 : d.extract 0 d.size = d := Array.extract_size
    rw [e1, e2] at h2
    exact h2
  · rw [List.pairwise_iff_getElem]
    intro i j hi hj hij
    have hi' : i < d'.size := by simpa using hi
    have hj' : j < d'.size := by simpa using hj
    have := hs i j (Nat.zero_le _) hij (by omega)
    rw [getElem!_pos d' i hi', getElem!_pos d' j hj'] at this
    intro hl
    rw [← ltOf_cmpS] at hl
    simp only [Array.getElem_toList] at hl
    rw [this] at hl
    cases hl
theorem encS_len (s : SpanA) : (encS s).length = 4 := rfl
/-- A row of one's own is a row that the sort takes. -/
theorem OwnS.holds {T : TypeId} {w : World} {base g n c : Nat} {ss : List SpanA} (h : OwnS T w base (.slice (some ⟨g, 0, none⟩) n c) ss) : HoldsK encS 4 w g 0 ss.toArray := by
  intro j hj
  rw [size_flatK] at hj
  have hj' : j < ss.length * 4 := by simpa using hj
  have hi : j / 4 < ss.length := by omega
  constructor
  · rw [get_flatK encS 4 ss.toArray j hj]
    obtain ⟨s, hs⟩ : ∃ s, ss[j / 4]? = some s := ⟨ss[j / 4], List.getElem?_eq_getElem hi⟩
    have e0 : ss.toArray[j / 4]! = s := by
      rw [getElem!_pos ss.toArray (j / 4) (by simpa using hi)]
      obtain ⟨_, e⟩ := List.getElem?_eq_some_iff.1 hs
      simpa using e
    rw [e0]
    obtain ⟨a0, a1, a2, a3⟩ := scells_at ss (j / 4) s hs
    have cl : ∀ k u, (scells ss)[k]? = some u → w.cell? ⟨g, k, none⟩ = some u := fun k u hu => by
      have := World.ownsRow.cells h (g := g) rfl k u hu
      rwa [show (⟨g, 0, none⟩ : Addr).add k = ⟨g, k, none⟩ by unfold Addr.add; split <;> simp_all] at this
    have hm : j % 4 < 4 := Nat.mod_lt _ (by decide)
    have hd : j = j / 4 * 4 + j % 4 := by omega
    rw [Nat.zero_add]
    generalize j % 4 = r at hm hd ⊢
    generalize j / 4 = q at *
    subst hd
    rcases (by omega : r = 0 ∨ r = 1 ∨ r = 2 ∨ r = 3) with rfl | rfl | rfl | rfl
    · exact cl _ _ a0
    · exact cl _ _ a1
    · exact cl _ _ a2
    · exact cl _ _ a3
  · rcases h.2 with ⟨e, _⟩ | ⟨g', cap, cur, e, _, hg, _⟩
    · cases e
    · injection e with e1 e2 e3
      injection e1 with e1
      injection e1 with e1
      subst e1
      exact frozen_of_row w g _ _ _ hg
/-- A row of spans reads as a slice. -/
theorem rdS_of_holds {w : World} {g c : Nat} {d : Array SpanA} (h : HoldsK encS 4 w g 0 d) (hg : g < w.heap.size) (hc : d.size ≤ c) : RdS w (.slice (some ⟨g, 0, none⟩) d.size c) d.toList := by
  refine ⟨some ⟨g, 0, none⟩, c, by simp, by simpa using hc, fun j s hj => ⟨_, rfl, hg, ?_⟩⟩
  obtain ⟨hi, e⟩ := List.getElem?_eq_some_iff.1 hj
  have hi' : j < d.size := by simpa using hi
  have e0 : d[j]! = s := by rw [getElem!_pos d j hi']; simpa using e
  have k0 := (HoldsK.cell h hi' (c := 0) (by decide)).1
  have k1 := (HoldsK.cell h hi' (c := 1) (by decide)).1
  have k2 := (HoldsK.cell h hi' (c := 2) (by decide)).1
  have k3 := (HoldsK.cell h hi' (c := 3) (by decide)).1
  rw [e0, Nat.zero_add] at k0 k1 k2 k3
  have ea : (⟨g, 0, none⟩ : Addr).add (j * 4) = ⟨g, j * 4, none⟩ := by unfold Addr.add; split <;> simp_all
  rw [ea]
  exact ⟨k0, k1, k2, k3⟩
/-- What the sort leaves, read. -/
theorem sorted_rd {w : World} {g c m : Nat} {d d' : Array SpanA} {os : Array Obj} (h : HoldsK encS 4 w g 0 d) (hg : g < w.heap.size) (hs : d'.size = d.size) (hc : d.size ≤ c) : RdS (sortWorldK encS 4 w g 0 m d' os) (.slice (some ⟨g, 0, none⟩) d.size c) d'.toList := by
  rw [← hs]
  have hz : (putRowK encS 4 (Sort.ahead w m) g 0 d').heap.size = w.heap.size := by simp [putRowK, putRow, mapBlock, Sort.ahead]
  refine rdS_of_holds (holdsK_grow encS 4 _ os g 0 d' (by rw [hz]; exact hg) (holdsK_putRowK encS 4 (Sort.ahead w m) g 0 d d' (holdsK_ahead encS 4 w m g 0 d h) hs)) ?_ (by omega)
  unfold sortWorldK
  simp only [grow, Array.size_append]
  rw [hz]
  omega
end Go.Proofs.Ytfplblhmeohhmaa
