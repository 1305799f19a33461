/- Lists of dots (and of marks) in memory. -/
import Derived.Test.YtnlohijpcnoamaaCCmp2
namespace Go.Proofs.Ytnlohijpcnoamaa
open Go.RowKit
open Go.Lib (byteCells byteCells_length)

theorem add_lit (a : Addr) (k : Nat) (hk : 0 < k) : a.add k = ⟨a.block, a.off + k, none⟩ := by unfold Addr.add; rw [if_neg (by omega)]
theorem add_add (a : Addr) (m n : Nat) : (a.add m).add n = a.add (m + n) := by
  unfold Addr.add
  by_cases hm : m = 0
  · subst hm; simp
  · by_cases hn : n = 0
    · subst hn; simp
    · simp [hm, hn, Nat.add_assoc]

/-- The three cells of a dot. -/
def DotAt (w : World) (p : Addr) (d : DotA) : Prop := w.cell? p = some (.int .i64 d.1) ∧ w.cell? ⟨p.block, p.off + 1, none⟩ = some (.int .i64 d.2.1) ∧ w.cell? ⟨p.block, p.off + 2, none⟩ = some (.int .i64 d.2.2)
theorem DotAt.below {w w' : World} {p : Addr} {d : DotA} (h : DotAt w p d) {B : Nat} (hb : Below B w w') (hp : p.block < B) : DotAt w' p d :=
  ⟨(hb.cell hp).trans h.1, (hb.cell (p := ⟨_, _, none⟩) hp).trans h.2.1, (hb.cell (p := ⟨_, _, none⟩) hp).trans h.2.2⟩

/-- From this address on these dots stand. -/
def RdDA (w : World) (hi : Nat) (A : Option Addr) (ds : List DotA) : Prop := ∀ (j : Nat) (d : DotA), ds[j]? = some d → ∃ ad : Addr, A = some ad ∧ ad.block < hi ∧ DotAt w (ad.add (j * 3)) d
/-- The slice value reads as these dots. -/
def RdD (w : World) (v : Value) (ds : List DotA) : Prop := ∃ A c, v = .slice A ds.length c ∧ ds.length ≤ c ∧ RdDA w w.heap.size A ds
theorem RdDA.below {w w' : World} {hi : Nat} {A : Option Addr} {ds : List DotA} (h : RdDA w hi A ds) {B : Nat} (hb : Below B w w') (hB : hi ≤ B) : RdDA w' hi A ds := fun j d hd => by
  obtain ⟨ad, e, h0, h1⟩ := h j d hd
  exact ⟨ad, e, h0, h1.below hb (by rw [add_block]; omega)⟩
theorem RdDA.mono {w : World} {hi hi' : Nat} {A : Option Addr} {ds : List DotA} (h : RdDA w hi A ds) (hh : hi ≤ hi') : RdDA w hi' A ds := fun j d hd => by
  obtain ⟨ad, e, h0, h1⟩ := h j d hd
  exact ⟨ad, e, Nat.lt_of_lt_of_le h0 hh, h1⟩
theorem RdD.below {w w' : World} {v : Value} {ds : List DotA} (h : RdD w v ds) (hb : Below w.heap.size w w') : RdD w' v ds := by
  obtain ⟨A, c, e, hc, hx⟩ := h
  exact ⟨A, c, e, hc, (hx.below hb (Nat.le_refl _)).mono hb.size⟩
theorem RdD.nil (w : World) : RdD w (.slice none 0 0) [] := ⟨none, 0, rfl, Nat.le_refl _, fun j d hd => by simp at hd⟩

/-- The cells of dots, one behind the other. -/
def dcells (ds : List DotA) : List Value := ds.flatMap fun d => [.int .i64 d.1, .int .i64 d.2.1, .int .i64 d.2.2]
theorem dcells_cons (d : DotA) (ds : List DotA) : dcells (d :: ds) = .int .i64 d.1 :: .int .i64 d.2.1 :: .int .i64 d.2.2 :: dcells ds := rfl
theorem dcells_append (a b : List DotA) : dcells (a ++ b) = dcells a ++ dcells b := by unfold dcells; rw [List.flatMap_append]
theorem dcells_snoc (ds : List DotA) (d : DotA) : dcells (ds ++ [d]) = dcells ds ++ [.int .i64 d.1, .int .i64 d.2.1, .int .i64 d.2.2] := dcells_append ds [d]
theorem dcells_length : ∀ ds : List DotA, (dcells ds).length = ds.length * 3
  | [] => rfl
  | d :: r => by rw [dcells_cons]; simp only [List.length_cons, dcells_length r]; omega
theorem dcells_at : ∀ (ds : List DotA) (j : Nat) (d : DotA), ds[j]? = some d → (dcells ds)[j * 3]? = some (.int .i64 d.1) ∧ (dcells ds)[j * 3 + 1]? = some (.int .i64 d.2.1) ∧ (dcells ds)[j * 3 + 2]? = some (.int .i64 d.2.2)
  | [], _, _, h => by simp at h
  | x :: r, 0, d, h => by
    have e : x = d := by simpa using h
    subst e
    exact ⟨rfl, rfl, rfl⟩
  | x :: r, j + 1, d, h => by
    have := dcells_at r j d (by simpa using h)
    rw [dcells_cons, show (j + 1) * 3 = j * 3 + 3 by omega]
    simpa using this
/-- A slice of the call's own that holds these dots. -/
def OwnD (T : TypeId) (w : World) (base : Nat) (v : Value) (ds : List DotA) : Prop := w.ownsRow base T 3 v ds.length (dcells ds)
theorem OwnD.rd {T : TypeId} {w : World} {base : Nat} {v : Value} {ds : List DotA} (h : OwnD T w base v ds) : RdD w v ds := by
  rcases h.2 with ⟨rfl, hn⟩ | ⟨g, cap, cur, rfl, hb, hg, hc, _⟩
  · have : ds = [] := List.length_eq_zero_iff.1 hn
    subst this
    exact RdD.nil w
  · refine ⟨_, cap, rfl, hc, fun j d hd => ⟨⟨g, 0, none⟩, rfl, (World.ownsRow.lt h g rfl).2, ?_⟩⟩
    obtain ⟨a0, a1, a2⟩ := dcells_at ds j d hd
    have c0 := World.ownsRow.cells h (g := g) rfl _ _ a0
    have c1 := World.ownsRow.cells h (g := g) rfl _ _ a1
    have c2 := World.ownsRow.cells h (g := g) rfl _ _ a2
    have e : ∀ k, (⟨g, 0, none⟩ : Addr).add k = ⟨g, k, none⟩ := fun k => by unfold Addr.add; split <;> simp_all
    rw [e] at c0 c1 c2
    rw [e]
    exact ⟨c0, c1, c2⟩
theorem OwnD.below {T : TypeId} {w w' : World} {base : Nat} {v : Value} {ds : List DotA} (h : OwnD T w base v ds) (hb : Below w.heap.size w w') : OwnD T w' base v ds := by
  refine World.ownsRow.kept (row := none) h ⟨hb.os, hb.tape, hb.output, hb.size, fun k hk _ => hb.block k hk⟩ ?_
  cases v.ownBlock <;> simp
theorem ownD_nil (T : TypeId) (w : World) (base : Nat) : OwnD T w base (.slice none 0 0) [] := World.ownsRow_nil w base T 3
theorem OwnD.base_le {T : TypeId} {w : World} {lo base : Nat} {v : Value} {ds : List DotA} (h : OwnD T w base v ds) (hb : lo ≤ base) : OwnD T w lo v ds := by
  refine ⟨h.1, ?_⟩
  rcases h.2 with hn | ⟨g, cap, cur, hv, hg, r⟩
  · exact .inl hn
  · exact .inr ⟨g, cap, cur, hv, by omega, r⟩

/-! ### contexts that may be -/
/-- Marks that may be: each may, and their actors rise. -/
def OkM (ms : List DotA) : Prop := (∀ (j : Nat) (d : DotA), ms[j]? = some d → mayB d = true) ∧ ∀ (j : Nat) (a b : DotA), ms[j]? = some a → ms[j + 1]? = some b → cmpA (actOf a) (actOf b) < 0
theorem OkM.take {ms : List DotA} (h : OkM ms) (k : Nat) : OkM (ms.take k) := by
  refine ⟨fun j d hd => ?_, fun j a b ha hb => ?_⟩
  · rw [List.getElem?_take] at hd
    split at hd
    · exact h.1 j d hd
    · cases hd
  · rw [List.getElem?_take] at ha hb
    split at hb
    · rw [if_pos (by omega)] at ha
      exact h.2 j a b ha hb
    · cases hb
theorem OkM.snoc {ms : List DotA} {k : Nat} {d : DotA} (h : OkM (ms.take k)) (hd : ms[k]? = some d) (hm : mayB d = true) (hp : ∀ a, k ≠ 0 → ms[k - 1]? = some a → cmpA (actOf a) (actOf d) < 0) : OkM (ms.take (k + 1)) := by
  refine ⟨fun j x hx => ?_, fun j a b ha hb => ?_⟩
  · rw [List.getElem?_take] at hx
    split at hx
    · by_cases e : j = k
      · subst e; rw [hd] at hx; injection hx with hx; rw [← hx]; exact hm
      · exact h.1 j x (by rw [List.getElem?_take, if_pos (by omega)]; exact hx)
    · cases hx
  · rw [List.getElem?_take] at ha hb
    split at hb
    · rw [if_pos (by omega)] at ha
      by_cases e : j + 1 = k
      · subst e
        rw [hd] at hb; injection hb with hb; subst hb
        exact hp a (by omega) ha
      · exact h.2 j a b (by rw [List.getElem?_take, if_pos (by omega)]; exact ha) (by rw [List.getElem?_take, if_pos (by omega)]; exact hb)
    · cases hb
theorem OkM.nil : OkM [] := ⟨fun j d h => by simp at h, fun j a b h => by simp at h⟩
end Go.Proofs.Ytnlohijpcnoamaa
