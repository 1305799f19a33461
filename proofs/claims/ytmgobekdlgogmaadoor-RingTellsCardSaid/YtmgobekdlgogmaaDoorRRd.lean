/- Lists of a ring's members in memory. -/
import Derived.Test.YtmgobekdlgogmaaDoorPart2
import Derived.Deep.RegionLaw
import Derived.Deep.Cut
namespace Go.Proofs.YtmgobekdlgogmaaDoor
open Go.RowKit
open Go.Lib (byteCells byteCells_length)

/-- A member: its node, epoch, stamp, status. -/
abbrev MemA := Int × Int × Int × Int
def memV (m : MemA) : Value := .agg #[.int .i64 m.1, .int .i64 m.2.1, .int .i64 m.2.2.1, .int .i64 m.2.2.2]
theorem add_litR (a : Addr) (k : Nat) (hk : 0 < k) : a.add k = ⟨a.block, a.off + k, none⟩ := by unfold Addr.add; rw [if_neg (by omega)]
/-- The four cells of a member. -/
def MemAt (w : World) (p : Addr) (d : MemA) : Prop := w.cell? p = some (.int .i64 d.1) ∧ w.cell? ⟨p.block, p.off + 1, none⟩ = some (.int .i64 d.2.1) ∧ w.cell? ⟨p.block, p.off + 2, none⟩ = some (.int .i64 d.2.2.1) ∧ w.cell? ⟨p.block, p.off + 3, none⟩ = some (.int .i64 d.2.2.2)
theorem MemAt.below {w w' : World} {p : Addr} {d : MemA} (h : MemAt w p d) {B : Nat} (hb : Below B w w') (hp : p.block < B) : MemAt w' p d :=
  ⟨(hb.cell hp).trans h.1, (hb.cell (p := ⟨_, _, none⟩) hp).trans h.2.1, (hb.cell (p := ⟨_, _, none⟩) hp).trans h.2.2.1, (hb.cell (p := ⟨_, _, none⟩) hp).trans h.2.2.2⟩
/-- From this address on these members stand. -/
def RdMA (w : World) (hi : Nat) (A : Option Addr) (ds : List MemA) : Prop := ∀ (j : Nat) (d : MemA), ds[j]? = some d → ∃ ad : Addr, A = some ad ∧ ad.block < hi ∧ MemAt w (ad.add (j * 4)) d
/-- The slice value reads as these members. -/
def RdM (w : World) (v : Value) (ds : List MemA) : Prop := ∃ A c, v = .slice A ds.length c ∧ ds.length ≤ c ∧ RdMA w w.heap.size A ds
theorem RdMA.below {w w' : World} {hi : Nat} {A : Option Addr} {ds : List MemA} (h : RdMA w hi A ds) {B : Nat} (hb : Below B w w') (hB : hi ≤ B) : RdMA w' hi A ds := fun j d hd => by
  obtain ⟨ad, e, h0, h1⟩ := h j d hd
  exact ⟨ad, e, h0, h1.below hb (by rw [add_block]; omega)⟩
theorem RdMA.mono {w : World} {hi hi' : Nat} {A : Option Addr} {ds : List MemA} (h : RdMA w hi A ds) (hh : hi ≤ hi') : RdMA w hi' A ds := fun j d hd => by
  obtain ⟨ad, e, h0, h1⟩ := h j d hd
  exact ⟨ad, e, Nat.lt_of_lt_of_le h0 hh, h1⟩
theorem RdM.below {w w' : World} {v : Value} {ds : List MemA} (h : RdM w v ds) (hb : Below w.heap.size w w') : RdM w' v ds := by
  obtain ⟨A, c, e, hc, hx⟩ := h
  exact ⟨A, c, e, hc, (hx.below hb (Nat.le_refl _)).mono hb.size⟩
theorem RdM.nil (w : World) : RdM w (.slice none 0 0) [] := ⟨none, 0, rfl, Nat.le_refl _, fun j d hd => by simp at hd⟩
/-- The cells of members, one behind the other. -/
def mcells (ds : List MemA) : List Value := ds.flatMap fun d => [.int .i64 d.1, .int .i64 d.2.1, .int .i64 d.2.2.1, .int .i64 d.2.2.2]
theorem mcells_cons (d : MemA) (ds : List MemA) : mcells (d :: ds) = .int .i64 d.1 :: .int .i64 d.2.1 :: .int .i64 d.2.2.1 :: .int .i64 d.2.2.2 :: mcells ds := rfl
theorem mcells_snoc (ds : List MemA) (d : MemA) : mcells (ds ++ [d]) = mcells ds ++ [.int .i64 d.1, .int .i64 d.2.1, .int .i64 d.2.2.1, .int .i64 d.2.2.2] := by unfold mcells; rw [List.flatMap_append]; rfl
theorem mcells_length : ∀ ds : List MemA, (mcells ds).length = ds.length * 4
  | [] => rfl
  | d :: r => by rw [mcells_cons]; simp only [List.length_cons, mcells_length r]; omega
theorem mcells_at : ∀ (ds : List MemA) (j : Nat) (d : MemA), ds[j]? = some d → (mcells ds)[j * 4]? = some (.int .i64 d.1) ∧ (mcells ds)[j * 4 + 1]? = some (.int .i64 d.2.1) ∧ (mcells ds)[j * 4 + 2]? = some (.int .i64 d.2.2.1) ∧ (mcells ds)[j * 4 + 3]? = some (.int .i64 d.2.2.2)
  | [], _, _, h => by simp at h
  | x :: r, 0, d, h => by
    have e : x = d := by simpa using h
    subst e
    exact ⟨rfl, rfl, rfl, rfl⟩
  | x :: r, j + 1, d, h => by
    have := mcells_at r j d (by simpa using h)
    rw [mcells_cons, show (j + 1) * 4 = j * 4 + 4 by omega]
    simpa using this
/-- A slice of the call's own that holds these members. -/
def OwnM (T : TypeId) (w : World) (base : Nat) (v : Value) (ds : List MemA) : Prop := w.ownsRow base T 4 v ds.length (mcells ds)
theorem OwnM.rd {T : TypeId} {w : World} {base : Nat} {v : Value} {ds : List MemA} (h : OwnM T w base v ds) : RdM w v ds := by
  rcases h.2 with ⟨rfl, hn⟩ | ⟨g, cap, cur, rfl, hb, hg, hc, _⟩
  · have : ds = [] := List.length_eq_zero_iff.1 hn
    subst this
    exact RdM.nil w
  · refine ⟨_, cap, rfl, hc, fun j d hd => ⟨⟨g, 0, none⟩, rfl, (World.ownsRow.lt h g rfl).2, ?_⟩⟩
    obtain ⟨a0, a1, a2, a3⟩ := mcells_at ds j d hd
    have c0 := World.ownsRow.cells h (g := g) rfl _ _ a0
    have c1 := World.ownsRow.cells h (g := g) rfl _ _ a1
    have c2 := World.ownsRow.cells h (g := g) rfl _ _ a2
    have c3 := World.ownsRow.cells h (g := g) rfl _ _ a3
    have e : ∀ k, (⟨g, 0, none⟩ : Addr).add k = ⟨g, k, none⟩ := fun k => by unfold Addr.add; split <;> simp_all
    rw [e] at c0 c1 c2 c3
    rw [e]
    exact ⟨c0, c1, c2, c3⟩
theorem OwnM.below {T : TypeId} {w w' : World} {base : Nat} {v : Value} {ds : List MemA} (h : OwnM T w base v ds) (hb : Below w.heap.size w w') : OwnM T w' base v ds := by
  refine World.ownsRow.kept (row := none) h ⟨hb.os, hb.tape, hb.output, hb.size, fun k hk _ => hb.block k hk⟩ ?_
  cases v.ownBlock <;> simp
theorem ownM_nil (T : TypeId) (w : World) (base : Nat) : OwnM T w base (.slice none 0 0) [] := World.ownsRow_nil w base T 4
theorem OwnM.base_le {T : TypeId} {w : World} {lo base : Nat} {v : Value} {ds : List MemA} (h : OwnM T w base v ds) (hb : lo ≤ base) : OwnM T w lo v ds := by
  refine ⟨h.1, ?_⟩
  rcases h.2 with hn | ⟨g, cap, cur, hv, hg, r⟩
  · exact .inl hn
  · exact .inr ⟨g, cap, cur, hv, by omega, r⟩
theorem ownM_slice {T : TypeId} {w : World} {base : Nat} {v : Value} {ds : List MemA} (h : OwnM T w base v ds) : ∃ A c, v = .slice A ds.length c := by
  rcases h.2 with ⟨rfl, hn⟩ | ⟨g, cap, cur, rfl, _⟩
  · exact ⟨none, 0, by rw [hn]⟩
  · exact ⟨_, cap, rfl⟩
/-- A ring lies in a value: its numbers, its members. -/
def RdR (w : World) (v : Value) (p c s : Int) (ms : List MemA) : Prop := ∃ mv, v = .agg #[.int .i64 p, .int .i64 c, .int .i64 s, mv] ∧ RdM w mv ms
theorem RdR.below {w w' : World} {v : Value} {p c s : Int} {ms : List MemA} (h : RdR w v p c s ms) (hb : Below w.heap.size w w') : RdR w' v p c s ms := by
  obtain ⟨mv, e, hm⟩ := h
  exact ⟨mv, e, hm.below hb⟩

def nodeB (n : Int) : Bool := decide (0 ≤ n) && decide (n < 8)
def withinB (n m : Int) : Bool := decide (1 ≤ n) && decide (n ≤ m)
/-- A member that may be. -/
def okMem (m : MemA) : Bool := nodeB m.1 && withinB m.2.1 524288 && withinB m.2.2.1 1099511627776 && (decide (m.2.2.2 = 1) || decide (m.2.2.2 = 2))
/-- Members that may be: each may, and their nodes rise. -/
def OkMs (ms : List MemA) : Prop := (∀ (j : Nat) (d : MemA), ms[j]? = some d → okMem d = true) ∧ ∀ (j : Nat) (a b : MemA), ms[j]? = some a → ms[j + 1]? = some b → a.1 < b.1
theorem OkMs.take {ms : List MemA} (h : OkMs ms) (k : Nat) : OkMs (ms.take k) := by
  refine ⟨fun j d hd => ?_, fun j a b ha hb => ?_⟩
  · rw [List.getElem?_take] at hd
    split at hd
    · exact h.1 j d hd
    · cases hd
  · rw [List.getElem?_take] at ha hb
    split at hb
    · rw [if_pos (by omega)] at ha
      exact h.2 j a b ha hb
    · cases hb
theorem OkMs.snoc {ms : List MemA} {k : Nat} {d : MemA} (h : OkMs (ms.take k)) (hd : ms[k]? = some d) (hm : okMem d = true) (hp : ∀ a, k ≠ 0 → ms[k - 1]? = some a → a.1 < d.1) : OkMs (ms.take (k + 1)) := by
  refine ⟨fun j x hx => ?_, fun j a b ha hb => ?_⟩
  · rw [List.getElem?_take] at hx
    split at hx
    · by_cases e : j = k
      · subst e; rw [hd] at hx; injection hx with hx; rw [← hx]; exact hm
      · exact h.1 j x (by rw [List.getElem?_take, if_pos (by omega)]; exact hx)
    · cases hx
  · rw [List.getElem?_take] at ha hb
    split at hb
    · rw [if_pos (by omega)] at ha
      by_cases e : j + 1 = k
      · subst e
        rw [hd] at hb; injection hb with hb; subst hb
        exact hp a (by omega) ha
      · exact h.2 j a b (by rw [List.getElem?_take, if_pos (by omega)]; exact ha) (by rw [List.getElem?_take, if_pos (by omega)]; exact hb)
    · cases hb
theorem OkMs.nil : OkMs [] := ⟨fun j d h => by simp at h, fun j a b h => by simp at h⟩
/-- A shape that may be. -/
def okShape (p c s : Int) : Bool := isPow p && withinB c 5 && withinB s 16
/-- A bool that tells whether. -/
def TellsR (P : Prop) (w : World) (e : Ending) (w' : World) : Prop := ∃ b : Bool, e = .returned (.bool b) ∧ (b = true ↔ P) ∧ Below w.heap.size w w'
end Go.Proofs.YtmgobekdlgogmaaDoor
