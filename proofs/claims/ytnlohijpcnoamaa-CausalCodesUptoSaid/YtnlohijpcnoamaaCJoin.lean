/- Join: the program's. -/
import Derived.Test.YtnlohijpcnoamaaCConcat
import Derived.Test.YtnlohijpcnoamaaCUniq
import Derived.Deep.RegionHeld3
namespace Go.Proofs.Ytnlohijpcnoamaa
open Go.RowKit Go.Sort Go.BigFrame
open Go.Lib (byteCells byteCells_length)

/-- An answer of a context and an error. -/
def AnsC (R : List DotA → List DotA → Int → Prop) (w : World) (e : Ending) (w' : World) : Prop :=
  ∃ (ms ds : List DotA) (A A1 : Option Addr) (n n1 c c1 : Nat) (er : Int), e = .returned (.tuple #[.agg #[.slice A n c, .slice A1 n1 c1], .int .i64 er]) ∧ OwnD 53 w' w.heap.size (.slice A n c) ms ∧ OwnD 55 w' w.heap.size (.slice A1 n1 c1) ds ∧ Below w.heap.size w w' ∧ R ms ds er
/-- What Normal answers. -/
def NormRel (marks dots : List DotA) (ms ds : List DotA) (er : Int) : Prop :=
  (¬ (AllMay marks ∧ AllMay dots) ∧ ms = [] ∧ ds = [] ∧ er = 1) ∨
    (AllMay marks ∧ AllMay dots ∧ ∃ ms2 ds2, Canon ms2 ds2 ∧ (∀ x : DotA, 1 ≤ x.2.2 → (InC ms2 ds2 x ↔ Tot marks dots x)) ∧
      ((¬ (ms2.length ≤ 64 ∧ ds2.length ≤ 64) ∧ ms = [] ∧ ds = [] ∧ er = 4) ∨ (ms2.length ≤ 64 ∧ ds2.length ≤ 64 ∧ ms = ms2 ∧ ds = ds2 ∧ er = 0)))
theorem normRel_of {marks dots : List DotA} {w : World} {e : Ending} {w' : World} (h : NormPost marks dots w e w') : AnsC (NormRel marks dots) w e w' := by
  obtain ⟨hb, h | ⟨h0, h00, ms, ds, hc, ht, h | ⟨h1, h2, mv, dv, rfl, hm, hd⟩⟩⟩ := h
  · exact ⟨[], [], none, none, 0, 0, 0, 0, 1, h.2, ownD_nil _ _ _, ownD_nil _ _ _, hb, .inl ⟨h.1, rfl, rfl, rfl⟩⟩
  · exact ⟨[], [], none, none, 0, 0, 0, 0, 4, h.2, ownD_nil _ _ _, ownD_nil _ _ _, hb, .inr ⟨h0, h00, ms, ds, hc, ht, .inl ⟨h.1, rfl, rfl, rfl⟩⟩⟩
  · obtain ⟨A, c, rfl⟩ := ownD_slice hm
    obtain ⟨A1, c1, rfl⟩ := ownD_slice hd
    exact ⟨ms, ds, A, A1, _, _, c, c1, 0, rfl, hm, hd, hb, .inr ⟨h0, h00, ms, ds, hc, ht, .inr ⟨h1, h2, rfl, rfl, rfl⟩⟩⟩
/-- The answer hangs on the dots alone. -/
theorem normRel_eq {m d m' d' ms ds ms' ds' : List DotA} {er er' : Int} (h : NormRel m d ms ds er) (h' : NormRel m' d' ms' ds' er') (hm : AllMay m ∧ AllMay d ↔ AllMay m' ∧ AllMay d') (ht : ∀ x : DotA, 1 ≤ x.2.2 → (Tot m d x ↔ Tot m' d' x)) :
    ms = ms' ∧ ds = ds' ∧ er = er' := by
  rcases h with ⟨n, rfl, rfl, rfl⟩ | ⟨a1, a2, ms2, ds2, c, t, r⟩
  · rcases h' with ⟨_, rfl, rfl, rfl⟩ | ⟨b1, b2, _⟩
    · exact ⟨rfl, rfl, rfl⟩
    · exact absurd (hm.2 ⟨b1, b2⟩) n
  · rcases h' with ⟨n, _⟩ | ⟨_, _, ms3, ds3, c', t', r'⟩
    · exact absurd (hm.1 ⟨a1, a2⟩) n
    · obtain ⟨rfl, rfl⟩ := canon_eq c c' fun x hx => (t x hx).trans ((ht x hx).trans (t' x hx).symm)
      rcases r with ⟨l, rfl, rfl, rfl⟩ | ⟨l1, l2, rfl, rfl, rfl⟩
      · rcases r' with ⟨_, rfl, rfl, rfl⟩ | ⟨l1, l2, _⟩
        · exact ⟨rfl, rfl, rfl⟩
        · exact absurd ⟨l1, l2⟩ l
      · rcases r' with ⟨l, _⟩ | ⟨_, _, rfl, rfl, rfl⟩
        · exact absurd ⟨l1, l2⟩ l
        · exact ⟨rfl, rfl, rfl⟩
/-- What Join answers. -/
def JoinRel (ms ds ms1 ds1 : List DotA) (ms' ds' : List DotA) (er : Int) : Prop :=
  (¬ (OkC ms ds ∧ OkC ms1 ds1) ∧ ms' = [] ∧ ds' = [] ∧ er = 30) ∨ (OkC ms ds ∧ OkC ms1 ds1 ∧ NormRel (ms ++ ms1) (ds ++ ds1) ms' ds' er)
theorem below_alloc {w w' : World} {o : Obj} (h : Below w.heap.size w w') : Below w.heap.size w (w'.alloc o) := h.alloc h.size o
theorem below_size {w w' : World} (h : Below w.heap.size w w') : w.heap.size ≤ w'.heap.size := h.size
theorem below_drew {w w' : World} (h : Below w.heap.size w w') : Below w.heap.size w w'.drew := h.drew
theorem below_next {w a b : World} (h : Below w.heap.size w a) (k : Below a.heap.size a b) : Below w.heap.size w b := h.trans (k.mono h.size)
theorem box_at (w : World) (cs : Array Value) (T : TypeId) (i : Nat) {g : Nat} (hg : g = w.heap.size) : (w.alloc (.cells cs T)).cell? ⟨g, i, none⟩ = cs[i]? := by rw [hg]; exact box_cell w cs T i
theorem cell_up {w : World} {a : Addr} {v : Value} (o : Obj) (h : w.cell? a = some v) : (w.alloc o).cell? a = some v := Go.Lib.cell?_alloc_some o h
theorem cell_set {w : World} {a b : Addr} {v x : Value} (h : w.cell? a = some v) (hne : a.block ≠ b.block) : (w.setCell b x).cell? a = some v := (World.cell?_setCell_other _ _ _ _ (fun e => hne (by rw [e]))).trans h
theorem cell_on {w w' : World} {a : Addr} {v : Value} (h : w.cell? a = some v) (hb : Below w.heap.size w w') : w'.cell? a = some v := (hb.cell (World.block_lt_of_cell? w a h)).trans h

end Go.Proofs.Ytnlohijpcnoamaa
