/- A disk that a call made, in memory: its struct, its map of files, the files, their bytes. -/
import Derived.Test.YtakmndfcelghfaaGreatDoorCan
import Derived.Maps.RangeWalk
import Derived.Maps.OwnSet
import Derived.OneCell
namespace Go.Proofs.YtakmndfcelghfaaGreatDoor
open Go.RowKit
open Go.Lib (byteCells byteCells_length)

/-- Whose a block is. -/
inductive Tag where
  | disk
  | map
  | file (n : List UInt8)
  | bytes (n : List UInt8)

/-- A file: its name, what was written, how many of it are synced. -/
abbrev FileA := List UInt8 × List UInt8 × Nat

/-- How a pointer to a file reads: as its block's number. -/
def ptrElem : Value → Option (DataW Unit × List MemPlace)
  | .pointer none => some (.nil, [])
  | .pointer (some ⟨g, 0, none⟩) => some (.lit (.int .i64 (g : Int)), [])
  | _ => none
theorem ptrElem_mk (g : Nat) : ptrElem (.pointer (some ⟨g, 0, none⟩)) = some (.lit (.int .i64 (g : Int)), []) := rfl
theorem ptrElem_inv {v : Value} {z : DataW Unit × List MemPlace} (h : ptrElem v = some z) : (v = .pointer none ∧ z = (.nil, [])) ∨ ∃ g : Nat, v = .pointer (some ⟨g, 0, none⟩) ∧ z = (.lit (.int .i64 (g : Int)), []) := by
  unfold ptrElem at h
  split at h
  · cases h; exact .inl ⟨rfl, rfl⟩
  · cases h; exact .inr ⟨_, rfl, rfl⟩
  · cases h

/-- What the map of files reads as. -/
def mapD (bl : List UInt8 → Nat) (fs : List FileA) : DataW Unit := .map (fs.map fun f => (.string f.1, .lit (.int .i64 (bl f.1 : Int))))

def look (fs : List FileA) (n : List UInt8) : Option (List UInt8 × Nat) := (fs.find? fun f => f.1 == n).map (·.2)
def strike (fs : List FileA) (n : List UInt8) : List FileA := fs.filter fun f => !(f.1 == n)
def insF (x : FileA) : List FileA → List FileA
  | [] => [x]
  | y :: r => if bytesBefore x.1 y.1 then x :: y :: r else y :: insF x r
def place (fs : List FileA) (n : List UInt8) (x : List UInt8 × Nat) : List FileA := insF (n, x) (strike fs n)
def used (fs : List FileA) : Nat := (fs.map fun f => f.2.1.length).sum
def upd (bl : List UInt8 → Nat) (n : List UInt8) (g : Nat) : List UInt8 → Nat := fun k => if k = n then g else bl k
/-- The names rise. -/
def Sorted (fs : List FileA) : Prop := fs.Pairwise fun a b => bytesBefore a.1 b.1 = true

theorem look_some {fs : List FileA} {n : List UInt8} {x : List UInt8 × Nat} (h : look fs n = some x) : (n, x) ∈ fs := by
  unfold look at h
  rw [Option.map_eq_some_iff] at h
  obtain ⟨f, hf, rfl⟩ := h
  have h1 := List.mem_of_find?_eq_some hf
  have h2 := List.find?_some hf
  have h3 : f.1 = n := by simpa using h2
  subst h3
  exact h1
theorem look_none {fs : List FileA} {n : List UInt8} (h : look fs n = none) : ∀ f ∈ fs, f.1 ≠ n := by
  unfold look at h
  rw [Option.map_eq_none_iff, List.find?_eq_none] at h
  intro f hf e
  exact h f hf (by simpa using e)

theorem mapD_has (bl : List UInt8 → Nat) (fs : List FileA) (n : List UInt8) : Maps.has (mapD bl fs) (.string n) = (look fs n).isSome := by
  unfold mapD look
  rw [Maps.has_eq, Option.isSome_map]
  induction fs with
  | nil => rfl
  | cons f r ih =>
    simp only [List.map_cons, List.any_cons, List.find?_cons]
    rw [ih]
    show ((f.1 == n) || _) = _
    cases hb : (f.1 == n) <;> simp
theorem mapD_at (bl : List UInt8 → Nat) (fs : List FileA) (n : List UInt8) (z : DataW Unit) : (mapD bl fs).atKey (.string n) z = if (look fs n).isSome then .lit (.int .i64 (bl n : Int)) else z := by
  unfold mapD look DataW.atKey
  rw [Option.isSome_map]
  induction fs with
  | nil => rfl
  | cons f r ih =>
    simp only [List.map_cons, List.find?_cons]
    have e : Lit.sameKey (.string f.1) (.string n) = (f.1 == n) := rfl
    by_cases hn : f.1 = n
    · have hb : (f.1 == n) = true := by simpa using hn
      have e' := e.trans hb
      simp only [e', hb, Option.isSome_some, if_true]
      rw [hn]
    · have hb : (f.1 == n) = false := by simpa using hn
      have e' := e.trans hb
      simp only [e', hb]
      exact ih
theorem mapD_size (bl : List UInt8 → Nat) (fs : List FileA) : Maps.size (mapD bl fs) = fs.length := by
  unfold mapD
  rw [Maps.size_eq, List.length_map]
theorem mapD_del (bl : List UInt8 → Nat) (fs : List FileA) (n : List UInt8) : (mapD bl fs).del (.string n) = mapD bl (strike fs n) := by
  unfold mapD strike
  show DataW.map (List.filter _ (List.map _ fs)) = _
  rw [List.filter_map]
  rfl
theorem insert_map (bl : List UInt8 → Nat) (x : FileA) : ∀ fs : List FileA, DataW.insert (Lit.string x.1, (.lit (.int .i64 (bl x.1 : Int)) : DataW Unit)) (fs.map fun f => (Lit.string f.1, .lit (.int .i64 (bl f.1 : Int)))) = (insF x fs).map fun f => (Lit.string f.1, .lit (.int .i64 (bl f.1 : Int)))
  | [] => rfl
  | y :: r => by
    simp only [List.map_cons, DataW.insert, insF]
    have e : Lit.before (.string x.1) (.string y.1) = bytesBefore x.1 y.1 := rfl
    rw [e]
    split
    · rfl
    · rw [insert_map bl x r, List.map_cons]
theorem mapD_put (bl : List UInt8 → Nat) (fs : List FileA) (n : List UInt8) (g : Nat) (x : List UInt8 × Nat) : (mapD bl fs).put (.string n) (.lit (.int .i64 (g : Int))) = mapD (upd bl n g) (place fs n x) := by
  unfold mapD place
  have e1 : ((fs.map fun f => (Lit.string f.1, (.lit (.int .i64 (bl f.1 : Int)) : DataW Unit))).filter fun p => !p.1.sameKey (.string n)) = (strike fs n).map fun f => (Lit.string f.1, (.lit (.int .i64 (upd bl n g f.1 : Int)) : DataW Unit)) := by
    rw [List.filter_map]
    unfold strike
    refine List.map_congr_left fun f hf => ?_
    have h2 : (!(f.1 == n)) = true := (List.mem_filter.1 hf).2
    have h3 : f.1 ≠ n := by simpa using h2
    simp [upd, h3]
  show DataW.map (DataW.insert _ (List.filter _ (List.map _ fs))) = _
  rw [e1]
  congr 1
  have e2 : (g : Int) = (upd bl n g ((n, x) : FileA).1 : Int) := by simp [upd]
  rw [e2]
  exact insert_map (upd bl n g) (n, x) (strike fs n)

/-! ### memory -/
theorem Own.same {w w' : World} {base : Nat} {v : Value} {bs : List UInt8} (h : Own w base v bs) (hs : ∀ g, v.ownBlock = some g → w'.heap[g]? = w.heap[g]?) : Own w' base v bs := by
  refine ⟨h.1, ?_⟩
  rcases h.2 with h0 | ⟨g, cap, cur, rfl, h1, h2, r⟩
  · exact .inl h0
  · exact .inr ⟨g, cap, cur, rfl, h1, (hs g rfl).trans h2, r⟩

theorem owns_tight {w : World} {k : TypeId} {R : Value → Option (DataW Unit × List MemPlace)} {b n : Nat} {D : DataW Unit} (h : w.ownsMap Tryz.prog k R b n D) : w.ownsMap Tryz.prog k R b (Maps.size D) D := by
  obtain ⟨es, clock, hb, F, _, rfl⟩ := h
  exact ⟨es, clock, hb, F, by rw [Maps.size_eq, length_sorted]; simp, rfl⟩
theorem owns_same {w w' : World} {k : TypeId} {R : Value → Option (DataW Unit × List MemPlace)} {b n : Nat} {D : DataW Unit} (h : w.ownsMap Tryz.prog k R b n D) (hs : w'.heap[b]? = w.heap[b]?) : w'.ownsMap Tryz.prog k R b n D := by
  obtain ⟨es, clock, hb, r⟩ := h
  exact ⟨es, clock, hs.trans hb, r⟩

/-- A file in memory. -/
def FileAt (w : World) (tag : Nat → Option Tag) (bl : List UInt8 → Nat) (f : FileA) : Prop :=
  ∃ v, w.heap[bl f.1]? = some (.cells #[v, .int .i64 (f.2.2 : Int)] 168 (0, 0)) ∧ tag (bl f.1) = some (.file f.1) ∧ Own w 0 v f.2.1 ∧ (∀ g, v.ownBlock = some g → tag g = some (.bytes f.1)) ∧ f.2.2 ≤ f.2.1.length

theorem FileAt.same {w w' : World} {tag tag' : Nat → Option Tag} {bl bl' : List UInt8 → Nat} {f : FileA} (h : FileAt w tag bl f) (hbl : bl' f.1 = bl f.1)
    (hs : ∀ k, k < w.heap.size → tag k = some (.file f.1) ∨ tag k = some (.bytes f.1) → w'.heap[k]? = w.heap[k]? ∧ tag' k = tag k) : FileAt w' tag' bl' f := by
  obtain ⟨v, h1, h2, h3, h4, h5⟩ := h
  have l1 : bl f.1 < w.heap.size := (Array.getElem?_eq_some_iff.1 h1).1
  obtain ⟨e1, e2⟩ := hs _ l1 (.inl h2)
  refine ⟨v, by rw [hbl, e1]; exact h1, by rw [hbl, e2]; exact h2, h3.same fun g hg => (hs g (h3.lt g hg).2 (.inr (h4 g hg))).1, fun g hg => ?_, h5⟩
  rw [(hs g (h3.lt g hg).2 (.inr (h4 g hg))).2]
  exact h4 g hg

/-- Block d is a disk with so much room that holds these files; tag says whose each of its blocks is. -/
structure Holds (w : World) (tag : Nat → Option Tag) (d : Nat) (room : Int) (fs : List FileA) : Prop where
  tags : ∀ k, tag k ≠ none → k < w.heap.size
  struct : ∃ m bl, w.heap[d]? = some (.cells #[.int .i64 room, .map (some m)] 42 (0, 0)) ∧ tag d = some .disk ∧ tag m = some .map ∧ w.ownsMap Tryz.prog 9 ptrElem m fs.length (mapD bl fs) ∧ ∀ f ∈ fs, FileAt w tag bl f
  room0 : 0 ≤ room
  room1 : room ≤ 16777216
  fit : (used fs : Int) ≤ room
  few : fs.length ≤ 64
  rise : Sorted fs

theorem Holds.same {w w' : World} {tag : Nat → Option Tag} {d : Nat} {room : Int} {fs : List FileA} (h : Holds w tag d room fs) (hz : w.heap.size ≤ w'.heap.size) (hs : ∀ k, tag k ≠ none → w'.heap[k]? = w.heap[k]?) : Holds w' tag d room fs := by
  obtain ⟨m, bl, h1, h2, h3, h4, h5⟩ := h.struct
  refine ⟨fun k hk => Nat.lt_of_lt_of_le (h.tags k hk) hz, ⟨m, bl, (hs d (by rw [h2]; simp)).trans h1, h2, h3, owns_same h4 (hs m (by rw [h3]; simp)), fun f hf => (h5 f hf).same rfl fun k _ hk => ⟨hs k ?_, rfl⟩⟩, h.room0, h.room1, h.fit, h.few, h.rise⟩
  rcases hk with hk | hk <;> rw [hk] <;> simp

/-- What lies at no block of the disk's has not turned. -/
structure Turned (w w' : World) (tag : Nat → Option Tag) : Prop where
  os : w'.os = w.os
  tape : w'.tape = w.tape
  output : w'.output = w.output
  size : w.heap.size ≤ w'.heap.size
  block : ∀ k, k < w.heap.size → tag k = none → w'.heap[k]? = w.heap[k]?

theorem Turned.refl (w : World) (tag : Nat → Option Tag) : Turned w w tag := ⟨rfl, rfl, rfl, Nat.le_refl _, fun _ _ _ => rfl⟩
theorem Turned.of_below {w w' : World} {tag : Nat → Option Tag} (h : Below w.heap.size w w') : Turned w w' tag := ⟨h.os, h.tape, h.output, h.size, fun k hk _ => h.block k hk⟩
theorem Turned.of_grown {w w' : World} {tag : Nat → Option Tag} {g : Nat} (h : w.grownBy w' (some g)) (hg : tag g ≠ none) : Turned w w' tag :=
  ⟨h.os, h.tape, h.output, h.size, fun k hk hn => h.block k hk fun e => hg (by cases e; exact hn)⟩
/-- The new footprint: the old one, and new blocks. -/
def Wider (w : World) (tag tag' : Nat → Option Tag) : Prop := ∀ k, tag' k ≠ none → tag k ≠ none ∨ w.heap.size ≤ k
theorem Turned.trans {a b c : World} {tag tag' : Nat → Option Tag} (h : Turned a b tag) (k : Turned b c tag') (hw : Wider a tag tag') : Turned a c tag :=
  ⟨k.os.trans h.os, k.tape.trans h.tape, k.output.trans h.output, Nat.le_trans h.size k.size, fun i hi hn => (k.block i (Nat.lt_of_lt_of_le hi h.size) (by
    cases e : tag' i with
    | none => rfl
    | some t => rcases hw i (by rw [e]; simp) with h1 | h1
                · exact absurd hn h1
                · omega)).trans (h.block i hi hn)⟩
/-- What the call leaves: the disk holds these files; nothing else has turned. -/
def Left (w : World) (tag : Nat → Option Tag) (d : Nat) (room : Int) (fs : List FileA) (w' : World) : Prop := ∃ tag', Holds w' tag' d room fs ∧ Turned w w' tag ∧ Wider w tag tag'
theorem Left.of_below {w w' : World} {tag : Nat → Option Tag} {d : Nat} {room : Int} {fs : List FileA} (h : Holds w tag d room fs) (hb : Below w.heap.size w w') : Left w tag d room fs w' :=
  ⟨tag, h.same hb.size fun k hk => hb.block k (h.tags k hk), Turned.of_below hb, fun _ hk => .inl hk⟩
end Go.Proofs.YtakmndfcelghfaaGreatDoor
