/- What the texts of this seat share: how a list of bytes reads in memory, how that is kept, and append from whatever source. -/
import Derived.Test.YtmgobekdlgogmaaDoorRows
import Derived.WalkKit
import Derived.Handy
import Derived.Lib.Hide
import Derived.Lib.AppendStr
import Derived.Lib.UnsafeStr
import Derived.Lib.SliceRun
import Derived.Maps.AppendAt
import Derived.Deep.AppendLies
import Derived.Deep.QuietTactic
import Derived.BigQuiet
import Derived.Outline
import Derived.WalkLawsBesides
import Derived.WalkSpells
namespace Go.Proofs.YtmgobekdlgogmaaDoor
open Go.RowKit
open Go.Lib (byteCells byteCells_length byteCells_append strCells strCells_eq)

theorem info5 : (Tryd.prog.info? 5).map (fun i => (i.zero, i.size, i.bytes)) = some (some (.int .u8 0), 1, 1) := by kernel_rfl

theorem add_block (a : Addr) (n : Nat) : (a.add n).block = a.block := by unfold Addr.add; split <;> rfl

/-- Every cell of a list of bytes is one cell. -/
theorem bytes_one (bs : List UInt8) : ∀ u ∈ byteCells bs, u.oneCell' = true := by
  intro u hu
  simp only [byteCells, List.mem_map] at hu
  obtain ⟨b, _, rfl⟩ := hu
  rfl

theorem byteCells_at (bs : List UInt8) (k : Nat) (h : k < bs.length) : (byteCells bs)[k]? = some (.int .u8 (bs[k].toNat : Int)) := by
  simp [byteCells, List.getElem?_eq_getElem h]

/-- The address A starts n bytes that read as bs, in a block from lo to below hi. -/
def RdA (w : World) (lo hi : Nat) (A : Option Addr) (bs : List UInt8) : Prop :=
  0 < bs.length → ∃ ad : Addr, A = some ad ∧ lo ≤ ad.block ∧ ad.block < hi ∧ ∀ (j : Nat) (u : Value), (byteCells bs)[j]? = some u → w.cell? (ad.add j) = some u

/-- The slice value reads as these bytes, its block among those from lo to below hi. -/
def Rd (w : World) (lo hi : Nat) (v : Value) (bs : List UInt8) : Prop :=
  ∃ A c, v = .slice A bs.length c ∧ bs.length ≤ c ∧ RdA w lo hi A bs

/-- The slice value is one of the call's own, from block base on, and holds these bytes. -/
def Own (w : World) (base : Nat) (v : Value) (bs : List UInt8) : Prop := w.ownsRow base 5 1 v bs.length (byteCells bs)

section
variable {w w' : World} {lo hi lo' hi' base : Nat} {v : Value} {A : Option Addr} {bs : List UInt8}

theorem RdA.keep (h : RdA w lo hi A bs) (hk : ∀ p : Addr, lo ≤ p.block → p.block < hi → w'.cell? p = w.cell? p) : RdA w' lo hi A bs := fun h0 => by
  obtain ⟨ad, e, h1, h2, h3⟩ := h h0
  exact ⟨ad, e, h1, h2, fun j u hu => (hk _ (by rw [add_block]; exact h1) (by rw [add_block]; exact h2)).trans (h3 j u hu)⟩
theorem RdA.mono (h : RdA w lo hi A bs) (h1 : lo' ≤ lo) (h2 : hi ≤ hi') : RdA w lo' hi' A bs := fun h0 => by
  obtain ⟨ad, e, a, b, c⟩ := h h0
  exact ⟨ad, e, by omega, by omega, c⟩
theorem RdA.at_ {k : Nat} (h : RdA w lo hi A bs) (hk : k < bs.length) : ∃ ad : Addr, A = some ad ∧ w.cell? (ad.add k) = some (.int .u8 (bs[k].toNat : Int)) := by
  obtain ⟨ad, e, _, _, hc⟩ := h (by omega)
  exact ⟨ad, e, hc k _ (byteCells_at bs k hk)⟩

theorem Rd.keep (h : Rd w lo hi v bs) (hk : ∀ p : Addr, lo ≤ p.block → p.block < hi → w'.cell? p = w.cell? p) : Rd w' lo hi v bs := by
  obtain ⟨A, c, e, hc, hx⟩ := h
  exact ⟨A, c, e, hc, hx.keep hk⟩
theorem Rd.mono (h : Rd w lo hi v bs) (h1 : lo' ≤ lo) (h2 : hi ≤ hi') : Rd w lo' hi' v bs := by
  obtain ⟨A, c, e, hc, hx⟩ := h
  exact ⟨A, c, e, hc, hx.mono h1 h2⟩
theorem Rd.below {B : Nat} (h : Rd w lo hi v bs) (hb : Below B w w') (hB : hi ≤ B) : Rd w' lo hi v bs := h.keep fun _ _ hp => hb.cell (by omega)
theorem Rd.drewN (h : Rd w lo hi v bs) (n : Nat) : Rd (w.drewN n) lo hi v bs := h
theorem Rd.drew (h : Rd w lo hi v bs) : Rd w.drew lo hi v bs := h
/-- Writes to one block, and new blocks: what lies elsewhere reads as before. -/
theorem Rd.grown {g : Nat} (h : Rd w lo hi v bs) (hg : w.grownBy w' (some g)) (hB : hi ≤ w.heap.size) (hne : g < lo ∨ hi ≤ g) : Rd w' lo hi v bs :=
  h.keep fun p h1 h2 => World.cell?_of_block (hg.block p.block (by omega) (by simp; omega))

theorem Own.lt (h : Own w base v bs) : ∀ k, v.ownBlock = some k → base ≤ k ∧ k < w.heap.size := World.ownsRow.lt h

theorem Own.rd (h : Own w base v bs) : Rd w base w.heap.size v bs := by
  have h0 := h
  rcases h.2 with ⟨rfl, hn⟩ | ⟨g, cap, cur, rfl, hb, hg, hc, _⟩
  · have hb : bs = [] := List.eq_nil_of_length_eq_zero hn
    subst hb
    exact ⟨none, 0, rfl, Nat.le_refl _, fun hx => by simp at hx⟩
  · refine ⟨some ⟨g, 0, none⟩, cap, rfl, hc, fun _ => ⟨_, rfl, hb, ?_, fun j u hu => h0.cells (g := g) rfl j u hu⟩⟩
    exact (h0.lt g rfl).2
theorem Own.base_le (h : Own w base v bs) (hb : lo ≤ base) : Own w lo v bs := by
  refine ⟨h.1, ?_⟩
  rcases h.2 with hn | ⟨g, cap, cur, hv, hg, r⟩
  · exact .inl hn
  · exact .inr ⟨g, cap, cur, hv, by omega, r⟩
/-- What is owned stays owned where other blocks turn. -/
theorem Own.below (h : Own w base v bs) (hb : Below w.heap.size w w') : Own w' base v bs := by
  refine World.ownsRow.kept (row := none) h ⟨hb.os, hb.tape, hb.output, hb.size, fun k hk _ => hb.block k hk⟩ ?_
  cases v.ownBlock <;> simp
theorem own_nil (w : World) (base : Nat) : Own w base (.slice none 0 0) [] := World.ownsRow_nil w base _ 1

theorem below_drewN {B : Nat} {a : World} (h : Below B a w) (n : Nat) : Below B a (w.drewN n) := ⟨h.os, h.tape, h.output, h.size, h.block⟩
end

/-- append onto a slice of the call's own, from a slice that reads as ys (nil, empty or not). -/
theorem run_append_rd (w : World) (ty : TypeId) {base lo hi : Nat} {v : Value} {xs ys : List UInt8} (hown : Own w base v xs) {A : Option Addr} {c : Nat} (hr : RdA w lo hi A ys)
    (hm : xs.length + ys.length ≤ 140737488355328) (hbase : base ≤ w.heap.size) :
    ∃ v' w', (Builtin.append_ #[70, 70] ty #[v, .slice A ys.length c]).run Tryd.prog w = .ok v' w' ∧ Own w' base v' (xs ++ ys) ∧ w.grownBy w' v.ownBlock ∧
      (v'.ownBlock = v.ownBlock ∨ v'.ownBlock = some w.heap.size) := by
  obtain ⟨i0, hi0, hz0, hz1, hz2⟩ := info_parts info5
  by_cases h0 : ys = []
  · subst h0
    refine ⟨v, w, ?_, by simpa using hown, World.grownBy.refl w _, .inl rfl⟩
    have hown' := hown
    rcases hown.2 with ⟨rfl, _⟩ | ⟨g, cap, cur, rfl, _, _, hnc, _⟩
    · cases A <;> simp [Builtin.append_, run_underlying Tryd.underlying70, sizeOf, typeInfo, hi0, Builtin.lenOf, Builtin.firstCells, loadCells, loadCellsFrom]
    · cases A <;> simp [Builtin.append_, run_underlying Tryd.underlying70, sizeOf, typeInfo, hi0, Builtin.lenOf, Builtin.firstCells, hnc, storeCells, loadCells, loadCellsFrom]
  · obtain ⟨ad, rfl, _, _, hc⟩ := hr (List.length_pos_iff.2 h0)
    obtain ⟨v', w', h1, h2, h3, _, h5⟩ := run_append_own_at (P := Tryd.prog) w base 70 ty 5 i0 (.int .u8 0) 1 1 Tryd.underlying70 hi0 hz0 hz1 hz2 rfl (by decide)
      v xs.length (byteCells xs) hown ad ys.length c (byteCells ys) (by simp [byteCells_length]) hc (bytes_one ys) (by simp only [maxLen]; omega) (by omega) hbase
    exact ⟨v', w', h1, by simpa [Own, byteCells_append] using h2, h3, h5⟩

theorem wpList_append_rd {ops : Array Oper} {rest : List Oper} {o : Oper} {a : Act} {Q : Exit → Act → World → Prop} (w : World) (hgd : o.guard = none) (s x : Operand)
    (ho : o.op = .call { callee := .builtin .append, args := #[s, x], argTypes := #[70, 70] })
    {base lo hi : Nat} {v : Value} {xs ys : List UInt8} (hs : a.eval s = v) (hown : Own w base v xs) {A : Option Addr} {m c : Nat} (hx : a.eval x = .slice A m c) (hm : m = ys.length) (hr : RdA w lo hi A ys)
    (hl : xs.length + ys.length ≤ 140737488355328) (hbase : base ≤ w.heap.size)
    (h : ∀ v' w', Own w' base v' (xs ++ ys) → w.grownBy w' v.ownBlock → (v'.ownBlock = v.ownBlock ∨ v'.ownBlock = some w.heap.size) → wpList Tryd.prog ops Q rest (a.put o.dst v') w') : wpList Tryd.prog ops Q (o :: rest) a w := by
  subst hm
  refine wpList_plain hgd fun K hK => ?_
  obtain ⟨v', w', hrun, h2, h3, h4⟩ := run_append_rd w o.type hown (c := c) hr hl hbase
  unfold Oper.wp execOp
  simp only [ho, resolve, invoke, builtin, Sem.run_bind, Sem.run_pure, Result.andThen_ok, List.map_toArray, List.map_cons, List.map_nil, hs, hx, hrun]
  exact hK _ _ (h v' w' h2 h3 h4)
end Go.Proofs.YtmgobekdlgogmaaDoor
