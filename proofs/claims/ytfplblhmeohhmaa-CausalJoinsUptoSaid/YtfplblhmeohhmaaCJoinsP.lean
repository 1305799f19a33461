/- same; a context that is written over. -/
import Derived.Test.YtfplblhmeohhmaaCClone
namespace Go.Proofs.Ytfplblhmeohhmaa
open Go.RowKit Go.Sort Go.BigFrame
open Go.Lib (byteCells byteCells_length)

set_option maxRecDepth 100000 in
set_option maxHeartbeats 3200000 in
theorem same3_any (a a' b b' : Value) (er : Int) (ms ds : List DotA) (w : World) (h : RdC w (.agg #[a, a']) ms ds) (h1 : RdC w (.agg #[b, b']) ms ds) (hlm : ms.length ≤ 1099511627776) (hld : ds.length ≤ 1099511627776) :
    Calls Try.prog 33 #[.agg #[a, a'], .int .i64 er, .agg #[b, b'], .int .i64 er] w fun e w' => e = .returned (.bool true) ∧ Below w.heap.size w w' := by
  obtain ⟨W, hW⟩ : ∃ W, Hid (W = (w.alloc (.cells #[a, a'] 48)).alloc (.cells #[b, b'] 48)) := ⟨_, Lib.hid rfl⟩
  have hb0 : Below w.heap.size w W := by rw [hW.out]; exact below_alloc (below_alloc (Below.refl _ _))
  have HB0 := Lib.hid hb0
  have hbc : BoxC W w.heap.size a a' := by
    rw [hW.out]
    exact ⟨cell_up _ (box_cell _ _ _ 0), cell_up _ (box_cell _ _ _ 1)⟩
  have hba : BoxC W (w.heap.size + 1) b b' := by
    have : BoxC ((w.alloc (.cells #[a, a'] 48)).alloc (.cells #[b, b'] 48)) (w.alloc (.cells #[a, a'] 48)).heap.size b b' := ⟨box_cell _ _ _ 0, box_cell _ _ _ 1⟩
    rw [show (w.alloc (.cells #[a, a'] 48)).heap.size = w.heap.size + 1 by simp] at this
    rw [hW.out]
    exact this
  obtain ⟨l0, l1⟩ := hbc
  obtain ⟨l2, l3⟩ := hba
  have HS := Lib.hid (same_any (.agg #[a, a']) (.agg #[b, b']) ms ds ms ds W (h.below hb0) (h1.below hb0) hlm hld)
  have q1 : (er == er) = true := by simp
  have hWe := hW.out.symm
  clear h h1 hb0
  go_enter Try.func33, Try.ntmps33
  go_upto_region 1 with fail
  clear hWe
  go_wp2_with fail
  (with_reducible refine HS.out.mono ?_); rintro e w1 ⟨t, rfl, hbi, hb1⟩
  obtain rfl : t = true := hbi.2 (by simp)
  have HB1 := Lib.hid (below_next HB0.out hb1)
  clear hbi hb1 HS
  go_wp2
  go_ret
  exact ⟨rfl, HB1.out⟩

theorem joinRel_eq {ms ds ms1 ds1 p q p' q' : List DotA} {e e' : Int} (h : JoinRel ms ds ms1 ds1 p q e) (h' : JoinRel ms ds ms1 ds1 p' q' e') : p = p' ∧ q = q' ∧ e = e' := by
  rcases h with ⟨n, rfl, rfl, rfl⟩ | ⟨h1, h2, h3⟩
  · rcases h' with ⟨_, rfl, rfl, rfl⟩ | ⟨k1, k2, _⟩
    · exact ⟨rfl, rfl, rfl⟩
    · exact absurd ⟨k1, k2⟩ n
  · rcases h' with ⟨n, _⟩ | ⟨_, _, k3⟩
    · exact absurd ⟨h1, h2⟩ n
    · exact normRel_eq h3 k3 Iff.rfl fun _ _ => Iff.rfl
theorem addRel_eq {ms ds p q p' q' : List DotA} {d : DotA} {e e' : Int} (h : AddRel ms ds d p q e) (h' : AddRel ms ds d p' q' e') : p = p' ∧ q = q' ∧ e = e' := by
  rcases h with ⟨n, rfl, rfl, rfl⟩ | ⟨h1, h3⟩
  · rcases h' with ⟨_, rfl, rfl, rfl⟩ | ⟨k1, _⟩
    · exact ⟨rfl, rfl, rfl⟩
    · exact absurd k1 n
  · rcases h' with ⟨n, _⟩ | ⟨_, k3⟩
    · exact absurd h1 n
    · exact normRel_eq h3 k3 Iff.rfl fun _ _ => Iff.rfl
theorem normRel_short {m d ms ds : List DotA} {er : Int} (h : NormRel m d ms ds er) : ms.length ≤ 64 ∧ ds.length ≤ 64 := by
  rcases h with ⟨_, rfl, rfl, _⟩ | ⟨_, _, _, _, _, _, ⟨_, rfl, rfl, _⟩ | ⟨h1, h2, rfl, rfl, _⟩⟩
  · simp
  · simp
  · exact ⟨h1, h2⟩
theorem joinRel_short {ms ds ms1 ds1 p q : List DotA} {e : Int} (h : JoinRel ms ds ms1 ds1 p q e) : p.length ≤ 64 ∧ q.length ≤ 64 := by
  rcases h with ⟨_, rfl, rfl, _⟩ | ⟨_, _, h⟩
  · simp
  · exact normRel_short h
theorem addRel_short {ms ds p q : List DotA} {d : DotA} {e : Int} (h : AddRel ms ds d p q e) : p.length ≤ 64 ∧ q.length ≤ 64 := by
  rcases h with ⟨_, rfl, rfl, _⟩ | ⟨_, h⟩
  · simp
  · exact normRel_short h
/-- A context of the call's own that is written over. -/
structure SP (g base : Nat) (W : World) (mv dv : Value) (ms ds : List DotA) (wr : World) : Prop where
  row : wr.heap[g]? = some (.cells #[mv, dv] 48 (0, 0))
  om : OwnD 55 wr base mv ms
  od : OwnD 44 wr base dv ds
  bel : Below base W wr
theorem row_type {T : TypeId} {w : World} {base g : Nat} {v : Value} {ds : List DotA} (h : OwnD T w base v ds) (hg : _root_.Go.Value.ownBlock v = some g) : ∃ cur, w.heap[g]? = some (.cells cur T (0, 0)) := by
  rcases h.2 with ⟨rfl, _⟩ | ⟨g', cap, cur, rfl, _, hh, _⟩
  · cases hg
  · injection hg with hg
    subst hg
    exact ⟨cur, hh⟩
theorem SP.apM {g base : Nat} {W wr : World} {mv dv : Value} {ms ds : List DotA} (h : SP g base W mv dv ms ds wr) : Apart g mv := fun k e hk => by
  obtain ⟨cur, hc⟩ := row_type h.om e
  rw [hk, h.row] at hc
  injection hc with hc
  injection hc with _ hc _
  exact absurd hc (by decide)
theorem SP.apD {g base : Nat} {W wr : World} {mv dv : Value} {ms ds : List DotA} (h : SP g base W mv dv ms ds wr) : Apart g dv := fun k e hk => by
  obtain ⟨cur, hc⟩ := row_type h.od e
  rw [hk, h.row] at hc
  injection hc with hc
  injection hc with _ hc _
  exact absurd hc (by decide)
theorem SP.ap {g base : Nat} {W wr : World} {mv dv : Value} {ms ds : List DotA} (h : SP g base W mv dv ms ds wr) {k : Nat} (h1 : _root_.Go.Value.ownBlock mv = some k) : _root_.Go.Value.ownBlock dv ≠ some k := fun h2 => by
  obtain ⟨cur, hc⟩ := row_type h.om h1
  obtain ⟨cur', hc'⟩ := row_type h.od h2
  rw [hc] at hc'
  injection hc' with hc'
  injection hc' with _ hc' _
  exact absurd hc' (by decide)
theorem SP.c0 {g base : Nat} {W wr : World} {mv dv : Value} {ms ds : List DotA} (h : SP g base W mv dv ms ds wr) : wr.cell? ⟨g, 0, none⟩ = some mv := cell_of_row wr _ 0 _ _ (0, 0) h.row
theorem SP.c1 {g base : Nat} {W wr : World} {mv dv : Value} {ms ds : List DotA} (h : SP g base W mv dv ms ds wr) : wr.cell? ⟨g, 1, none⟩ = some dv := cell_of_row wr _ 1 _ _ (0, 0) h.row
theorem set_same {l : List Value} {i : Nat} {v : Value} (h : l[i]? = some v) : l.set i v = l := by
  refine List.ext_getElem? fun j => ?_
  by_cases e : i = j
  · subst e
    rw [List.getElem?_set_self (List.getElem?_eq_some_iff.1 h).1, h]
  · rw [List.getElem?_set_ne e]
theorem put2 (ds : List DotA) (k : Nat) (x : DotA) (v : Int) (hx : ds[k]? = some x) : dcells (ds.set k (x.1, x.2.1, v)) = (dcells ds).set (k * 3 + 2) (.int .i64 v) := by
  have hlt := (List.getElem?_eq_some_iff.1 hx).1
  rw [dcells_set ds k _ hlt]
  obtain ⟨a0, a1, _⟩ := dcells_at ds k x hx
  have e0 : (dcells ds).set (k * 3) (.int .i64 x.1) = dcells ds := set_same a0
  have e1 : (dcells ds).set (k * 3 + 1) (.int .i64 x.2.1) = dcells ds := set_same a1
  simp only [e0, e1]
/-- A mark's count is written over. -/
theorem SP.spoilM {g base gm n c k : Nat} {W wr : World} {dv : Value} {ms ds : List DotA} {x : DotA} (v : Int) (h : SP g base W (.slice (some ⟨gm, 0, none⟩) n c) dv ms ds wr) (hx : ms[k]? = some x) :
    SP g base W (.slice (some ⟨gm, 0, none⟩) n c) dv (ms.set k (x.1, x.2.1, v)) ds (wr.setCell ⟨gm, k * 3 + 2, none⟩ (.int .i64 v)) := by
  have hn : n = ms.length := by
    obtain ⟨A, c', e⟩ := ownD_slice h.om
    injection e
  subst hn
  have s := World.ownsRow.stored h.om (k * 3 + 2) (.int .i64 v)
  have hne : gm ≠ g := h.apM gm rfl
  have ap : Apart gm dv := fun j e e' => h.ap rfl (e' ▸ e)
  refine ⟨?_, ?_, h.od.setOther ap _, h.bel.setCell (show base ≤ gm from (World.ownsRow.lt h.om gm rfl).1) _⟩
  · exact (s.2.block g (Array.getElem?_eq_some_iff.1 h.row).1 (by simp; omega)).trans h.row
  · unfold OwnD
    rw [List.length_set, put2 ms k x v hx]
    exact s.1
theorem SP.spoilD {g base gm n c k : Nat} {W wr : World} {mv : Value} {ms ds : List DotA} {x : DotA} (v : Int) (h : SP g base W mv (.slice (some ⟨gm, 0, none⟩) n c) ms ds wr) (hx : ds[k]? = some x) :
    SP g base W mv (.slice (some ⟨gm, 0, none⟩) n c) ms (ds.set k (x.1, x.2.1, v)) (wr.setCell ⟨gm, k * 3 + 2, none⟩ (.int .i64 v)) := by
  have hn : n = ds.length := by
    obtain ⟨A, c', e⟩ := ownD_slice h.od
    injection e
  subst hn
  have s := World.ownsRow.stored h.od (k * 3 + 2) (.int .i64 v)
  have hne : gm ≠ g := h.apD gm rfl
  have ap : Apart gm mv := fun j e e' => h.ap e (by rw [e']; rfl)
  refine ⟨?_, h.om.setOther ap _, ?_, h.bel.setCell (show base ≤ gm from (World.ownsRow.lt h.od gm rfl).1) _⟩
  · exact (s.2.block g (Array.getElem?_eq_some_iff.1 h.row).1 (by simp; omega)).trans h.row
  · unfold OwnD
    rw [List.length_set, put2 ds k x v hx]
    exact s.1
end Go.Proofs.Ytfplblhmeohhmaa
