/- Join of a first member: for awake. -/
import Derived.Test.YtmgobekdlgogmaaDoorRLike
import Derived.Test.YtmgobekdlgogmaaDoorRTellsWalk
namespace Go.Proofs.YtmgobekdlgogmaaDoor
open Go.RowKit Go.Sort Go.BigFrame
open Go.Lib (byteCells byteCells_length)

set_option maxRecDepth 100000 in
set_option maxHeartbeats 1600000 in
theorem canTurn_yes (p c s node : Int) (v : Value) (ms : List MemA) (w : World) (hok : OkR p c s ms) (hnode : nodeB node = true) (hT : Tabs w) (h1 : -9223372036854775808 ≤ p) (h2 : p ≤ 9223372036854775807) (h : RdM w v ms) (hl : ms.length ≤ 4398046511104) :
    Calls Tryd.prog 44 #[.agg #[.int .i64 p, .int .i64 c, .int .i64 s, v], .int .i64 node] w (fun e w' => e = .returned (.int .i64 0) ∧ Below w.heap.size w w') := by
  have HV := Lib.hid h
  obtain ⟨A, cap, rfl, hc, hx⟩ := h
  obtain ⟨n, hn⟩ : ∃ n, Hid (n = ms.length) := ⟨_, Lib.hid rfl⟩
  rw [← hn.out] at HV ⊢
  obtain ⟨W, hW⟩ : ∃ W, Hid (W = w.alloc (.cells #[.int .i64 p, .int .i64 c, .int .i64 s, .slice A n cap] 24)) := ⟨_, Lib.hid rfl⟩
  have HB : Hid (Below w.heap.size w W) := Lib.hid (by rw [hW.out]; exact (Below.refl _ _).alloc (Nat.le_refl _) _)
  have k0 : W.cell? ⟨w.heap.size, 0, none⟩ = some (.int .i64 p) := by rw [hW.out]; exact box_cellR _ _ _ 0
  have k1 : W.cell? ⟨w.heap.size, 1, none⟩ = some (.int .i64 c) := by rw [hW.out]; exact box_cellR _ _ _ 1
  have k2 : W.cell? ⟨w.heap.size, 2, none⟩ = some (.int .i64 s) := by rw [hW.out]; exact box_cellR _ _ _ 2
  have k3 : W.cell? ⟨w.heap.size, 3, none⟩ = some (.slice A n cap) := by rw [hW.out]; exact box_cellR _ _ _ 3
  have HN := Lib.hid (isNodeR_any node W)
  rw [hnode] at HN
  have HC := Lib.hid (can_any p c s (.slice A n cap) ms W (hT.below HB.out hT.big) h1 h2 (HV.out.below HB.out) hl)
  have HOK := Lib.hid hok
  clear hx hc hT h1 h2 hok hnode
  go_enter Tryd.func44, Tryd.ntmps44
  go_upto_region 1 with fail
  rw [← hW.out]
  go_wp2_with fail
  (with_reducible refine HN.out.mono ?_); rintro e w1 ⟨rfl, rfl⟩
  go_wp2_with fail
  (with_reducible refine HC.out.mono ?_); rintro e w2 ⟨b, rfl, hbi, hb2⟩
  cases b with
  | false => exact absurd (hbi.2 HOK.out) (by decide)
  | true =>
    have HB2 : Hid (Below w.heap.size w w2) := Lib.hid (HB.out.trans (hb2.mono HB.out.size))
    clear hb2 hbi k0 k1 k2 k3
    rw [show canN true = 0 from rfl]
    go_wp2
    go_ret
    exact ⟨rfl, HB2.out⟩

theorem ringMap_one (m : MemA) (h0 : 0 ≤ m.1) (h1 : m.1 < 8) : RingMap (mapD [m]) [m] where
  keys := fun ss hp => by
    have e : intKeys (mapD [m]) = [m.1] := rfl
    rw [e] at hp
    have := List.perm_singleton.1 hp
    subst this
    simp
  size := by
    have e : Maps.size (mapD [m]) = 1 := rfl
    omega
  at_ := fun j x hx => by
    have : mapD [m] = (DataW.map []).put (.int .i64 m.1) (.held (memV m)) := rfl
    cases j with
    | zero =>
      have e : m = x := by simpa using hx
      subst e
      rw [this]
      exact Maps.atKey_put_same Maps.isMap_empty (by exact (True.intro : WideAt.IsKeyLit (.int .i64 m.1))) _ _
    | succ j => simp at hx
  node := fun j x hx => by
    cases j with
    | zero =>
      have e : m = x := by simpa using hx
      subst e
      exact ⟨h0, h1⟩
    | succ j => simp at hx
  few := by simp

/-- A ring and an error. -/
def GivesRE (p c s : Int) (ms : List MemA) (er : Int) (w : World) (e : Ending) (w' : World) : Prop :=
  ∃ A n cap, e = .returned (.tuple #[.agg #[.int .i64 p, .int .i64 c, .int .i64 s, .slice A n cap], .int .i64 er]) ∧ OwnM 40 w' w.heap.size (.slice A n cap) ms ∧ Below w.heap.size w w'

set_option maxRecDepth 100000 in
set_option maxHeartbeats 6400000 in
theorem join_first (p c s node : Int) (w : World) (hok : okShape p c s = true) (hn0 : 0 ≤ node) (hn1 : node < 8) (hT : Tabs w) (h1 : -9223372036854775808 ≤ p) (h2 : p ≤ 9223372036854775807) :
    Calls Tryd.prog 22 #[.agg #[.int .i64 p, .int .i64 c, .int .i64 s, .slice none 0 0], .int .i64 node] w (GivesRE p c s [(node, 1, 1, 1)] 0 w) := by
  obtain ⟨W, hW⟩ : ∃ W, Hid (W = (w.alloc (.cells #[.int .i64 p, .int .i64 c, .int .i64 s, .slice none 0 0] 24)).alloc (.cells #[.int .i64 0, .int .i64 0, .int .i64 0, .slice none 0 0] 24)) := ⟨_, Lib.hid rfl⟩
  have HB : Hid (Below w.heap.size w W) := Lib.hid (by rw [hW.out]; exact below_allocR (below_allocR (Below.refl _ _)))
  have HZ : Hid (W.heap.size = w.heap.size + 2) := Lib.hid (by rw [hW.out]; simp)
  have HR0 : Hid (W.heap[w.heap.size]? = some (.cells #[.int .i64 p, .int .i64 c, .int .i64 s, .slice none 0 0] 24 (0, 0))) := Lib.hid (by
    rw [hW.out]
    exact (Below.heap_alloc _ _ _ (Array.getElem?_eq_some_iff.1 (heap_alloc_new w _)).1).trans (heap_alloc_new w _))
  have HR1 : Hid (W.heap[w.heap.size + 1]? = some (.cells #[.int .i64 0, .int .i64 0, .int .i64 0, .slice none 0 0] 24 (0, 0))) := Lib.hid (by
    have := heap_alloc_new (w.alloc (.cells #[.int .i64 p, .int .i64 c, .int .i64 s, .slice none 0 0] 24)) (.cells #[.int .i64 0, .int .i64 0, .int .i64 0, .slice none 0 0] 24)
    rw [← hW.out, show (w.alloc (.cells #[.int .i64 p, .int .i64 c, .int .i64 s, .slice none 0 0] 24)).heap.size = w.heap.size + 1 by simp] at this
    exact this)
  have k0 := cell_of_row W _ 0 _ _ (0, 0) HR0.out
  have k1 := cell_of_row W _ 1 _ _ (0, 0) HR0.out
  have k2 := cell_of_row W _ 2 _ _ (0, 0) HR0.out
  have k3 := cell_of_row W _ 3 _ _ (0, 0) HR0.out
  have HC := Lib.hid (canTurn_yes p c s node (.slice none 0 0) [] W ⟨hok, OkMs.nil⟩ (by unfold nodeB; simp [hn0, hn1]) (hT.below HB.out hT.big) h1 h2 (RdM.nil W) (Nat.zero_le _))
  have hkey : keyOf Tryd.prog 3 (.int .i64 node) = some (.int .i64 node) := Maps.keyOf_int_mk Tryd.underlying3 (litWf (by omega) (by omega))
  have HNN : Hid (0 ≤ node ∧ node < 8) := Lib.hid ⟨hn0, hn1⟩
  clear hok hT h1 h2 hn0 hn1
  go_enter Tryd.func22, Tryd.ntmps22
  go_upto_region 1 with fail
  rw [← hW.out]
  go_wp2_with fail
  (with_reducible refine HC.out.mono ?_); rintro e w1 ⟨rfl, hb1⟩
  have HB1 : Hid (Below W.heap.size W w1) := Lib.hid hb1
  have r0 := (hb1.block w.heap.size (by have := HZ.out; omega)).trans HR0.out
  have j0 := cell_of_row w1 _ 0 _ _ (0, 0) r0
  have j1 := cell_of_row w1 _ 1 _ _ (0, 0) r0
  have j2 := cell_of_row w1 _ 2 _ _ (0, 0) r0
  have j3 := cell_of_row w1 _ 3 _ _ (0, 0) r0
  have HM := Lib.hid (membersOf_any p c s (.slice none 0 0) [] w1 OkMs.nil (RdM.nil w1) (Nat.zero_le _))
  clear hb1 r0 k0 k1 k2 k3
  go_wp2_with fail
  (with_reducible refine HM.out.mono ?_); rintro e w2 ⟨b2, rfl, hbl2, hown2, hb2⟩
  have HB2 : Hid (Below W.heap.size W w2) := Lib.hid (HB1.out.trans (hb2.mono HB1.out.size))
  have HO2 := Lib.hid hown2
  have HLB : Hid (W.heap.size ≤ b2) := Lib.hid (Nat.le_trans HB1.out.size hbl2)
  have HAT : Hid ((mapD []).atKey (.int .i64 node) (.held (memV (0, 0, 0, 0))) = .held (memV (0, 0, 0, 0))) := Lib.hid rfl
  clear hb2 hown2 hbl2 j0 j1 j2 j3
  go_upto_region 11 with (first | (at_lookup; refine wpList_lookup_own _ rfl _ _ 51 rfl 3 40 lawInt Tryd.underlying51 selfR (zeroMember _) (.held (memV (0, 0, 0, 0))) [] rfl b2 0 (mapD []) rfl HO2.out _ _ rfl hkey ?_; intro v ps hv; rw [HAT.out] at hv; have hv2 := selfR_inv hv; unfold memV at hv2; subst hv2; clear hv) | (at_mapUpdate; refine wpList_mapUpdate_own _ rfl _ _ _ 51 rfl 3 40 lawInt Tryd.underlying51 selfR b2 0 _ rfl (HO2.out.alloc _) (by unfold maxLen; omega) _ _ _ rfl rfl hkey (.held (memV (node, 1, 1, 1))) [] rfl ?_; intro w3 hown3 hg3))
  have HO3 : Hid (w3.ownsMap Tryd.prog 3 selfR b2 1 (mapD [(node, 1, 1, 1)])) := Lib.hid hown3
  have HBA : Hid (Below W.heap.size W (w2.alloc (.cells #[.int .i64 0, .int .i64 0, .int .i64 0, .int .i64 0] 40))) := Lib.hid (HB2.out.alloc HB2.out.size _)
  have HB3 : Hid (Below W.heap.size W w3) := Lib.hid (HBA.out.grown hg3 HBA.out.size (fun j e => by injection e with e; have := HLB.out; omega))
  have HB03 : Hid (Below w.heap.size w w3) := Lib.hid (HB.out.trans (HB3.out.mono HB.out.size))
  have r3 := (HB3.out.block w.heap.size (by have := HZ.out; omega)).trans HR0.out
  have j0 := cell_of_row w3 _ 0 _ _ (0, 0) r3
  have j1 := cell_of_row w3 _ 1 _ _ (0, 0) r3
  have j2 := cell_of_row w3 _ 2 _ _ (0, 0) r3
  have j3 := cell_of_row w3 _ 3 _ _ (0, 0) r3
  have HK := Lib.hid (ringLike_any p c s none 0 0 [(node, 1, 1, 1)] b2 1 (mapD [(node, 1, 1, 1)]) w3 (ringMap_one _ HNN.out.1 HNN.out.2) HO3.out)
  clear hown3 hg3 r3
  go_wp2_with fail
  (with_reducible refine HK.out.mono ?_); rintro e w4 ⟨A4, n4, c4, rfl, ho4, hn4, hb4⟩
  have HO4 := Lib.hid ho4
  have HB34 : Hid (Below W.heap.size W w4) := Lib.hid (HB3.out.trans (hb4.mono HB3.out.size))
  have HB04 : Hid (Below w.heap.size w w4) := Lib.hid (HB.out.trans (HB34.out.mono HB.out.size))
  have HS3 : Hid (w.heap.size + 2 ≤ w3.heap.size) := Lib.hid (by have := HB3.out.size; have := HZ.out; omega)
  have r1 := (HB34.out.block (w.heap.size + 1) (by have := HZ.out; omega)).trans HR1.out
  have R1 := Lib.hid r1
  have f0 := frozen_of_row w4 _ 0 _ _ r1
  have f1 := frozen_of_row w4 _ 1 _ _ r1
  have f2 := frozen_of_row w4 _ 2 _ _ r1
  have f3 := frozen_of_row w4 _ 3 _ _ r1
  have m0 := cell_of_row w4 _ 0 _ _ (0, 0) r1
  have m1 := cell_of_row w4 _ 1 _ _ (0, 0) r1
  have m2 := cell_of_row w4 _ 2 _ _ (0, 0) r1
  have m3 := cell_of_row w4 _ 3 _ _ (0, 0) r1
  clear r1 ho4 hb4 hn4 j0 j1 j2 j3
  go_wp2
  have hr := set4 R1.out (.int .i64 p) (.int .i64 c) (.int .i64 s) (.slice A4 n4 c4)
  have p0 := cell_of_row _ _ 0 _ _ (0, 0) hr
  have p1 := cell_of_row _ _ 1 _ _ (0, 0) hr
  have p2 := cell_of_row _ _ 2 _ _ (0, 0) hr
  have p3 := cell_of_row _ _ 3 _ _ (0, 0) hr
  refine bodyPost_ret (v := .tuple #[.agg #[.int .i64 p, .int .i64 c, .int .i64 s, .slice A4 n4 c4], .int .i64 0]) (by simp [results, Tryd.results22, go_sem, p0, p1, p2, p3]) rfl ⟨A4, n4, c4, rfl, ?_, ?_⟩
  · exact (ownM_set4 HO4.out (by have := HS3.out; omega) _ _ _ _).base_le (by have := HS3.out; omega)
  · exact below_set4 HB04.out (by omega) _ _ _ _
end Go.Proofs.YtmgobekdlgogmaaDoor
