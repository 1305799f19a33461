/- Join: the program's. -/
import Derived.Test.YtfplblhmeohhmaaCConcat
import Derived.Test.YtfplblhmeohhmaaCUniq
import Derived.Deep.RegionHeld3
namespace Go.Proofs.Ytfplblhmeohhmaa
open Go.RowKit Go.Sort Go.BigFrame
open Go.Lib (byteCells byteCells_length)

/-- An answer of a context and an error. -/
def AnsC (R : List DotA → List DotA → Int → Prop) (w : World) (e : Ending) (w' : World) : Prop :=
  ∃ (ms ds : List DotA) (A A1 : Option Addr) (n n1 c c1 : Nat) (er : Int), e = .returned (.tuple #[.agg #[.slice A n c, .slice A1 n1 c1], .int .i64 er]) ∧ OwnD 55 w' w.heap.size (.slice A n c) ms ∧ OwnD 44 w' w.heap.size (.slice A1 n1 c1) ds ∧ Below w.heap.size w w' ∧ R ms ds er
/-- What Normal answers. -/
def NormRel (marks dots : List DotA) (ms ds : List DotA) (er : Int) : Prop :=
  (¬ (AllMay marks ∧ AllMay dots) ∧ ms = [] ∧ ds = [] ∧ er = 1) ∨
    (AllMay marks ∧ AllMay dots ∧ ∃ ms2 ds2, Canon ms2 ds2 ∧ (∀ x : DotA, 1 ≤ x.2.2 → (InC ms2 ds2 x ↔ Tot marks dots x)) ∧
      ((¬ (ms2.length ≤ 64 ∧ ds2.length ≤ 64) ∧ ms = [] ∧ ds = [] ∧ er = 4) ∨ (ms2.length ≤ 64 ∧ ds2.length ≤ 64 ∧ ms = ms2 ∧ ds = ds2 ∧ er = 0)))
theorem normRel_of {marks dots : List DotA} {w : World} {e : Ending} {w' : World} (h : NormPost marks dots w e w') : AnsC (NormRel marks dots) w e w' := by
  obtain ⟨hb, h | ⟨h0, h00, ms, ds, hc, ht, h | ⟨h1, h2, mv, dv, rfl, hm, hd⟩⟩⟩ := h
  · exact ⟨[], [], none, none, 0, 0, 0, 0, 1, h.2, ownD_nil _ _ _, ownD_nil _ _ _, hb, .inl ⟨h.1, rfl, rfl, rfl⟩⟩
  · exact ⟨[], [], none, none, 0, 0, 0, 0, 4, h.2, ownD_nil _ _ _, ownD_nil _ _ _, hb, .inr ⟨h0, h00, ms, ds, hc, ht, .inl ⟨h.1, rfl, rfl, rfl⟩⟩⟩
  · obtain ⟨A, c, rfl⟩ := ownD_slice hm
    obtain ⟨A1, c1, rfl⟩ := ownD_slice hd
    exact ⟨ms, ds, A, A1, _, _, c, c1, 0, rfl, hm, hd, hb, .inr ⟨h0, h00, ms, ds, hc, ht, .inr ⟨h1, h2, rfl, rfl, rfl⟩⟩⟩
/-- The answer hangs on the dots alone. -/
theorem normRel_eq {m d m' d' ms ds ms' ds' : List DotA} {er er' : Int} (h : NormRel m d ms ds er) (h' : NormRel m' d' ms' ds' er') (hm : AllMay m ∧ AllMay d ↔ AllMay m' ∧ AllMay d') (ht : ∀ x : DotA, 1 ≤ x.2.2 → (Tot m d x ↔ Tot m' d' x)) :
    ms = ms' ∧ ds = ds' ∧ er = er' := by
  rcases h with ⟨n, rfl, rfl, rfl⟩ | ⟨a1, a2, ms2, ds2, c, t, r⟩
  · rcases h' with ⟨_, rfl, rfl, rfl⟩ | ⟨b1, b2, _⟩
    · exact ⟨rfl, rfl, rfl⟩
    · exact absurd (hm.2 ⟨b1, b2⟩) n
  · rcases h' with ⟨n, _⟩ | ⟨_, _, ms3, ds3, c', t', r'⟩
    · exact absurd (hm.1 ⟨a1, a2⟩) n
    · obtain ⟨rfl, rfl⟩ := canon_eq c c' fun x hx => (t x hx).trans ((ht x hx).trans (t' x hx).symm)
      rcases r with ⟨l, rfl, rfl, rfl⟩ | ⟨l1, l2, rfl, rfl, rfl⟩
      · rcases r' with ⟨_, rfl, rfl, rfl⟩ | ⟨l1, l2, _⟩
        · exact ⟨rfl, rfl, rfl⟩
        · exact absurd ⟨l1, l2⟩ l
      · rcases r' with ⟨l, _⟩ | ⟨_, _, rfl, rfl, rfl⟩
        · exact absurd ⟨l1, l2⟩ l
        · exact ⟨rfl, rfl, rfl⟩
/-- What Join answers. -/
def JoinRel (ms ds ms1 ds1 : List DotA) (ms' ds' : List DotA) (er : Int) : Prop :=
  (¬ (OkC ms ds ∧ OkC ms1 ds1) ∧ ms' = [] ∧ ds' = [] ∧ er = 30) ∨ (OkC ms ds ∧ OkC ms1 ds1 ∧ NormRel (ms ++ ms1) (ds ++ ds1) ms' ds' er)
def NormSpec : Prop := ∀ (v vd : Value) (ms ds : List DotA) (w : World), RdD w v ms → RdD w vd ds → ms.length ≤ 1048576 → ds.length ≤ 1048576 → Calls Try.prog 74 #[v, vd] w (NormPost ms ds w)
theorem below_alloc {w w' : World} {o : Obj} (h : Below w.heap.size w w') : Below w.heap.size w (w'.alloc o) := h.alloc h.size o
theorem below_size {w w' : World} (h : Below w.heap.size w w') : w.heap.size ≤ w'.heap.size := h.size
theorem below_drew {w w' : World} (h : Below w.heap.size w w') : Below w.heap.size w w'.drew := h.drew
theorem below_next {w a b : World} (h : Below w.heap.size w a) (k : Below a.heap.size a b) : Below w.heap.size w b := h.trans (k.mono h.size)
theorem box_at (w : World) (cs : Array Value) (T : TypeId) (i : Nat) {g : Nat} (hg : g = w.heap.size) : (w.alloc (.cells cs T)).cell? ⟨g, i, none⟩ = cs[i]? := by rw [hg]; exact box_cell w cs T i
theorem cell_up {w : World} {a : Addr} {v : Value} (o : Obj) (h : w.cell? a = some v) : (w.alloc o).cell? a = some v := Go.Lib.cell?_alloc_some o h
theorem cell_set {w : World} {a b : Addr} {v x : Value} (h : w.cell? a = some v) (hne : a.block ≠ b.block) : (w.setCell b x).cell? a = some v := (World.cell?_setCell_other _ _ _ _ (fun e => hne (by rw [e]))).trans h
theorem cell_on {w w' : World} {a : Addr} {v : Value} (h : w.cell? a = some v) (hb : Below w.heap.size w w') : w'.cell? a = some v := (hb.cell (World.block_lt_of_cell? w a h)).trans h

set_option maxRecDepth 100000 in
set_option maxHeartbeats 25600000 in
theorem join_any (HN : NormSpec) (v v1 : Value) (ms ds ms1 ds1 : List DotA) (w : World) (h : RdC w v ms ds) (h1 : RdC w v1 ms1 ds1) (hl : ms.length ≤ 1048576 ∧ ds.length ≤ 1048576 ∧ ms1.length ≤ 1048576 ∧ ds1.length ≤ 1048576) :
    Calls Try.prog 29 #[v, v1] w (AnsC (JoinRel ms ds ms1 ds1) w) := by
  obtain ⟨hl1, hl2, hl3, hl4⟩ := hl
  obtain ⟨mv, dv, rfl, hm, hd⟩ := h
  obtain ⟨mv1, dv1, rfl, hm1, hd1⟩ := h1
  obtain ⟨W, hW⟩ : ∃ W, Hid (W = ((w.alloc (.cells #[mv, dv] 48)).alloc (.cells #[mv1, dv1] 48)).alloc (.cells #[.slice none 0 0, .slice none 0 0] 48)) := ⟨_, Lib.hid rfl⟩
  have hb0 : Below w.heap.size w W := by rw [hW.out]; exact below_alloc (below_alloc (below_alloc (Below.refl _ _)))
  have hz : W.heap.size = w.heap.size + 3 := by rw [hW.out]; simp
  have hbc : BoxC W w.heap.size mv dv := by
    rw [hW.out]
    exact ⟨cell_up _ (cell_up _ (box_cell _ _ _ 0)), cell_up _ (cell_up _ (box_cell _ _ _ 1))⟩
  have hba : BoxC W (w.heap.size + 1) mv1 dv1 := by
    have : BoxC ((w.alloc (.cells #[mv, dv] 48)).alloc (.cells #[mv1, dv1] 48)) (w.alloc (.cells #[mv, dv] 48)).heap.size mv1 dv1 := ⟨box_cell _ _ _ 0, box_cell _ _ _ 1⟩
    rw [show (w.alloc (.cells #[mv, dv] 48)).heap.size = w.heap.size + 1 by simp] at this
    rw [hW.out]
    exact ⟨cell_up _ this.1, cell_up _ this.2⟩
  have hrow : W.heap[w.heap.size + 2]? = some (.cells #[.slice none 0 0, .slice none 0 0] 48 (0, 0)) := by
    have := heap_alloc_new ((w.alloc (.cells #[mv, dv] 48)).alloc (.cells #[mv1, dv1] 48)) (.cells #[.slice none 0 0, .slice none 0 0] 48)
    rw [← hW.out, show ((w.alloc (.cells #[mv, dv] 48)).alloc (.cells #[mv1, dv1] 48)).heap.size = w.heap.size + 2 by simp] at this
    exact this
  have hrd : RdC W (.agg #[mv, dv]) ms ds := ⟨mv, dv, rfl, hm.below hb0, hd.below hb0⟩
  have hrd1 : RdC W (.agg #[mv1, dv1]) ms1 ds1 := ⟨mv1, dv1, rfl, hm1.below hb0, hd1.below hb0⟩
  have HM := Lib.hid (hm.below hb0)
  have HD := Lib.hid (hd.below hb0)
  have HM1 := Lib.hid (hm1.below hb0)
  have HD1 := Lib.hid (hd1.below hb0)
  have HCN := Lib.hid (can_any _ ms ds W hrd (by omega) (by omega))
  obtain ⟨A, c, rfl, hc, _⟩ := hd
  obtain ⟨A1, c1, rfl, hc1, _⟩ := hm
  obtain ⟨A2, c2, rfl, hc2, _⟩ := hd1
  obtain ⟨A3, c3, rfl, hc3, _⟩ := hm1
  have HRD1 := Lib.hid hrd1
  have HC := Lib.hid hbc
  have HA := Lib.hid hba
  have HROW := Lib.hid hrow
  have HB0 := Lib.hid hb0
  obtain ⟨n, hn⟩ : ∃ n, Hid (n = ds.length) := ⟨_, Lib.hid rfl⟩
  obtain ⟨n1, hn1⟩ : ∃ n1, Hid (n1 = ms.length) := ⟨_, Lib.hid rfl⟩
  obtain ⟨n2, hn2⟩ : ∃ n2, Hid (n2 = ds1.length) := ⟨_, Lib.hid rfl⟩
  obtain ⟨n3, hn3⟩ : ∃ n3, Hid (n3 = ms1.length) := ⟨_, Lib.hid rfl⟩
  have hWe := hW.out.symm
  rw [← hn.out] at hWe HCN hbc HC HD ⊢
  rw [← hn1.out] at hWe HCN hbc HC HM ⊢
  rw [← hn2.out] at hWe HRD1 HA HD1 ⊢
  rw [← hn3.out] at hWe HRD1 HA HM1 ⊢
  obtain ⟨l0, l1⟩ := hbc
  have hlt0 : w.heap.size < W.heap.size := by omega
  have hlt1 : w.heap.size + 1 < W.heap.size := by omega
  have hlt2 : w.heap.size + 2 < W.heap.size := by omega
  have hsW : w.heap.size ≤ W.heap.size := by omega
  have HZ := Lib.hid hz
  clear hb0 hrd hrd1 hba hrow hz hc hc1 hc2 hc3
  go_enter Try.func29, Try.ntmps29
  go_upto_region 1 with fail
  clear hWe
  go_wp2_with fail
  (with_reducible refine HCN.out.mono ?_); rintro e w1 ⟨b, rfl, hbi, hb1⟩
  have HB1 := Lib.hid hb1
  have HBI := Lib.hid hbi
  clear hb1 hbi l0 l1 HCN
  cases b with
  | false =>
    have HNO : Hid (¬ OkC ms ds) := Lib.hid (fun h => by have := HBI.out.2 h; cases this)
    have r1 := (HB1.out.block _ hlt2).trans HROW.out
    have q0 : w1.cell? ⟨w.heap.size + 2, 0, none⟩ = some (.slice none 0 0) := cell_of_row w1 _ 0 _ _ (0, 0) r1
    have q1 : w1.cell? ⟨w.heap.size + 2, 1, none⟩ = some (.slice none 0 0) := cell_of_row w1 _ 1 _ _ (0, 0) r1
    have f0 : w1.frozen? ⟨w.heap.size + 2, 0, none⟩ = false := frozen_of_row w1 _ 0 _ _ r1
    have f1 : w1.frozen? ⟨w.heap.size + 2, 1, none⟩ = false := frozen_of_row w1 _ 1 _ _ r1
    have HR := Lib.hid (Joins.block_setCell (Joins.block_setCell r1 (i := 0) (.slice none 0 0)) (i := 1) (.slice none 0 0))
    clear r1
    go_wp2
    have p0 := cell_of_row _ _ 0 _ _ (0, 0) HR.out
    have p1 := cell_of_row _ _ 1 _ _ (0, 0) HR.out
    refine bodyPost_ret (v := .tuple #[.agg #[.slice none 0 0, .slice none 0 0], .int .i64 30]) (by simp [results, Try.results29, go_sem, p0, p1]) rfl ⟨[], [], none, none, 0, 0, 0, 0, 30, rfl, ownD_nil _ _ _, ownD_nil _ _ _, ?_, .inl ⟨fun h => HNO.out h.1, rfl, rfl, rfl⟩⟩
    exact ((HB0.out.trans (HB1.out.mono hsW)).setCell (show w.heap.size ≤ w.heap.size + 2 by omega) _).setCell (show w.heap.size ≤ w.heap.size + 2 by omega) _
  | true =>
    have HOK := Lib.hid (HBI.out.1 rfl)
    obtain ⟨k0, k1⟩ := HA.out.below HB1.out hlt1
    have HCN1 := Lib.hid (can_any _ ms1 ds1 w1 (HRD1.out.below HB1.out) (by omega) (by omega))
    go_wp2_with fail
    (with_reducible refine HCN1.out.mono ?_); rintro e w2 ⟨b, rfl, hbi, hb2⟩
    have HB2 := Lib.hid (HB1.out.trans (hb2.mono HB1.out.size))
    have HBI1 := Lib.hid hbi
    have r1 := (HB2.out.block _ hlt2).trans HROW.out
    have q0 : w2.cell? ⟨w.heap.size + 2, 0, none⟩ = some (.slice none 0 0) := cell_of_row w2 _ 0 _ _ (0, 0) r1
    have q1 : w2.cell? ⟨w.heap.size + 2, 1, none⟩ = some (.slice none 0 0) := cell_of_row w2 _ 1 _ _ (0, 0) r1
    have f0 : w2.frozen? ⟨w.heap.size + 2, 0, none⟩ = false := frozen_of_row w2 _ 0 _ _ r1
    have f1 : w2.frozen? ⟨w.heap.size + 2, 1, none⟩ = false := frozen_of_row w2 _ 1 _ _ r1
    have HR1 := Lib.hid r1
    clear k0 k1 hbi hb2 HCN1 r1
    cases b with
    | false =>
      have HNO : Hid (¬ OkC ms1 ds1) := Lib.hid (fun h => by have := HBI1.out.2 h; cases this)
      have HR := Lib.hid (Joins.block_setCell (Joins.block_setCell HR1.out (i := 0) (.slice none 0 0)) (i := 1) (.slice none 0 0))
      go_wp2
      have p0 := cell_of_row _ _ 0 _ _ (0, 0) HR.out
      have p1 := cell_of_row _ _ 1 _ _ (0, 0) HR.out
      refine bodyPost_ret (v := .tuple #[.agg #[.slice none 0 0, .slice none 0 0], .int .i64 30]) (by simp [results, Try.results29, go_sem, p0, p1]) rfl ⟨[], [], none, none, 0, 0, 0, 0, 30, rfl, ownD_nil _ _ _, ownD_nil _ _ _, ?_, .inl ⟨fun h => HNO.out h.2, rfl, rfl, rfl⟩⟩
      exact ((HB0.out.trans (HB2.out.mono hsW)).setCell (show w.heap.size ≤ w.heap.size + 2 by omega) _).setCell (show w.heap.size ≤ w.heap.size + 2 by omega) _
    | true =>
      have HOK1 := Lib.hid (HBI1.out.1 rfl)
      clear q0 q1 f0 f1
      have HS0 : Hid (w2.cell? ⟨w.heap.size, 0, none⟩ = some (.slice A1 n1 c1) ∧ w2.cell? ⟨w.heap.size, 1, none⟩ = some (.slice A n c) ∧ w2.cell? ⟨w.heap.size + 1, 0, none⟩ = some (.slice A3 n3 c3) ∧ w2.cell? ⟨w.heap.size + 1, 1, none⟩ = some (.slice A2 n2 c2)) :=
        Lib.hid ⟨(HC.out.below HB2.out hlt0).1, (HC.out.below HB2.out hlt0).2, (HA.out.below HB2.out hlt1).1, (HA.out.below HB2.out hlt1).2⟩
      have HM2 := Lib.hid (HM.out.below HB2.out)
      have HD2 := Lib.hid (HD.out.below HB2.out)
      have HM12 := Lib.hid (HM1.out.below HB2.out)
      have HD12 := Lib.hid (HD1.out.below HB2.out)
      have hlm : (ms ++ ms1).length ≤ 1048576 := by have := HOK.out.1; have := HOK1.out.1; rw [List.length_append]; omega
      have hld : (ds ++ ds1).length ≤ 1048576 := by have := HOK.out.2.1; have := HOK1.out.2.1; rw [List.length_append]; omega
      have HLM := Lib.hid hlm
      have HLD := Lib.hid hld
      have HN' := Lib.hid HN
      have hlt4 : w.heap.size + 2 < w2.heap.size := Nat.lt_of_lt_of_le hlt2 HB2.out.size
      clear hlm hld HN
      go_wp2_with fail
      go_region_held3 (fun w' => w'.cell? ⟨w.heap.size, 0, none⟩ = some (.slice A1 n1 c1) ∧ w'.cell? ⟨w.heap.size, 1, none⟩ = some (.slice A n c) ∧ w'.cell? ⟨w.heap.size + 1, 0, none⟩ = some (.slice A3 n3 c3) ∧ w'.cell? ⟨w.heap.size + 1, 1, none⟩ = some (.slice A2 n2 c2))
        (first
          | (refine ⟨cell_on HS0.out.1 ?_, cell_on HS0.out.2.1 ?_, cell_on HS0.out.2.2.1 ?_, cell_on HS0.out.2.2.2 ?_⟩ <;> ((repeat' (first | assumption | exact Below.refl _ _ | refine below_alloc ?_ | refine below_drew ?_)); done))
          | (refine ⟨cell_set (cell_set (cell_on HS0.out.1 ?_) ?_) ?_, cell_set (cell_set (cell_on HS0.out.2.1 ?_) ?_) ?_, cell_set (cell_set (cell_on HS0.out.2.2.1 ?_) ?_) ?_, cell_set (cell_set (cell_on HS0.out.2.2.2 ?_) ?_) ?_⟩ <;> first | exact hbN | (dsimp only; omega) | omega)
          | (dsimp only; refine ⟨cell_set (cell_set (cell_on HS0.out.1 hbN) ?_) ?_, cell_set (cell_set (cell_on HS0.out.2.1 hbN) ?_) ?_, cell_set (cell_set (cell_on HS0.out.2.2.1 hbN) ?_) ?_, cell_set (cell_set (cell_on HS0.out.2.2.2 hbN) ?_) ?_⟩ <;> (dsimp only; omega)))
        (first
          | (go_at_call 75
             refine Calls.mono (concatMark_any _ (.slice A1 n1 c1) (.slice A3 n3 c3) ms ms1 _ ?_ ?_ (HM2.out.below ?_) (HM12.out.below ?_) ?_ ?_) ?_
             · first | (first | (refine box_at _ _ _ 0 ?_; (first | rfl | (simp; done))) | (refine cell_up _ ?_; refine box_at _ _ _ 0 ?_; (first | rfl | (simp; done)))) | (refine cell_on ?_ hbm; (first | (refine box_at _ _ _ 0 ?_; (first | rfl | (simp; done))) | (refine cell_up _ ?_; refine box_at _ _ _ 0 ?_; (first | rfl | (simp; done))))) | (refine cell_on ?_ hbd; (first | (refine box_at _ _ _ 0 ?_; (first | rfl | (simp; done))) | (refine cell_up _ ?_; refine box_at _ _ _ 0 ?_; (first | rfl | (simp; done))))) | (refine cell_up _ ?_; refine cell_on ?_ hbm; (first | (refine box_at _ _ _ 0 ?_; (first | rfl | (simp; done))) | (refine cell_up _ ?_; refine box_at _ _ _ 0 ?_; (first | rfl | (simp; done))))) | (refine cell_up _ ?_; refine cell_on ?_ hbd; (first | (refine box_at _ _ _ 0 ?_; (first | rfl | (simp; done))) | (refine cell_up _ ?_; refine box_at _ _ _ 0 ?_; (first | rfl | (simp; done)))))
             · first | (first | (refine box_at _ _ _ 1 ?_; (first | rfl | (simp; done))) | (refine cell_up _ ?_; refine box_at _ _ _ 1 ?_; (first | rfl | (simp; done)))) | (refine cell_on ?_ hbm; (first | (refine box_at _ _ _ 1 ?_; (first | rfl | (simp; done))) | (refine cell_up _ ?_; refine box_at _ _ _ 1 ?_; (first | rfl | (simp; done))))) | (refine cell_on ?_ hbd; (first | (refine box_at _ _ _ 1 ?_; (first | rfl | (simp; done))) | (refine cell_up _ ?_; refine box_at _ _ _ 1 ?_; (first | rfl | (simp; done))))) | (refine cell_up _ ?_; refine cell_on ?_ hbm; (first | (refine box_at _ _ _ 1 ?_; (first | rfl | (simp; done))) | (refine cell_up _ ?_; refine box_at _ _ _ 1 ?_; (first | rfl | (simp; done))))) | (refine cell_up _ ?_; refine cell_on ?_ hbd; (first | (refine box_at _ _ _ 1 ?_; (first | rfl | (simp; done))) | (refine cell_up _ ?_; refine box_at _ _ _ 1 ?_; (first | rfl | (simp; done)))))
             · (repeat' (first | assumption | exact Below.refl _ _ | refine below_alloc ?_ | refine below_drew ?_))
             · (repeat' (first | assumption | exact Below.refl _ _ | refine below_alloc ?_ | refine below_drew ?_))
             · have := HOK.out.1; omega
             · have := HOK1.out.1; omega
             rintro e w3 ⟨vm, rfl, hom, hbm⟩
             have hbM : Below w2.heap.size w2 w3 := by
               refine below_next ?_ hbm
               (repeat' (first | assumption | exact Below.refl _ _ | refine below_alloc ?_ | refine below_drew ?_)))
          | (go_at_call 74
             refine Calls.mono (HN'.out vm vd (ms ++ ms1) (ds ++ ds1) _ ?_ ?_ HLM.out HLD.out) ?_
             · first | exact hom.rd | (refine hom.rd.below (below_next ?_ hbd); (repeat' (first | assumption | exact Below.refl _ _ | refine below_alloc ?_ | refine below_drew ?_)))
             · first | exact hod.rd | (refine hod.rd.below (below_next ?_ hbm); (repeat' (first | assumption | exact Below.refl _ _ | refine below_alloc ?_ | refine below_drew ?_)))
             rintro e w5 hp
             obtain ⟨ms5, ds5, A5, A6, n5, n6, c5, c6, er, rfl, hm5, hd5, hb5, hr5⟩ := normRel_of hp
             have hbN : Below w2.heap.size w2 w5 := by
               refine below_next ?_ hb5
               (repeat' (first | assumption | exact Below.refl _ _ | refine below_alloc ?_ | refine below_drew ?_))
             have r5 := (hbN.block _ hlt4).trans HR1.out
             have q0 := cell_of_row w5 _ 0 _ _ (0, 0) r5
             have q1 := cell_of_row w5 _ 1 _ _ (0, 0) r5
             have f0 := frozen_of_row w5 _ 0 _ _ r5
             have f1 := frozen_of_row w5 _ 1 _ _ r5
             have R5 := Lib.hid r5
             have hm6 : OwnD 55 w5 w2.heap.size (.slice A5 n5 c5) ms5 := by
               refine hm5.base_le (below_size ?_)
               (repeat' (first | assumption | exact Below.refl _ _ | refine below_alloc ?_ | refine below_drew ?_))
             have hd6 : OwnD 44 w5 w2.heap.size (.slice A6 n6 c6) ds5 := by
               refine hd5.base_le (below_size ?_)
               (repeat' (first | assumption | exact Below.refl _ _ | refine below_alloc ?_ | refine below_drew ?_))
             have HM6 := Lib.hid hm6
             have HD6 := Lib.hid hd6
             have HR6 := Lib.hid hr5
             have HBN := Lib.hid hbN
             clear r5 hm6 hd6 hm5 hd5 hr5)
          | (go_at_call 76
             refine Calls.mono (concatDot_any _ (.slice A n c) (.slice A2 n2 c2) ds ds1 _ ?_ ?_ (HD2.out.below ?_) (HD12.out.below ?_) ?_ ?_) ?_
             · first | (first | (refine box_at _ _ _ 0 ?_; (first | rfl | (simp; done))) | (refine cell_up _ ?_; refine box_at _ _ _ 0 ?_; (first | rfl | (simp; done)))) | (refine cell_on ?_ hbm; (first | (refine box_at _ _ _ 0 ?_; (first | rfl | (simp; done))) | (refine cell_up _ ?_; refine box_at _ _ _ 0 ?_; (first | rfl | (simp; done))))) | (refine cell_on ?_ hbd; (first | (refine box_at _ _ _ 0 ?_; (first | rfl | (simp; done))) | (refine cell_up _ ?_; refine box_at _ _ _ 0 ?_; (first | rfl | (simp; done))))) | (refine cell_up _ ?_; refine cell_on ?_ hbm; (first | (refine box_at _ _ _ 0 ?_; (first | rfl | (simp; done))) | (refine cell_up _ ?_; refine box_at _ _ _ 0 ?_; (first | rfl | (simp; done))))) | (refine cell_up _ ?_; refine cell_on ?_ hbd; (first | (refine box_at _ _ _ 0 ?_; (first | rfl | (simp; done))) | (refine cell_up _ ?_; refine box_at _ _ _ 0 ?_; (first | rfl | (simp; done)))))
             · first | (first | (refine box_at _ _ _ 1 ?_; (first | rfl | (simp; done))) | (refine cell_up _ ?_; refine box_at _ _ _ 1 ?_; (first | rfl | (simp; done)))) | (refine cell_on ?_ hbm; (first | (refine box_at _ _ _ 1 ?_; (first | rfl | (simp; done))) | (refine cell_up _ ?_; refine box_at _ _ _ 1 ?_; (first | rfl | (simp; done))))) | (refine cell_on ?_ hbd; (first | (refine box_at _ _ _ 1 ?_; (first | rfl | (simp; done))) | (refine cell_up _ ?_; refine box_at _ _ _ 1 ?_; (first | rfl | (simp; done))))) | (refine cell_up _ ?_; refine cell_on ?_ hbm; (first | (refine box_at _ _ _ 1 ?_; (first | rfl | (simp; done))) | (refine cell_up _ ?_; refine box_at _ _ _ 1 ?_; (first | rfl | (simp; done))))) | (refine cell_up _ ?_; refine cell_on ?_ hbd; (first | (refine box_at _ _ _ 1 ?_; (first | rfl | (simp; done))) | (refine cell_up _ ?_; refine box_at _ _ _ 1 ?_; (first | rfl | (simp; done)))))
             · (repeat' (first | assumption | exact Below.refl _ _ | refine below_alloc ?_ | refine below_drew ?_))
             · (repeat' (first | assumption | exact Below.refl _ _ | refine below_alloc ?_ | refine below_drew ?_))
             · have := HOK.out.2.1; omega
             · have := HOK1.out.2.1; omega
             rintro e w4 ⟨vd, rfl, hod, hbd⟩
             have hbD : Below w2.heap.size w2 w4 := by
               refine below_next ?_ hbd
               (repeat' (first | assumption | exact Below.refl _ _ | refine below_alloc ?_ | refine below_drew ?_))))
      all_goals
        go_wp2
        have hr := Joins.block_setCell (Joins.block_setCell R5.out (i := 0) (.slice A5 n5 c5)) (i := 1) (.slice A6 n6 c6)
        have p0 := cell_of_row _ _ 0 _ _ (0, 0) hr
        have p1 := cell_of_row _ _ 1 _ _ (0, 0) hr
        have ap2 : Apart (w.heap.size + 2) (.slice A5 n5 c5) := fun g e => by have := (World.ownsRow.lt HM6.out g e).1; omega
        have ap3 : Apart (w.heap.size + 2) (.slice A6 n6 c6) := fun g e => by have := (World.ownsRow.lt HD6.out g e).1; omega
        have hle : w.heap.size ≤ w2.heap.size := by omega
        refine bodyPost_ret (v := .tuple #[.agg #[.slice A5 n5 c5, .slice A6 n6 c6], .int .i64 er]) (by simp [results, Try.results29, go_sem, p0, p1]) rfl ⟨ms5, ds5, A5, A6, n5, n6, c5, c6, er, rfl, ?_, ?_, ?_, .inr ⟨HOK.out, HOK1.out, HR6.out⟩⟩
        · exact ((HM6.out.setOther ap2 _).setOther ap2 _).base_le hle
        · exact ((HD6.out.setOther ap3 _).setOther ap3 _).base_le hle
        · exact ((HB0.out.trans ((HB2.out.trans (HBN.out.mono HB2.out.size)).mono hsW)).setCell (show w.heap.size ≤ w.heap.size + 2 by omega) _).setCell (show w.heap.size ≤ w.heap.size + 2 by omega) _
end Go.Proofs.Ytfplblhmeohhmaa
