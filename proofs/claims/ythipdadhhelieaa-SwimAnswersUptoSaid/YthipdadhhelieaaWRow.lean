/- Rows of structs of three numbers in memory. -/
import Derived.Test.YthipdadhhelieaaWTab2
import Derived.Laws.OwnMore
import Derived.Lib.SliceRun
import Derived.Maps.AppendAt
import Derived.Lib.QuietBelow
namespace Go.Proofs.Ythipdadhhelieaa
open Go.RowKit Go.Sort

theorem add_block (a : Addr) (n : Nat) : (a.add n).block = a.block := by unfold Addr.add; split <;> rfl
abbrev DotA := Int × Int × Int
theorem below_drewN {B : Nat} {a w : World} (h : Below B a w) (n : Nat) : Below B a (w.drewN n) := ⟨h.os, h.tape, h.output, h.size, h.block⟩
theorem below_re {w0 w : World} (h : Below w0.heap.size w0 w) (d : Nat) (os : Array Obj) : Below w0.heap.size w0 (grow (redrawn w d) os) := h.trans ((below_regrown w d os).mono h.size)
/-- A callee's contract in a region's worlds. -/
theorem re_of {f : FuncId} {args : Array Value} {v : Value} (h : ∀ w, Calls Try.prog f args w fun e w' => e = .returned v ∧ Below w.heap.size w w') (W : World) (d : Nat) (os : Array Obj) :
    Calls Try.prog f args (grow (redrawn W d) os) fun e w'' => e = .returned v ∧ ∃ p : Regrown, w'' = grow (redrawn W p.d) p.os := Calls.regrown_of (h _)

theorem add_lit (a : Addr) (k : Nat) (hk : 0 < k) : a.add k = ⟨a.block, a.off + k, none⟩ := by unfold Addr.add; rw [if_neg (by omega)]
theorem add_add (a : Addr) (m n : Nat) : (a.add m).add n = a.add (m + n) := by
  unfold Addr.add
  by_cases hm : m = 0
  · subst hm; simp
  · by_cases hn : n = 0
    · subst hn; simp
    · simp [hm, hn, Nat.add_assoc]

/-- The three cells of a dot. -/
def DotAt (w : World) (p : Addr) (d : DotA) : Prop := w.cell? p = some (.int .i64 d.1) ∧ w.cell? ⟨p.block, p.off + 1, none⟩ = some (.int .i64 d.2.1) ∧ w.cell? ⟨p.block, p.off + 2, none⟩ = some (.int .i64 d.2.2)
theorem DotAt.below {w w' : World} {p : Addr} {d : DotA} (h : DotAt w p d) {B : Nat} (hb : Below B w w') (hp : p.block < B) : DotAt w' p d :=
  ⟨(hb.cell hp).trans h.1, (hb.cell (p := ⟨_, _, none⟩) hp).trans h.2.1, (hb.cell (p := ⟨_, _, none⟩) hp).trans h.2.2⟩

/-- From this address on these dots stand. -/
def RdDA (w : World) (hi : Nat) (A : Option Addr) (ds : List DotA) : Prop := ∀ (j : Nat) (d : DotA), ds[j]? = some d → ∃ ad : Addr, A = some ad ∧ ad.block < hi ∧ DotAt w (ad.add (j * 3)) d
/-- The slice value reads as these dots. -/
def RdD (w : World) (v : Value) (ds : List DotA) : Prop := ∃ A c, v = .slice A ds.length c ∧ ds.length ≤ c ∧ RdDA w w.heap.size A ds
theorem RdDA.below {w w' : World} {hi : Nat} {A : Option Addr} {ds : List DotA} (h : RdDA w hi A ds) {B : Nat} (hb : Below B w w') (hB : hi ≤ B) : RdDA w' hi A ds := fun j d hd => by
  obtain ⟨ad, e, h0, h1⟩ := h j d hd
  exact ⟨ad, e, h0, h1.below hb (by rw [add_block]; omega)⟩
theorem RdDA.mono {w : World} {hi hi' : Nat} {A : Option Addr} {ds : List DotA} (h : RdDA w hi A ds) (hh : hi ≤ hi') : RdDA w hi' A ds := fun j d hd => by
  obtain ⟨ad, e, h0, h1⟩ := h j d hd
  exact ⟨ad, e, Nat.lt_of_lt_of_le h0 hh, h1⟩
theorem RdD.below {w w' : World} {v : Value} {ds : List DotA} (h : RdD w v ds) (hb : Below w.heap.size w w') : RdD w' v ds := by
  obtain ⟨A, c, e, hc, hx⟩ := h
  exact ⟨A, c, e, hc, (hx.below hb (Nat.le_refl _)).mono hb.size⟩
theorem RdD.nil (w : World) : RdD w (.slice none 0 0) [] := ⟨none, 0, rfl, Nat.le_refl _, fun j d hd => by simp at hd⟩

/-- The cells of dots, one behind the other. -/
def dcells (ds : List DotA) : List Value := ds.flatMap fun d => [.int .i64 d.1, .int .i64 d.2.1, .int .i64 d.2.2]
theorem dcells_cons (d : DotA) (ds : List DotA) : dcells (d :: ds) = .int .i64 d.1 :: .int .i64 d.2.1 :: .int .i64 d.2.2 :: dcells ds := rfl
theorem dcells_append (a b : List DotA) : dcells (a ++ b) = dcells a ++ dcells b := by unfold dcells; rw [List.flatMap_append]
theorem dcells_snoc (ds : List DotA) (d : DotA) : dcells (ds ++ [d]) = dcells ds ++ [.int .i64 d.1, .int .i64 d.2.1, .int .i64 d.2.2] := dcells_append ds [d]
theorem dcells_length : ∀ ds : List DotA, (dcells ds).length = ds.length * 3
  | [] => rfl
  | d :: r => by rw [dcells_cons]; simp only [List.length_cons, dcells_length r]; omega
theorem dcells_at : ∀ (ds : List DotA) (j : Nat) (d : DotA), ds[j]? = some d → (dcells ds)[j * 3]? = some (.int .i64 d.1) ∧ (dcells ds)[j * 3 + 1]? = some (.int .i64 d.2.1) ∧ (dcells ds)[j * 3 + 2]? = some (.int .i64 d.2.2)
  | [], _, _, h => by simp at h
  | x :: r, 0, d, h => by
    have e : x = d := by simpa using h
    subst e
    exact ⟨rfl, rfl, rfl⟩
  | x :: r, j + 1, d, h => by
    have := dcells_at r j d (by simpa using h)
    rw [dcells_cons, show (j + 1) * 3 = j * 3 + 3 by omega]
    simpa using this
/-- A slice of the call's own that holds these dots. -/
def OwnD (T : TypeId) (w : World) (base : Nat) (v : Value) (ds : List DotA) : Prop := w.ownsRow base T 3 v ds.length (dcells ds)
theorem OwnD.rd {T : TypeId} {w : World} {base : Nat} {v : Value} {ds : List DotA} (h : OwnD T w base v ds) : RdD w v ds := by
  rcases h.2 with ⟨rfl, hn⟩ | ⟨g, cap, cur, rfl, hb, hg, hc, _⟩
  · have : ds = [] := List.length_eq_zero_iff.1 hn
    subst this
    exact RdD.nil w
  · refine ⟨_, cap, rfl, hc, fun j d hd => ⟨⟨g, 0, none⟩, rfl, (World.ownsRow.lt h g rfl).2, ?_⟩⟩
    obtain ⟨a0, a1, a2⟩ := dcells_at ds j d hd
    have c0 := World.ownsRow.cells h (g := g) rfl _ _ a0
    have c1 := World.ownsRow.cells h (g := g) rfl _ _ a1
    have c2 := World.ownsRow.cells h (g := g) rfl _ _ a2
    have e : ∀ k, (⟨g, 0, none⟩ : Addr).add k = ⟨g, k, none⟩ := fun k => by unfold Addr.add; split <;> simp_all
    rw [e] at c0 c1 c2
    rw [e]
    exact ⟨c0, c1, c2⟩
theorem OwnD.below {T : TypeId} {w w' : World} {base : Nat} {v : Value} {ds : List DotA} (h : OwnD T w base v ds) (hb : Below w.heap.size w w') : OwnD T w' base v ds := by
  refine World.ownsRow.kept (row := none) h ⟨hb.os, hb.tape, hb.output, hb.size, fun k hk _ => hb.block k hk⟩ ?_
  cases v.ownBlock <;> simp
theorem ownD_nil (T : TypeId) (w : World) (base : Nat) : OwnD T w base (.slice none 0 0) [] := World.ownsRow_nil w base T 3
theorem OwnD.base_le {T : TypeId} {w : World} {lo base : Nat} {v : Value} {ds : List DotA} (h : OwnD T w base v ds) (hb : lo ≤ base) : OwnD T w lo v ds := by
  refine ⟨h.1, ?_⟩
  rcases h.2 with hn | ⟨g, cap, cur, hv, hg, r⟩
  · exact .inl hn
  · exact .inr ⟨g, cap, cur, hv, by omega, r⟩

theorem ownD_slice {T : TypeId} {w : World} {base : Nat} {v : Value} {ds : List DotA} (h : OwnD T w base v ds) : ∃ A c, v = .slice A ds.length c := by
  rcases h.2 with ⟨rfl, h0⟩ | ⟨g, cap, cur, rfl, _⟩
  · exact ⟨none, 0, by rw [h0]⟩
  · exact ⟨_, _, rfl⟩
theorem ownD_of_block {T : TypeId} {w w' : World} {base : Nat} {v : Value} {ds : List DotA} (h : OwnD T w base v ds) (hs : ∀ g, _root_.Go.Value.ownBlock v = some g → w'.heap[g]? = w.heap[g]?) : OwnD T w' base v ds := by
  obtain ⟨h1, h2⟩ := h
  refine ⟨h1, ?_⟩
  rcases h2 with h2 | ⟨g, cap, cur, rfl, hb, hg, hr⟩
  · exact .inl h2
  · exact .inr ⟨g, cap, cur, rfl, hb, (hs g rfl).trans hg, hr⟩
theorem dcells_set : ∀ (ds : List DotA) (k : Nat) (x : DotA), k < ds.length → dcells (ds.set k x) = (((dcells ds).set (k * 3) (.int .i64 x.1)).set (k * 3 + 1) (.int .i64 x.2.1)).set (k * 3 + 2) (.int .i64 x.2.2)
  | [], _, _, h => by simp at h
  | d :: r, 0, x, _ => rfl
  | d :: r, k + 1, x, h => by
    have ih := dcells_set r k x (by simpa using h)
    rw [List.set_cons_succ, dcells_cons, dcells_cons, ih]
    rw [show (k + 1) * 3 = k * 3 + 3 by omega]
    rfl
theorem dcells_take : ∀ (ds : List DotA) (m : Nat), m ≤ ds.length → dcells (ds.take m) = (dcells ds).take (m * 3)
  | [], 0, _ => rfl
  | d :: r, 0, _ => rfl
  | d :: r, m + 1, h => by
    have ih := dcells_take r m (by simpa using h)
    rw [List.take_succ_cons, dcells_cons, dcells_cons, ih, show (m + 1) * 3 = m * 3 + 1 + 1 + 1 by omega]
    rfl
/-- One dot of the row is another one. -/
theorem OwnD.put {T : TypeId} {w : World} {base g n c : Nat} {ds : List DotA} (h : OwnD T w base (.slice (some ⟨g, 0, none⟩) n c) ds) {k : Nat} (x : DotA) (hk : k < ds.length) :
    OwnD T (((w.setCell ⟨g, k * 3, none⟩ (.int .i64 x.1)).setCell ⟨g, k * 3 + 1, none⟩ (.int .i64 x.2.1)).setCell ⟨g, k * 3 + 2, none⟩ (.int .i64 x.2.2)) base (.slice (some ⟨g, 0, none⟩) n c) (ds.set k x) ∧
    w.grownBy (((w.setCell ⟨g, k * 3, none⟩ (.int .i64 x.1)).setCell ⟨g, k * 3 + 1, none⟩ (.int .i64 x.2.1)).setCell ⟨g, k * 3 + 2, none⟩ (.int .i64 x.2.2)) (some g) := by
  have hn : n = ds.length := by
    obtain ⟨A, c', e⟩ := ownD_slice h
    injection e
  subst hn
  have s1 := World.ownsRow.stored h (k * 3) (.int .i64 x.1)
  have s2 := World.ownsRow.stored s1.1 (k * 3 + 1) (.int .i64 x.2.1)
  have s3 := World.ownsRow.stored s2.1 (k * 3 + 2) (.int .i64 x.2.2)
  refine ⟨?_, ?_⟩
  · unfold OwnD
    rw [List.length_set, dcells_set ds k x hk]
    exact s3.1
  · have g1 := s1.2
    have g2 := s2.2
    have g3 := s3.2
    exact ⟨g1.os ▸ g2.os ▸ g3.os, g1.tape ▸ g2.tape ▸ g3.tape, g1.output ▸ g2.output ▸ g3.output, Nat.le_trans g1.size (Nat.le_trans g2.size g3.size), fun j hj hne => by
      rw [g3.block j (Nat.lt_of_lt_of_le hj (Nat.le_trans g1.size g2.size)) hne, g2.block j (Nat.lt_of_lt_of_le hj g1.size) hne, g1.block j hj hne]⟩
/-- A shorter slice of the row. -/
theorem OwnD.cut {T : TypeId} {w : World} {base : Nat} {A : Option Addr} {n c m : Nat} {ds : List DotA} (h : OwnD T w base (.slice A n c) ds) (hm : m ≤ ds.length) : OwnD T w base (.slice A m c) (ds.take m) := by
  have hl : (ds.take m).length = m := by rw [List.length_take]; omega
  unfold OwnD
  rw [hl, dcells_take ds m hm]
  rcases h.2 with ⟨e, hn⟩ | ⟨g, cap, cur, e, hb, hg, hc, hcm, hcs, ht⟩
  · injection e with e1 e2 e3
    subst e1 e3
    have h0 : m = 0 := by omega
    subst h0
    exact ⟨by simp, .inl ⟨rfl, rfl⟩⟩
  · injection e with e1 e2 e3
    subst e1 e3
    refine ⟨?_, .inr ⟨g, c, cur, rfl, hb, hg, by omega, hcm, hcs, ?_⟩⟩
    · rw [List.length_take, dcells_length]; omega
    · rw [← ht, List.take_take, Nat.min_eq_left (by omega)]
theorem grown_trans {a b c : World} {row : Option Nat} (h : a.grownBy b row) (k : b.grownBy c row) : a.grownBy c row :=
  ⟨h.os ▸ k.os, h.tape ▸ k.tape, h.output ▸ k.output, Nat.le_trans h.size k.size, fun j hj hne => (k.block j (Nat.lt_of_lt_of_le hj h.size) hne).trans (h.block j hj hne)⟩
theorem grown_drew {a b : World} {row : Option Nat} (h : a.grownBy b row) (q : Nat) : a.grownBy (b.drewN q) row :=
  grown_trans h ⟨rfl, rfl, rfl, Nat.le_refl _, fun _ _ _ => rfl⟩
/-- Cells set from one on: the row ahead of them stays. -/
theorem row_setCells {T : TypeId} {size : Nat} (g : Nat) : ∀ (vs : List Value) (o : Nat) (w : World) {base n c : Nat} {xs : List Value}, w.ownsRow base T size (.slice (some ⟨g, 0, none⟩) n c) n xs →
    ∃ ys, (w.setCells g o vs).ownsRow base T size (.slice (some ⟨g, 0, none⟩) n c) n ys ∧ ys.take o = xs.take o ∧ w.grownBy (w.setCells g o vs) (some g)
  | [], o, w, _, _, _, xs, h => ⟨xs, h, rfl, World.grownBy.refl w _⟩
  | v :: r, o, w, _, _, _, xs, h => by
    have s := World.ownsRow.stored h o v
    obtain ⟨ys, h1, h2, h3⟩ := row_setCells g r (o + 1) (w.setCell ⟨g, o, none⟩ v) s.1
    refine ⟨ys, h1, ?_, grown_trans s.2 h3⟩
    have e := congrArg (List.take o) h2
    rw [List.take_take, List.take_take, Nat.min_eq_left (by omega)] at e
    rw [e, List.take_set_of_le (Nat.le_refl _)]
/-- 'clear' of the dots behind one. -/
theorem run_clear_dots {T ST : TypeId} (ht : Try.prog.underlying ST = some (.slice T)) (hv : ∀ w, (zeroValue T).run Try.prog w = .ok (.agg #[.int .i64 0, .int .i64 0, .int .i64 0]) w) (w : World) {base g n c : Nat} {ds : List DotA} (h : OwnD T w base (.slice (some ⟨g, 0, none⟩) n c) ds) {k c' : Nat} (hk : k < ds.length) :
    ∃ w', (∀ ty, (Builtin.clear_ #[ST] ty #[.slice (some ⟨g, k * 3, none⟩) (n - k) c']).run Try.prog w = .ok (.tuple #[]) w') ∧ OwnD T w' base (.slice (some ⟨g, 0, none⟩) k c) (ds.take k) ∧ w.grownBy w' (some g) := by
  have hn : n = ds.length := by
    obtain ⟨A, c', e⟩ := ownD_slice h
    injection e
  subst hn
  obtain ⟨Z, hZ⟩ : ∃ Z, Z = (Builtin.zeroCells #[.int .i64 0, .int .i64 0, .int .i64 0] (ds.length - k)).toList := ⟨_, rfl⟩
  have hZl : Z.length = (ds.length - k) * 3 := by rw [hZ, Array.length_toList, size_zeroCells]; rfl
  have hZ1 : ∀ v ∈ Z, v.oneCell' = true := by
    intro v hv'
    rw [hZ] at hv'
    simp only [Builtin.zeroCells, Array.toList_map, List.mem_map] at hv'
    obtain ⟨i, _, rfl⟩ := hv'
    have : i % 3 < 3 := Nat.mod_lt _ (by decide)
    rcases (by omega : i % 3 = 0 ∨ i % 3 = 1 ∨ i % 3 = 2) with e | e | e <;> simp [e, Value.oneCell']
  have hc : ∀ j, j < Z.length → (w.cell? ⟨g, k * 3 + j, none⟩).isSome = true := fun j hj => by
    rw [World.ownsRow.cellAt h (k * 3 + j) (by omega)]
    simp only [Option.isSome_iff_exists]
    exact ⟨_, List.getElem?_eq_getElem (by rw [dcells_length]; omega)⟩
  have hf : ∀ j, j < Z.length → w.frozen? ⟨g, k * 3 + j, none⟩ = false := fun j _ => World.ownsRow.frozenAt h _
  have hst := run_storeCells_cells (P := Try.prog) g (k * 3) Z 0 w (by simpa using hc) (by simpa using hf) hZ1
  simp only [Nat.add_zero] at hst
  obtain ⟨ys, h1, h2, h3⟩ := row_setCells g Z (k * 3) w h
  refine ⟨w.setCells g (k * 3) Z, ?_, ?_, h3⟩
  · obtain ⟨m, hm⟩ : ∃ m, ds.length - k = m + 1 := ⟨ds.length - k - 1, by omega⟩
    rw [hm] at hZ ⊢
    intro ty
    simp [Builtin.clear_, run_underlying ht, hv, Value.cells, ← hZ, hst]
  · have hl : (ds.take k).length = k := by rw [List.length_take]; omega
    unfold OwnD
    rw [hl, dcells_take ds k (Nat.le_of_lt hk), ← h2]
    rcases h1.2 with ⟨e, _⟩ | ⟨g', cap, cur, e, hb, hg, hcc, hcm, hcs, htk⟩
    · cases e
    · injection e with e1 e2 e3
      injection e1 with e1
      injection e1 with e1
      subst e1 e3
      refine ⟨?_, .inr ⟨g, c, cur, rfl, hb, hg, by omega, hcm, hcs, ?_⟩⟩
      · rw [List.length_take, h1.1]; omega
      · rw [← htk, List.take_take, Nat.min_eq_left (by omega)]

set_option maxRecDepth 100000 in
/-- append onto a row of the call's own, from a slice that reads as dots (nil, empty or not). -/
theorem run_append_dots {T ST : TypeId} (ht : Try.prog.underlying ST = some (.slice T)) (hT : (Try.prog.info? T).map (fun i => (i.zero, i.size, i.bytes)) = some (some (.agg #[.int .i64 0, .int .i64 0, .int .i64 0]), 3, 24))
    (w : World) (ty : TypeId) {base hi : Nat} {v : Value} {xs ys : List DotA} (hown : OwnD T w base v xs) {A : Option Addr} {c : Nat} (hr : RdDA w hi A ys)
    (hm : xs.length + ys.length ≤ 1099511627776) (hbase : base ≤ w.heap.size) :
    ∃ v' w', (Builtin.append_ #[ST, ST] ty #[v, .slice A ys.length c]).run Try.prog w = .ok v' w' ∧ OwnD T w' base v' (xs ++ ys) ∧ w.grownBy w' v.ownBlock ∧
      (v'.ownBlock = v.ownBlock ∨ v'.ownBlock = some w.heap.size) := by
  obtain ⟨i0, hi0, hz0, hz1, hz2⟩ := info_parts hT
  by_cases h0 : ys = []
  · subst h0
    refine ⟨v, w, ?_, by simpa using hown, World.grownBy.refl w _, .inl rfl⟩
    rcases hown.2 with ⟨rfl, _⟩ | ⟨g, cap, cur, rfl, _, _, hnc, _⟩
    · cases A <;> simp [Builtin.append_, run_underlying ht, sizeOf, typeInfo, hi0, Builtin.lenOf, Builtin.firstCells, loadCells, loadCellsFrom]
    · cases A <;> simp [Builtin.append_, run_underlying ht, sizeOf, typeInfo, hi0, Builtin.lenOf, Builtin.firstCells, hnc, storeCells, loadCells, loadCellsFrom]
  · obtain ⟨y, hy⟩ : ∃ y, ys[0]? = some y := ⟨ys[0]'(List.length_pos_iff.2 h0), List.getElem?_eq_getElem _⟩
    obtain ⟨ad, rfl, _, _⟩ := hr 0 y hy
    obtain ⟨v', w', h1, h2, h3, _, h5⟩ := run_append_own_at (P := Try.prog) w base ST ty T i0 _ 3 24 ht hi0 hz0 hz1 hz2 rfl (by decide)
      v xs.length (dcells xs) hown ad ys.length c (dcells ys) (dcells_length ys) (fun j u hu => by
        have hj : j < ys.length * 3 := by
          have := (List.getElem?_eq_some_iff.1 hu).1
          rwa [dcells_length] at this
        obtain ⟨d, hd⟩ : ∃ d, ys[j / 3]? = some d := ⟨ys[j / 3]'(by omega), List.getElem?_eq_getElem _⟩
        obtain ⟨ad', e', _, p0, p1, p2⟩ := hr (j / 3) d hd
        injection e' with e'
        subst e'
        obtain ⟨a0, a1, a2⟩ := dcells_at ys (j / 3) d hd
        have hm3 : j % 3 < 3 := Nat.mod_lt _ (by decide)
        have hj3 : j = j / 3 * 3 + j % 3 := by omega
        generalize j % 3 = r at hm3 hj3
        generalize j / 3 = q at *
        subst hj3
        have pp : ∀ i, 0 < i → ad.add (q * 3 + i) = ⟨(ad.add (q * 3)).block, (ad.add (q * 3)).off + i, none⟩ := fun i hi => by
          rw [← add_add, add_lit _ i hi]
        rcases (by omega : r = 0 ∨ r = 1 ∨ r = 2) with rfl | rfl | rfl
        · rw [Nat.add_zero] at hu ⊢
          rw [a0] at hu
          rw [p0]; exact hu
        · rw [a1] at hu
          rw [pp 1 (by omega), p1]; exact hu
        · rw [a2] at hu
          rw [pp 2 (by omega), p2]; exact hu)
      (fun u hu => by
        unfold dcells at hu
        rw [List.mem_flatMap] at hu
        obtain ⟨d, _, hd⟩ := hu
        simp at hd
        rcases hd with rfl | rfl | rfl <;> rfl) (by simp only [maxLen]; omega) (by omega) hbase
    refine ⟨v', w', h1, ?_, h3, h5⟩
    unfold OwnD
    rw [List.length_append, dcells_append]
    exact h2

theorem wpList_append_dots {T ST : TypeId} (ht : Try.prog.underlying ST = some (.slice T)) (hT : (Try.prog.info? T).map (fun i => (i.zero, i.size, i.bytes)) = some (some (.agg #[.int .i64 0, .int .i64 0, .int .i64 0]), 3, 24))
    {ops : Array Oper} {rest : List Oper} {o : Oper} {a : Act} {Q : Exit → Act → World → Prop} (w : World) (hgd : o.guard = none) (s x : Operand)
    (ho : o.op = .call { callee := .builtin .append, args := #[s, x], argTypes := #[ST, ST] })
    {base hi : Nat} {v : Value} {xs ys : List DotA} (hs : a.eval s = v) (hown : OwnD T w base v xs) {A : Option Addr} {m c : Nat} (hx : a.eval x = .slice A m c) (hm : m = ys.length) (hr : RdDA w hi A ys)
    (hl : xs.length + ys.length ≤ 1099511627776) (hbase : base ≤ w.heap.size)
    (h : ∀ v' w', OwnD T w' base v' (xs ++ ys) → w.grownBy w' v.ownBlock → (v'.ownBlock = v.ownBlock ∨ v'.ownBlock = some w.heap.size) → wpList Try.prog ops Q rest (a.put o.dst v') w') : wpList Try.prog ops Q (o :: rest) a w := by
  subst hm
  refine wpList_plain hgd fun K hK => ?_
  obtain ⟨v', w', hrun, h2, h3, h4⟩ := run_append_dots ht hT w o.type hown (c := c) hr hl hbase
  unfold Oper.wp execOp
  simp only [ho, resolve, invoke, builtin, Sem.run_bind, Sem.run_pure, Result.andThen_ok, List.map_toArray, List.map_cons, List.map_nil, hs, hx, hrun]
  exact hK _ _ (h v' w' h2 h3 h4)
end Go.Proofs.Ythipdadhhelieaa
