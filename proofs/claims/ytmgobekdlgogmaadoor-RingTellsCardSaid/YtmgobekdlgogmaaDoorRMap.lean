/- A ring's members by their nodes: the map, and what it has. -/
import Derived.Test.YtmgobekdlgogmaaDoorRPart
import Derived.Maps.Views
import Derived.Maps.Own
import Derived.Maps.OwnSet
namespace Go.Proofs.YtmgobekdlgogmaaDoor
open Go.RowKit Go.Sort Go.BigFrame Go.WideMaps
open Go.Lib (byteCells byteCells_length)

/-- A value reads as itself. -/
def selfR : Value → Option (DataW Value × List MemPlace) := fun v => some (.held v, [])
theorem selfR_inv {v u : Value} {ps : List MemPlace} (h : selfR v = some (.held u, ps)) : v = u := by
  unfold selfR at h
  injection h with h
  injection h with h
  injection h
/-- 'm[k]' at the operation, for the walk. -/
theorem wpList_lookup_own {H : Type} {P : Program} (w : World) {ops : Array Oper} {rest : List Oper} {o : Oper} {a : Act} {Q : Exit → Act → World → Prop} (hg : o.guard = none) (m x : Operand) (t : TypeId) (hop : o.op = Op.lookup t m x false)
    (k e : TypeId) (K : Maps.Keyed P k) (ht : P.underlying t = some (.map k e)) (R : Value → Option (DataW H × List MemPlace)) {z : Value} (hz : (zeroValue e).run P w = .ok z w) (zd : DataW H) (zp : List MemPlace) (hzd : R z = some (zd, zp)) (b n : Nat) (D : DataW H)
    (hm : a.eval m = .map (some b)) (hown : w.ownsMap P k R b n D) (key : Value) (kl : Lit) (hx : a.eval x = key) (hkey : keyOf P k key = some kl)
    (hK : ∀ v ps, R v = some (D.atKey kl zd, ps) → wpList P ops Q rest (a.put o.dst v) w) :
    wpList P ops Q (o :: rest) a w := by
  refine wpList_plain hg fun K' hK' => ?_
  obtain ⟨v, ps, hrun, hv⟩ := hown.lookup K ht hz hzd hkey
  unfold Oper.wp
  simp [execOp, hop, hm, hx, hrun, Result.andThen]
  exact hK' _ _ (hK v ps hv)

theorem litWf {a : Int} (h0 : -9223372036854775808 ≤ a) (h1 : a ≤ 9223372036854775807) : (Lit.int .i64 a).wf = true := by
  have e0 : IntKind.i64.min = -9223372036854775808 := by decide
  have e1 : IntKind.i64.max = 9223372036854775807 := by decide
  simp only [Lit.wf, e0, e1, Bool.and_eq_true, decide_eq_true_eq]
  exact ⟨h0, h1⟩
theorem zeroMember (w : World) : (zeroValue 40).run Tryd.prog w = .ok (.agg #[.int .i64 0, .int .i64 0, .int .i64 0, .int .i64 0]) w := by kernel_rfl
theorem lawInt : Maps.Keyed Tryd.prog 3 := Maps.int_keyed Tryd.underlying3
theorem ownsV_same {w w' : World} {k : TypeId} {R : Value → Option (DataW Value × List MemPlace)} {b n : Nat} {D : DataW Value} (h : w.ownsMap Tryd.prog k R b n D) (hs : w'.heap[b]? = w.heap[b]?) : w'.ownsMap Tryd.prog k R b n D := by
  obtain ⟨es, clock, hb, r⟩ := h
  exact ⟨es, clock, hs.trans hb, r⟩
/-- The map of these members. -/
def mapD (ms : List MemA) : DataW Value := ms.foldl (fun D m => D.put (.int .i64 m.1) (.held (memV m))) (.map [])
theorem mapD_snoc (ms : List MemA) (m : MemA) : mapD (ms ++ [m]) = (mapD ms).put (.int .i64 m.1) (.held (memV m)) := by unfold mapD; rw [List.foldl_append]; rfl
theorem mapD_take {ms : List MemA} {k : Nat} {d : MemA} (h : ms[k]? = some d) : mapD (ms.take (k + 1)) = (mapD (ms.take k)).put (.int .i64 d.1) (.held (memV d)) := by
  rw [List.take_add_one, h]
  exact mapD_snoc _ _
theorem isMap_fold (ms : List MemA) : ∀ D : DataW Value, Maps.IsMap D → Maps.IsMap (ms.foldl (fun D m => D.put (.int .i64 m.1) (.held (memV m))) D) := by
  induction ms with
  | nil => exact fun D h => h
  | cons m r ih => exact fun D h => ih _ (h.put _ _)
theorem mapD_isMap (ms : List MemA) : Maps.IsMap (mapD ms) := isMap_fold ms _ Maps.isMap_empty
/-- A node's member, the zero one if there is none. -/
def lookM (ms : List MemA) (n : Int) : Option MemA := ms.find? fun m => m.1 == n
def memOf (ms : List MemA) (n : Int) : MemA := (lookM ms n).getD (0, 0, 0, 0)
theorem OkMs.tail {m : MemA} {r : List MemA} (h : OkMs (m :: r)) : OkMs r := ⟨fun j d hd => h.1 (j + 1) d (by simpa using hd), fun j a b ha hb => h.2 (j + 1) a b (by simpa using ha) (by simpa using hb)⟩
theorem OkMs.above : ∀ {ms : List MemA} {m : MemA}, OkMs (m :: ms) → ∀ x ∈ ms, m.1 < x.1
  | [], _, _, _, hx => by cases hx
  | y :: r, m, h, x, hx => by
    have h1 : m.1 < y.1 := h.2 0 m y rfl rfl
    rcases List.mem_cons.1 hx with rfl | hx
    · exact h1
    · exact Int.lt_trans h1 (h.tail.above x hx)
theorem at_fold (ms : List MemA) (hok : OkMs ms) (n : Int) (z : DataW Value) : ∀ D : DataW Value, Maps.IsMap D → (ms.foldl (fun D m => D.put (.int .i64 m.1) (.held (memV m))) D).atKey (.int .i64 n) z = match lookM ms n with | none => D.atKey (.int .i64 n) z | some m => .held (memV m) := by
  induction ms with
  | nil => intro D _; rfl
  | cons m r ih =>
    intro D hD
    rw [List.foldl_cons, ih hok.tail _ (hD.put _ _)]
    unfold lookM
    rw [List.find?_cons]
    by_cases e : m.1 = n
    · subst e
      have : r.find? (fun x => x.1 == m.1) = none := List.find?_eq_none.2 fun x hx => by
        have := hok.above x hx
        simp; omega
      rw [this]
      simp only [beq_self_eq_true]
      exact Maps.atKey_put_same hD (by exact (True.intro : WideAt.IsKeyLit (.int .i64 m.1))) _ z
    · have hb : (m.1 == n) = false := by simpa using e
      rw [hb]
      have hne : (Lit.int .i64 n) ≠ .int .i64 m.1 := fun e2 => e (by injection e2 with _ e2; exact e2.symm)
      cases hf : r.find? (fun x => x.1 == n) with
      | none => exact Maps.atKey_put_other hne _ z
      | some y => rfl
theorem mapD_at {ms : List MemA} (hok : OkMs ms) (n : Int) : (mapD ms).atKey (.int .i64 n) (.held (memV (0, 0, 0, 0))) = .held (memV (memOf ms n)) := by
  unfold mapD
  rw [at_fold ms hok n _ _ Maps.isMap_empty]
  unfold memOf
  cases lookM ms n with
  | none => rfl
  | some m => rfl

/-- What membersOf answers: a map of the call's own. -/
def MapPost (ms : List MemA) (w : World) (e : Ending) (w' : World) : Prop := ∃ b, e = .returned (.map (some b)) ∧ w.heap.size ≤ b ∧ w'.ownsMap Tryd.prog 3 selfR b ms.length (mapD ms) ∧ Below w.heap.size w w'

set_option maxRecDepth 100000 in
set_option maxHeartbeats 3200000 in
theorem membersOf_any (p c s : Int) (v : Value) (ms : List MemA) (w : World) (hok : OkMs ms) (h : RdM w v ms) (hl : ms.length ≤ 4398046511104) :
    Calls Tryd.prog 37 #[.agg #[.int .i64 p, .int .i64 c, .int .i64 s, v]] w (MapPost ms w) := by
  have hmm := @run_makeMap Tryd.prog
  obtain ⟨A, cap, rfl, hc, hx⟩ := h
  obtain ⟨n, hn⟩ : ∃ n, Hid (n = ms.length) := ⟨_, Lib.hid rfl⟩
  unfold MapPost
  rw [← hn.out] at hc hl ⊢
  have HX := Lib.hid hx
  have HOK := Lib.hid hok
  obtain ⟨W, hW⟩ : ∃ W, Hid (W = (w.alloc (.cells #[.int .i64 p, .int .i64 c, .int .i64 s, .slice A n cap] 24)).alloc (.map #[] 0)) := ⟨_, Lib.hid rfl⟩
  have HB : Hid (Below w.heap.size w W) := Lib.hid (by rw [hW.out]; exact below_allocR (below_allocR (Below.refl _ _)))
  have HZ : Hid (W.heap.size = w.heap.size + 2) := Lib.hid (by rw [hW.out]; simp)
  have k3 : W.cell? ⟨w.heap.size, 3, none⟩ = some (.slice A n cap) := by rw [hW.out]; exact cell_upR _ (box_cellR _ _ _ 3)
  have om0 : W.ownsMap Tryd.prog 3 selfR (w.heap.size + 1) 0 (.map []) := by
    have := World.ownsMap_made (w.alloc (.cells #[.int .i64 p, .int .i64 c, .int .i64 s, .slice A n cap] 24)) Tryd.prog 3 selfR
    rw [← hW.out, show (w.alloc (.cells #[.int .i64 p, .int .i64 c, .int .i64 s, .slice A n cap] 24)).heap.size = w.heap.size + 1 by simp] at this
    exact this
  have OM0 := Lib.hid om0
  have HLT : Hid (w.heap.size + 1 < W.heap.size) := Lib.hid (by have := HZ.out; omega)
  have HLS : Hid (w.heap.size ≤ w.heap.size + 1) := Lib.hid (by omega)
  clear hx hok om0
  go_enter Tryd.func37, Tryd.ntmps37
  go_upto_region 2 with fail
  rw [← hW.out]
  go_wp2
  go_loopw [10] (fun i wr => ∃ k : Nat, k ≤ n ∧ i = .int .i64 k ∧ Hid (wr.ownsMap Tryd.prog 3 selfR (w.heap.size + 1) k (mapD (ms.take k))) ∧ Below (w.heap.size + 1) W wr) (fun i _ => n - (intOf i).toNat)
  case atStart => exact ⟨0, Nat.zero_le _, rfl, Lib.hid (by simpa [mapD] using OM0.out), Below.refl _ _⟩
  case round =>
    obtain ⟨k, hk, rfl, HM, hb⟩ := hrel
    have HBR : Hid (Below w.heap.size w wr) := Lib.hid (HB.out.trans (hb.mono HLS.out))
    have hbs := hb.size
    have hz := HZ.out
    by_cases hlt : k < n
    · obtain ⟨d, hd⟩ : ∃ d, ms[k]? = some d := ⟨ms[k]'(by have := hn.out; omega), List.getElem?_eq_getElem _⟩
      obtain ⟨ad, rfl, hadlt, hda⟩ := HX.out k d hd
      obtain ⟨d0, d1, d2, d3⟩ := hda.below HBR.out (show (ad.add (k * 4)).block < w.heap.size by rw [add_block]; exact hadlt)
      have HD := Lib.hid hd
      have HN : Hid (0 ≤ d.1 ∧ d.1 < 8) := Lib.hid (by
        have := HOK.out.1 k d hd
        unfold okMem nodeB at this
        simp at this
        exact this.1.1.1)
      have HMW := Lib.hid (HM.out.alloc (.cells #[.int .i64 d.1, .int .i64 d.2.1, .int .i64 d.2.2.1, .int .i64 d.2.2.2] 40))
      have HBV : Hid (Below (w.heap.size + 1) W (wr.alloc (.cells #[.int .i64 d.1, .int .i64 d.2.1, .int .i64 d.2.2.1, .int .i64 d.2.2.2] 40))) := Lib.hid (hb.alloc (by omega) _)
      have hkey : keyOf Tryd.prog 3 (.int .i64 d.1) = some (.int .i64 d.1) := Maps.keyOf_int_mk Tryd.underlying3 (by
        exact litWf (by have := HN.out; omega) (by have := HN.out; omega))
      clear hd hda hb
      go_wp2_with (at_mapUpdate; refine wpList_mapUpdate_own _ rfl _ _ _ 51 rfl 3 40 lawInt Tryd.underlying51 selfR (w.heap.size + 1) k _ rfl HMW.out (by unfold maxLen; omega) _ _ _ rfl rfl hkey (.held (memV d)) [] rfl ?_; intro w6 hown6 hg6)
      have HO6 : Hid (w6.ownsMap Tryd.prog 3 selfR (w.heap.size + 1) (k + 1) (mapD (ms.take (k + 1)))) := Lib.hid (by rw [mapD_take HD.out]; exact hown6)
      have HB6 := Lib.hid (HBV.out.grown hg6 (by have := HBV.out.size; omega) (fun g hg => by injection hg with hg; omega))
      clear hown6 hg6
      go_wp2
      go_roundw
      case rel => exact ⟨k + 1, by omega, by go_num, HO6, HB6.out⟩
      case measure => simp [intOf]; omega
    · have hkn : k = n := by omega
      have HO1 : Hid (wr.ownsMap Tryd.prog 3 selfR (w.heap.size + 1) n (mapD ms)) := Lib.hid (by have := HM.out; rw [hkn] at this; rw [hn.out, List.take_length] at this; rw [hn.out]; exact this)
      clear hb hkn HM
      go_wp2
      go_ret
      exact ⟨_, rfl, by omega, HO1.out, HBR.out⟩
end Go.Proofs.YtmgobekdlgogmaaDoor
