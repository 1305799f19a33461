/- A call of the law's script. -/
import Derived.Test.YtaignkjcogmcjaaDCrash
import Derived.Test.YtaignkjcogmcjaaDAppend2
import Derived.Test.YtaignkjcogmcjaaDSync
namespace Go.Proofs.Ytaignkjcogmcjaa
open Go.RowKit
open Go.Lib (byteCells byteCells_length)

/-- A step of a script. -/
structure DoA where
  op : Int
  nm : ByteArray
  ot : ByteArray
  bs : List UInt8
  ts : List TearA

/-- Which call it is. -/
def opN (op : Int) : Nat := (op % 8).toNat
/-- What a step makes of the files. -/
def callF (room : Int) (fs : List FileA) (o : DoA) : List FileA :=
  match opN o.op with
  | 0 => appF room fs o.nm.data.toList o.bs
  | 1 => appF room fs o.nm.data.toList o.bs
  | 2 => appF room fs o.nm.data.toList o.bs
  | 3 => syncF fs o.nm.data.toList
  | 4 => renF fs o.nm.data.toList o.ot.data.toList
  | 5 => remF fs o.nm.data.toList
  | 6 => crashFs fs o.ts
  | _ => []

theorem Left.after {w w2 w' : World} {tag : Nat → Option Tag} {d : Nat} {room : Int} {fs : List FileA} (h : Left w2 tag d room fs w') (hb : Below w.heap.size w w2) : Left w tag d room fs w' := by
  obtain ⟨tag', h1, h2, h3⟩ := h
  exact ⟨tag', h1, (Turned.of_below hb).trans h2 (fun k hk => .inl hk), fun k hk => (h3 k hk).imp id fun h => Nat.le_trans hb.size h⟩

theorem Left.block_none {w w' : World} {tag : Nat → Option Tag} {d : Nat} {room : Int} {fs : List FileA} (h : Left w tag d room fs w') {k : Nat} (hk : k < w.heap.size) (hn : tag k = none) : w'.heap[k]? = w.heap[k]? := by
  obtain ⟨_, _, ht, _⟩ := h
  exact ht.block k hk hn

/-- The step's parts in memory, and how much they are. -/
structure DoIn (w : World) (o : DoA) (vb vt : Value) : Prop where
  rb : Rd w 0 w.heap.size vb o.bs
  rt : RdTears w vt o.ts
  lo : -9223372036854775808 ≤ o.op
  hi : o.op ≤ 9223372036854775807
  hn : o.nm.size ≤ 9223372036854775807
  ho : o.ot.size ≤ 9223372036854775807
  hb : o.bs.length ≤ 1048576
  ht : o.ts.length ≤ 1048576
  hs : ∀ t ∈ o.ts, t.1.size ≤ 9223372036854775807
  hk : ∀ t ∈ o.ts, t.2.1 ≤ 9223372036854775807
  hj : ∀ t ∈ o.ts, t.2.2.length ≤ 1048576

theorem DoIn.below {w w' : World} {o : DoA} {vb vt : Value} (h : DoIn w o vb vt) (hb : Below w.heap.size w w') : DoIn w' o vb vt :=
  ⟨(h.rb.below hb (Nat.le_refl _)).mono (Nat.le_refl _) hb.size, h.rt.below hb, h.lo, h.hi, h.hn, h.ho, h.hb, h.ht, h.hs, h.hk, h.hj⟩

theorem op_lt (op : Int) : opN op < 8 := by unfold opN; omega
theorem op_eq (op : Int) : (IntKind.u64.wrap op).tmod 8 = (opN op : Int) := by
  have e : IntKind.u64.wrap op = op % 18446744073709551616 := by
    unfold IntKind.wrap IntKind.bits IntKind.signed
    simp
  rw [e, Int.tmod_eq_emod_of_nonneg (by omega)]
  unfold opN
  omega

theorem tcells_at : ∀ (ts : List TearA) (vs : List Value) (j : Nat) (t : TearA) (v : Value), ts[j]? = some t → vs[j]? = some v → (tcells ts vs)[j * 3]? = some (.string t.1) ∧ (tcells ts vs)[j * 3 + 1]? = some (.int .i64 t.2.1) ∧ (tcells ts vs)[j * 3 + 2]? = some v
  | [], _, _, _, _, h, _ => by simp at h
  | _ :: _, [], _, _, _, _, h => by simp at h
  | a :: ts, b :: vs, 0, t, v, h, h2 => by
    simp at h h2
    subst h; subst h2
    exact ⟨rfl, rfl, rfl⟩
  | a :: ts, b :: vs, j + 1, t, v, h, h2 => by
    have := tcells_at ts vs j t v (by simpa using h) (by simpa using h2)
    rw [show (j + 1) * 3 = j * 3 + 1 + 1 + 1 by omega]
    simp only [tcells, List.getElem?_cons_succ]
    exact this
theorem add_zero_at (g j : Nat) : (⟨g, 0, none⟩ : Addr).add j = ⟨g, j, none⟩ := by unfold Addr.add; split <;> simp_all
/-- The tears copied read as the tears. -/
theorem tears_rd {w : World} {B : Nat} {v : Value} {ts : List TearA} {vs : List Value} (h : w.ownsRow B 65 3 v ts.length (tcells ts vs)) (hj : Junks w B v ts vs) : RdTearsL w B v ts := by
  have h0 := h
  rcases h.2 with ⟨rfl, hn⟩ | ⟨g, cap, cur, rfl, hb, hg, hc, _⟩
  · have : ts = [] := List.eq_nil_of_length_eq_zero hn
    subst this
    exact ⟨none, 0, rfl, Nat.le_refl _, fun j t hj => by simp at hj⟩
  · refine ⟨some ⟨g, 0, none⟩, cap, rfl, hc, fun j t ht => ?_⟩
    have hjl : j < vs.length := by rw [← hj.1]; exact (List.getElem?_eq_some_iff.1 ht).1
    have hv := List.getElem?_eq_getElem hjl
    obtain ⟨a0, a1, a2⟩ := tcells_at ts vs j t _ ht hv
    obtain ⟨hown, _⟩ := hj.2 j _ t hv ht
    obtain ⟨J, cj, ev, _, _⟩ := hown.rd
    have hr := hown.rd
    rw [ev] at hr a2
    refine ⟨⟨g, 0, none⟩, J, cj, rfl, (h0.lt g rfl).2, ?_, ?_, ?_, hr⟩
    · exact h0.cells (g := g) rfl _ _ a0
    · rw [add_zero_at]
      have := h0.cells (g := g) rfl _ _ a1
      rw [add_zero_at] at this
      exact this
    · rw [add_zero_at]
      have := h0.cells (g := g) rfl _ _ a2
      rw [add_zero_at] at this
      exact this

section
variable {w : World} {tag : Nat → Option Tag} {d : Nat} {room : Int} {fs : List FileA}
set_option maxRecDepth 100000 in
set_option maxHeartbeats 3200000 in
theorem call_made (h : Holds w tag d room fs) (o : DoA) (vb vt : Value) (hi : DoIn w o vb vt) :
    Calls Try.prog 30 #[.pointer (some ⟨d, 0, none⟩), .agg #[.int .i64 o.op, .string o.nm, .string o.ot, vb, vt]] w fun e w' => e = .returned (.tuple #[]) ∧ Left w tag d room (callF room fs o) w' := by
  obtain ⟨k, hk⟩ : ∃ k, Hid (k = opN o.op) := ⟨_, Lib.hid rfl⟩
  have hk8 : k < 8 := by rw [hk.out]; exact op_lt _
  have hop : (IntKind.u64.wrap o.op).tmod 8 = (k : Int) := by rw [op_eq, hk.out]
  obtain ⟨gs, hgs⟩ : ∃ gs, Hid (gs = callF room fs o) := ⟨_, Lib.hid rfl⟩
  rw [← hgs.out]
  obtain ⟨op, nm, ot, bs, ts⟩ := o
  simp only at hop ⊢
  obtain ⟨W, hW⟩ : ∃ W, Hid (W = w.alloc (.cells #[.int .i64 op, .string nm, .string ot, vb, vt] 34)) := ⟨_, Lib.hid rfl⟩
  have hb : Below w.heap.size w W := by rw [hW.out]; exact (Below.refl _ _).alloc (Nat.le_refl _) _
  have hH := h.same hb.size fun k hk => hb.block k (h.tags k hk)
  have hI := hi.below hb
  have HI := Lib.hid hI
  have HH := Lib.hid hH
  have HB := Lib.hid hb
  have hnew := heap_alloc_new w (.cells #[.int .i64 op, .string nm, .string ot, vb, vt] 34)
  rw [← hW.out] at hnew
  have c0 : W.cell? ⟨w.heap.size, 0, none⟩ = some (.int .i64 op) := cell_of_row W _ 0 _ _ (0, 0) hnew
  have c1 : W.cell? ⟨w.heap.size, 1, none⟩ = some (.string nm) := cell_of_row W _ 1 _ _ (0, 0) hnew
  have c2 : W.cell? ⟨w.heap.size, 2, none⟩ = some (.string ot) := cell_of_row W _ 2 _ _ (0, 0) hnew
  have c3 : W.cell? ⟨w.heap.size, 3, none⟩ = some vb := cell_of_row W _ 3 _ _ (0, 0) hnew
  have c4 : W.cell? ⟨w.heap.size, 4, none⟩ = some vt := cell_of_row W _ 4 _ _ (0, 0) hnew
  have hWe := hW.out.symm
  have C1 := Lib.hid c1
  have C3 := Lib.hid c3
  have hWlt : w.heap.size < W.drew.heap.size := (Array.getElem?_eq_some_iff.1 hnew).1
  have HTN : Hid (tag w.heap.size = none) := Lib.hid (by
    cases e : tag w.heap.size with
    | none => rfl
    | some t => have := h.tags _ (by rw [e]; simp); omega)
  clear hH hI hb hnew h hi
  rcases (by omega : k = 0 ∨ k = 1 ∨ k = 2 ∨ k = 3 ∨ k = 4 ∨ k = 5 ∨ k = 6 ∨ k = 7) with rfl | rfl | rfl | rfl | rfl | rfl | rfl | rfl
  · have e0 : ((IntKind.u64.wrap op).tmod 8 == 0) = true := by rw [hop]; rfl
    have hg : Hid (gs = appF room fs nm.data.toList bs) := Lib.hid (by rw [hgs.out]; unfold callF; simp only [← hk.out])
    have HCL := Lib.hid (clone_any vb bs W.drew HI.out.rb.drew (by have := HI.out.hb; simp only at this; omega))
    clear hop
    go_enter Try.func30, Try.ntmps30
    go_wp2_with fail
    go_region_held3 (fun w' => w'.cell? ⟨w.heap.size, 1, none⟩ = some (.string nm) ∧ w'.cell? ⟨w.heap.size, 3, none⟩ = some vb)
      (first | go_keep | exact ⟨C1.out, C3.out⟩ | exact ⟨q1, q3⟩ | exact ⟨p1, p3⟩)
      (first
        | (go_at_call 35
           (with_reducible refine HCL.out.mono ?_); rintro e w2 ⟨v1, rfl, ho1, hb2⟩
           have q1 : w2.cell? ⟨w.heap.size, 1, none⟩ = some (.string nm) := (hb2.cell (p := ⟨w.heap.size, 1, none⟩) hWlt).trans C1.out
           have q3 : w2.cell? ⟨w.heap.size, 3, none⟩ = some vb := (hb2.cell (p := ⟨w.heap.size, 3, none⟩) hWlt).trans C3.out
           have HC := Lib.hid (append_made (HH.out.same (w' := w2) hb2.size fun k hk => hb2.block k (HH.out.tags k hk)) nm HI.out.hn v1 bs (ho1.rd.mono (Nat.zero_le _) (Nat.le_refl _)) (by have := HI.out.hb; simp only at this; omega)))
        | (go_at_call 19
           (with_reducible refine HC.out.mono ?_); rintro e w3 ⟨rfl, hl3⟩
           have hs3 : w3.heap[w.heap.size]? = w2.heap[w.heap.size]? := hl3.block_none (Nat.lt_of_lt_of_le hWlt hb2.size) HTN.out
           have p1 : w3.cell? ⟨w.heap.size, 1, none⟩ = some (.string nm) := (World.cell?_of_block (a := ⟨w.heap.size, 1, none⟩) hs3).trans q1
           have p3 : w3.cell? ⟨w.heap.size, 3, none⟩ = some vb := (World.cell?_of_block (a := ⟨w.heap.size, 3, none⟩) hs3).trans q3))
    have HL := Lib.hid (hl3.after (HB.out.drew.trans (hb2.mono HB.out.size)))
    clear hl3
    go_wp2
    go_end0
    exact ⟨rfl, by rw [hg.out]; exact HL.out⟩
  · have e0 : ((IntKind.u64.wrap op).tmod 8 == 0) = false := by rw [hop]; rfl
    have e1 : ((IntKind.u64.wrap op).tmod 8 == 1) = true := by rw [hop]; rfl
    have hg : Hid (gs = appF room fs nm.data.toList bs) := Lib.hid (by rw [hgs.out]; unfold callF; simp only [← hk.out])
    have HCL := Lib.hid (clone_any vb bs W.drew HI.out.rb.drew (by have := HI.out.hb; simp only at this; omega))
    clear hop
    go_enter Try.func30, Try.ntmps30
    go_wp2_with fail
    go_region_held3 (fun w' => w'.cell? ⟨w.heap.size, 1, none⟩ = some (.string nm) ∧ w'.cell? ⟨w.heap.size, 3, none⟩ = some vb)
      (first | go_keep | exact ⟨C1.out, C3.out⟩ | exact ⟨q1, q3⟩ | exact ⟨p1, p3⟩)
      (first
        | (go_at_call 35
           (with_reducible refine HCL.out.mono ?_); rintro e w2 ⟨v1, rfl, ho1, hb2⟩
           have q1 : w2.cell? ⟨w.heap.size, 1, none⟩ = some (.string nm) := (hb2.cell (p := ⟨w.heap.size, 1, none⟩) hWlt).trans C1.out
           have q3 : w2.cell? ⟨w.heap.size, 3, none⟩ = some vb := (hb2.cell (p := ⟨w.heap.size, 3, none⟩) hWlt).trans C3.out
           have HC := Lib.hid (append_made (HH.out.same (w' := w2) hb2.size fun k hk => hb2.block k (HH.out.tags k hk)) nm HI.out.hn v1 bs (ho1.rd.mono (Nat.zero_le _) (Nat.le_refl _)) (by have := HI.out.hb; simp only at this; omega)))
        | (go_at_call 19
           (with_reducible refine HC.out.mono ?_); rintro e w3 ⟨rfl, hl3⟩
           have hs3 : w3.heap[w.heap.size]? = w2.heap[w.heap.size]? := hl3.block_none (Nat.lt_of_lt_of_le hWlt hb2.size) HTN.out
           have p1 : w3.cell? ⟨w.heap.size, 1, none⟩ = some (.string nm) := (World.cell?_of_block (a := ⟨w.heap.size, 1, none⟩) hs3).trans q1
           have p3 : w3.cell? ⟨w.heap.size, 3, none⟩ = some vb := (World.cell?_of_block (a := ⟨w.heap.size, 3, none⟩) hs3).trans q3))
    have HL := Lib.hid (hl3.after (HB.out.drew.trans (hb2.mono HB.out.size)))
    clear hl3
    go_wp2
    go_end0
    exact ⟨rfl, by rw [hg.out]; exact HL.out⟩
  · have e0 : ((IntKind.u64.wrap op).tmod 8 == 0) = false := by rw [hop]; rfl
    have e1 : ((IntKind.u64.wrap op).tmod 8 == 1) = false := by rw [hop]; rfl
    have e2 : ((IntKind.u64.wrap op).tmod 8 == 2) = true := by rw [hop]; rfl
    have hg : Hid (gs = appF room fs nm.data.toList bs) := Lib.hid (by rw [hgs.out]; unfold callF; simp only [← hk.out])
    have HCL := Lib.hid (clone_any vb bs W.drew HI.out.rb.drew (by have := HI.out.hb; simp only at this; omega))
    clear hop
    go_enter Try.func30, Try.ntmps30
    go_wp2_with fail
    go_region_held3 (fun w' => w'.cell? ⟨w.heap.size, 1, none⟩ = some (.string nm) ∧ w'.cell? ⟨w.heap.size, 3, none⟩ = some vb)
      (first | go_keep | exact ⟨C1.out, C3.out⟩ | exact ⟨q1, q3⟩ | exact ⟨p1, p3⟩)
      (first
        | (go_at_call 35
           (with_reducible refine HCL.out.mono ?_); rintro e w2 ⟨v1, rfl, ho1, hb2⟩
           have q1 : w2.cell? ⟨w.heap.size, 1, none⟩ = some (.string nm) := (hb2.cell (p := ⟨w.heap.size, 1, none⟩) hWlt).trans C1.out
           have q3 : w2.cell? ⟨w.heap.size, 3, none⟩ = some vb := (hb2.cell (p := ⟨w.heap.size, 3, none⟩) hWlt).trans C3.out
           have HC := Lib.hid (append_made (HH.out.same (w' := w2) hb2.size fun k hk => hb2.block k (HH.out.tags k hk)) nm HI.out.hn v1 bs (ho1.rd.mono (Nat.zero_le _) (Nat.le_refl _)) (by have := HI.out.hb; simp only at this; omega)))
        | (go_at_call 19
           (with_reducible refine HC.out.mono ?_); rintro e w3 ⟨rfl, hl3⟩
           have hs3 : w3.heap[w.heap.size]? = w2.heap[w.heap.size]? := hl3.block_none (Nat.lt_of_lt_of_le hWlt hb2.size) HTN.out
           have p1 : w3.cell? ⟨w.heap.size, 1, none⟩ = some (.string nm) := (World.cell?_of_block (a := ⟨w.heap.size, 1, none⟩) hs3).trans q1
           have p3 : w3.cell? ⟨w.heap.size, 3, none⟩ = some vb := (World.cell?_of_block (a := ⟨w.heap.size, 3, none⟩) hs3).trans q3))
    have HL := Lib.hid (hl3.after (HB.out.drew.trans (hb2.mono HB.out.size)))
    clear hl3
    go_wp2
    go_end0
    exact ⟨rfl, by rw [hg.out]; exact HL.out⟩
  · have e0 : ((IntKind.u64.wrap op).tmod 8 == 0) = false := by rw [hop]; rfl
    have e1 : ((IntKind.u64.wrap op).tmod 8 == 1) = false := by rw [hop]; rfl
    have e2 : ((IntKind.u64.wrap op).tmod 8 == 2) = false := by rw [hop]; rfl
    have e3 : ((IntKind.u64.wrap op).tmod 8 == 3) = true := by rw [hop]; rfl
    have hg : Hid (gs = syncF fs nm.data.toList) := Lib.hid (by rw [hgs.out]; unfold callF; simp only [← hk.out])
    have HC := Lib.hid (sync_made HH.out nm HI.out.hn)
    clear hop
    go_enter Try.func30, Try.ntmps30
    go_wp2_with fail
    (with_reducible refine HC.out.mono ?_); rintro e w3 ⟨rfl, hl3⟩
    have HL := Lib.hid (hl3.after HB.out)
    clear hl3
    go_wp2
    go_end0
    exact ⟨rfl, by rw [hg.out]; exact HL.out⟩
  · have e0 : ((IntKind.u64.wrap op).tmod 8 == 0) = false := by rw [hop]; rfl
    have e1 : ((IntKind.u64.wrap op).tmod 8 == 1) = false := by rw [hop]; rfl
    have e2 : ((IntKind.u64.wrap op).tmod 8 == 2) = false := by rw [hop]; rfl
    have e3 : ((IntKind.u64.wrap op).tmod 8 == 3) = false := by rw [hop]; rfl
    have e4 : ((IntKind.u64.wrap op).tmod 8 == 4) = true := by rw [hop]; rfl
    have hg : Hid (gs = renF fs nm.data.toList ot.data.toList) := Lib.hid (by rw [hgs.out]; unfold callF; simp only [← hk.out])
    have HC := Lib.hid (rename_made HH.out nm ot HI.out.hn HI.out.ho)
    clear hop
    go_enter Try.func30, Try.ntmps30
    go_wp2_with fail
    (with_reducible refine HC.out.mono ?_); rintro e w3 ⟨rfl, hl3⟩
    have HL := Lib.hid (hl3.after HB.out)
    clear hl3
    go_wp2
    go_end0
    exact ⟨rfl, by rw [hg.out]; exact HL.out⟩
  · have e0 : ((IntKind.u64.wrap op).tmod 8 == 0) = false := by rw [hop]; rfl
    have e1 : ((IntKind.u64.wrap op).tmod 8 == 1) = false := by rw [hop]; rfl
    have e2 : ((IntKind.u64.wrap op).tmod 8 == 2) = false := by rw [hop]; rfl
    have e3 : ((IntKind.u64.wrap op).tmod 8 == 3) = false := by rw [hop]; rfl
    have e4 : ((IntKind.u64.wrap op).tmod 8 == 4) = false := by rw [hop]; rfl
    have e5 : ((IntKind.u64.wrap op).tmod 8 == 5) = true := by rw [hop]; rfl
    have hg : Hid (gs = remF fs nm.data.toList) := Lib.hid (by rw [hgs.out]; unfold callF; simp only [← hk.out])
    have HC := Lib.hid (remove_made HH.out nm HI.out.hn)
    clear hop
    go_enter Try.func30, Try.ntmps30
    go_wp2_with fail
    (with_reducible refine HC.out.mono ?_); rintro e w3 ⟨rfl, hl3⟩
    have HL := Lib.hid (hl3.after HB.out)
    clear hl3
    go_wp2
    go_end0
    exact ⟨rfl, by rw [hg.out]; exact HL.out⟩
  · have e0 : ((IntKind.u64.wrap op).tmod 8 == 0) = false := by rw [hop]; rfl
    have e1 : ((IntKind.u64.wrap op).tmod 8 == 1) = false := by rw [hop]; rfl
    have e2 : ((IntKind.u64.wrap op).tmod 8 == 2) = false := by rw [hop]; rfl
    have e3 : ((IntKind.u64.wrap op).tmod 8 == 3) = false := by rw [hop]; rfl
    have e4 : ((IntKind.u64.wrap op).tmod 8 == 4) = false := by rw [hop]; rfl
    have e5 : ((IntKind.u64.wrap op).tmod 8 == 5) = false := by rw [hop]; rfl
    have e6 : ((IntKind.u64.wrap op).tmod 8 == 6) = true := by rw [hop]; rfl
    have hg : Hid (gs = crashFs fs ts) := Lib.hid (by rw [hgs.out]; unfold callF; simp only [← hk.out])
    have HT := Lib.hid (tears_any vt ts W HI.out.rt (by have := HI.out.ht; simp only at this; omega) (fun t ht => by have := HI.out.hj t ht; omega))
    clear hop
    go_enter Try.func30, Try.ntmps30
    go_wp2_with fail
    (with_reducible refine HT.out.mono ?_); rintro e w2 ⟨v1, vs, rfl, hb2, hown2, hj2⟩
    have HC := Lib.hid (crash_made (HH.out.same hb2.size fun k hk => hb2.block k (HH.out.tags k hk)) W.heap.size HH.out.tags v1 ts (tears_rd hown2 hj2) HI.out.ht HI.out.hs HI.out.hk)
    have HB2 := Lib.hid (HB.out.trans (hb2.mono HB.out.size))
    clear hown2 hj2 hb2
    go_wp2_with fail
    (with_reducible refine HC.out.mono ?_); rintro e w3 ⟨rfl, hl3⟩
    have HL := Lib.hid (hl3.after HB2.out)
    clear hl3
    go_wp2
    go_end0
    exact ⟨rfl, by rw [hg.out]; exact HL.out⟩
  · have e0 : ((IntKind.u64.wrap op).tmod 8 == 0) = false := by rw [hop]; rfl
    have e1 : ((IntKind.u64.wrap op).tmod 8 == 1) = false := by rw [hop]; rfl
    have e2 : ((IntKind.u64.wrap op).tmod 8 == 2) = false := by rw [hop]; rfl
    have e3 : ((IntKind.u64.wrap op).tmod 8 == 3) = false := by rw [hop]; rfl
    have e4 : ((IntKind.u64.wrap op).tmod 8 == 4) = false := by rw [hop]; rfl
    have e5 : ((IntKind.u64.wrap op).tmod 8 == 5) = false := by rw [hop]; rfl
    have e6 : ((IntKind.u64.wrap op).tmod 8 == 6) = false := by rw [hop]; rfl
    have hg : Hid (gs = []) := Lib.hid (by rw [hgs.out]; unfold callF; simp only [← hk.out])
    have HC := Lib.hid (wipe_made HH.out)
    clear hop
    go_enter Try.func30, Try.ntmps30
    go_wp2_with fail
    (with_reducible refine HC.out.mono ?_); rintro e w3 ⟨rfl, hl3⟩
    have HL := Lib.hid (hl3.after HB.out)
    clear hl3
    go_wp2
    go_end0
    exact ⟨rfl, by rw [hg.out]; exact HL.out⟩
end
end Go.Proofs.Ytaignkjcogmcjaa
