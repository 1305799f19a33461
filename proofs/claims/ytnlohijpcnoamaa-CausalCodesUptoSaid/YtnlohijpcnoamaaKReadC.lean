/- causal.read: a context read by a source. -/
import Derived.Test.YtnlohijpcnoamaaKBackM2
import Derived.Test.YtnlohijpcnoamaaKBox
import Derived.Deep.RegionHeld3
import Derived.Deep.AppendLies
namespace Go.Proofs.Ytnlohijpcnoamaa
open Go.RowKit Go.Sort Go.BigFrame
open Go.Lib (byteCells byteCells_length)

theorem step_append_one {T ST : TypeId} (ht : Try.prog.underlying ST = some (.slice T)) (hT : (Try.prog.info? T).map (fun i => (i.zero, i.size, i.bytes)) = some (some (.agg #[.int .i64 0, .int .i64 0, .int .i64 0]), 3, 24))
    {ops : Array Oper} {o : Oper} {a : Act} {K : Act → World → Prop} {Q : Exit → Act → World → Prop} {E : Prop} (w : World) (hgd : o.guard = none) (s x : Operand)
    (ho : o.op = .call { callee := .builtin .append, args := #[s, x], argTypes := #[ST, ST] }) {base hi : Nat} {v : Value} {xs ys : List DotA} {A : Option Addr} {m c : Nat} (hs : a.eval s = v) (hx : a.eval x = .slice A m c)
    (hown : OwnD T w base v xs) (hr : RdDA w hi A ys) (hm : m = ys.length) (hl : xs.length + ys.length ≤ 1099511627776) (hbase : base ≤ w.heap.size)
    (h : ∀ A1 n1 c1 w', OwnD T w' base (.slice A1 n1 c1) (xs ++ ys) → w.grownBy w' (_root_.Go.Value.ownBlock v) → (_root_.Go.Value.ownBlock (.slice A1 n1 c1) = _root_.Go.Value.ownBlock v ∨ _root_.Go.Value.ownBlock (.slice A1 n1 c1) = some w.heap.size) → K (a.put o.dst (.slice A1 n1 c1)) w') :
    if Region.wanted o (yielded ops a.tmps) = true then Oper.wp Try.prog o a w K Q else E := by
  have hw : Region.wanted o (yielded ops a.tmps) = true := by simp [Region.wanted, hgd]
  rw [if_pos hw]
  subst hm
  obtain ⟨v', w', hrun, h2, h3, h4⟩ := run_append_dots ht hT w o.type hown (c := c) hr hl hbase
  obtain ⟨A', c', rfl, _, _⟩ := h2.rd
  unfold Oper.wp execOp
  simp only [ho, resolve, invoke, builtin, Sem.run_bind, Sem.run_pure, Result.andThen_ok, List.map_toArray, List.map_cons, List.map_nil, hs, hx, hrun]
  exact h A' _ c' w' h2 h3 h4

theorem OwnD.stay {T : TypeId} {w w' : World} {base : Nat} {v : Value} {ds : List DotA} (h : OwnD T w base v ds) (hk : ∀ b, base ≤ b → b < w.heap.size → w'.heap[b]? = w.heap[b]?) : OwnD T w' base v ds := by
  have hl := World.ownsRow.lt h
  refine ⟨h.1, ?_⟩
  rcases h.2 with hn | ⟨b, cap, cur, e, hb, hg', r⟩
  · exact .inl hn
  · subst e
    exact .inr ⟨b, cap, cur, rfl, hb, (hk b hb (hl b rfl).2).trans hg', r⟩
theorem OwnD.stay1 {T : TypeId} {w w' : World} {base : Nat} {v : Value} {ds : List DotA} (h : OwnD T w base v ds) (hk : ∀ b, _root_.Go.Value.ownBlock v = some b → w'.heap[b]? = w.heap[b]?) : OwnD T w' base v ds := by
  refine ⟨h.1, ?_⟩
  rcases h.2 with hn | ⟨b, cap, cur, e, hb, hg', r⟩
  · exact .inl hn
  · subst e
    exact .inr ⟨b, cap, cur, rfl, hb, (hk b rfl).trans hg', r⟩
theorem Kept.grown {g s : Nat} {a b c : World} {row : Option Nat} (h : Kept g s a b) (hg : b.grownBy c row) (hr : ∀ k, row = some k → a.heap.size ≤ k) : Kept g s a c :=
  ⟨hg.os.trans h.os, hg.tape.trans h.tape, hg.output.trans h.output, Nat.le_trans h.size hg.size, fun k hk h1 h2 => (hg.block k (Nat.lt_of_lt_of_le hk h.size) (fun e => by have := hr k e.symm; omega)).trans (h.block k hk h1 h2)⟩
theorem Kept.drew {g s : Nat} {a b : World} (h : Kept g s a b) : Kept g s a b.drew := ⟨h.os, h.tape, h.output, h.size, h.block⟩
theorem Src.grown {w w' : World} {s g : Nat} {A : Option Addr} {c : Nat} {bs : List UInt8} {hi p : Nat} {y : Int} {row : Option Nat} (h : Src w s g A c bs hi p y) (hg : w.grownBy w' row) (hr : ∀ k, row = some k → s < k) : Src w' s g A c bs hi p y := by
  have := h.lt
  have := h.hs
  have := h.hg
  have hne : ∀ b, b ≤ s → w'.heap[b]? = w.heap[b]? := fun b hb => hg.block b (by omega) (fun e => by have := hr b e.symm; omega)
  exact ⟨(hne s (Nat.le_refl _)).trans h.row, h.rdr.keep (hne g (by omega)), h.rd.keep (fun q _ hq => World.cell?_of_block (hne q.block (by omega))), h.hg, h.hs⟩
theorem rdda_one (w : World) (g : Nat) (d : DotA) (h : BoxD w g d) (hg : g < w.heap.size) : RdDA w w.heap.size (some ⟨g, 0, none⟩) [d] := by
  obtain ⟨A, c, e, _, hx⟩ := rd_oneK w g d h hg
  injection e with e1 e2 e3
  subst e1
  exact hx

def ReadPost2 (s g : Nat) (A : Option Addr) (c : Nat) (bs : List UInt8) (hi : Nat) (r : List DotA × List DotA × Nat × Int) (w : World) (e : Ending) (w' : World) : Prop :=
  ∃ (A1 A2 : Option Addr) (n1 n2 c1 c2 : Nat), e = .returned (.tuple #[.agg #[.slice A1 n1 c1, .slice A2 n2 c2], .int .i64 r.2.2.2]) ∧ OwnD 53 w' w.heap.size (.slice A1 n1 c1) r.1 ∧ OwnD 55 w' w.heap.size (.slice A2 n2 c2) r.2.1 ∧ Src w' s g A c bs hi r.2.2.1 r.2.2.2 ∧ Kept g s w w'

set_option maxRecDepth 100000 in
set_option maxHeartbeats 6400000 in
theorem read_any (w : World) (s g : Nat) (A : Option Addr) (c : Nat) (bs : List UInt8) (hi p : Nat) (y : Int) (h : Src w s g A c bs hi p y) :
    Calls Try.prog 32 #[.pointer (some ⟨s, 0, none⟩)] w (ReadPost2 s g A c bs hi (readS bs p y) w) := by
  obtain ⟨W, hW⟩ : ∃ W, Hid (W = (w.alloc (.cells #[.slice none 0 0, .slice none 0 0] 25)).alloc (.cells #[.slice none 0 0, .slice none 0 0] 25)) := ⟨_, Lib.hid rfl⟩
  have hlt := h.lt
  have hgs := h.hs
  have h0 : Src W s g A c bs hi p y := by rw [hW.out]; exact (h.made _).made _
  have hk0 : Kept g s w W := by rw [hW.out]; exact ((Kept.refl g s w).made _).made _
  have hz : W.heap.size = w.heap.size + 2 := by rw [hW.out]; simp
  have row0 : W.heap[w.heap.size]? = some (.cells #[.slice none 0 0, .slice none 0 0] 25 (0, 0)) := by
    rw [hW.out]; exact (Below.heap_alloc _ _ _ (by simp)).trans (heap_alloc_new w _)
  have row1 : W.heap[w.heap.size + 1]? = some (.cells #[.slice none 0 0, .slice none 0 0] 25 (0, 0)) := by
    rw [hW.out]
    have := heap_alloc_new (w.alloc (.cells #[.slice none 0 0, .slice none 0 0] 25)) (.cells #[.slice none 0 0, .slice none 0 0] 25)
    simpa using this
  have HK0 := Lib.hid hk0
  have HROW0 := Lib.hid row0
  have HROW1 := Lib.hid row1
  have HL := Lib.hid (length_src W s g A c bs hi p y 64 h0)
  obtain ⟨m, hm⟩ : ∃ m, Hid (m = lenS bs 64 p y) := ⟨_, Lib.hid rfl⟩
  rw [← hm.out] at HL
  have hm1 : m.1 ≤ 64 := by
    rw [hm.out]; unfold lenS; split <;> (try simp) <;> omega
  have hWe := hW.out.symm
  clear h h0 hk0 row0 row1
  go_enter Try.func32, Try.ntmps32
  go_wp2_with fail
  clear hWe
  (with_reducible refine HL.out.mono ?_); rintro e w1 ⟨rfl, h1, k1⟩
  have HS1 := Lib.hid h1
  have HK1 := Lib.hid (HK0.out.trans k1)
  have hz1 : w.heap.size + 2 ≤ w1.heap.size := by have := k1.size; omega
  have HR01 : Hid (w1.heap[w.heap.size]? = some (.cells #[.slice none 0 0, .slice none 0 0] 25 (0, 0))) := Lib.hid ((k1.block _ (by omega) (by omega) (by omega)).trans HROW0.out)
  have r1 : w1.heap[w.heap.size + 1]? = some (.cells #[.slice none 0 0, .slice none 0 0] 25 (0, 0)) := (k1.block _ (by omega) (by omega) (by omega)).trans HROW1.out
  have HR1 := Lib.hid r1
  clear h1 k1 r1
  obtain ⟨n, hn⟩ : ∃ n : Nat, n = m.1.toNat := ⟨_, rfl⟩
  go_wp2
  go_loopw [7] (fun i wr => ∃ (k : Nat) (A1 : Option Addr) (n1 c1 : Nat), (k ≤ n ∧ i = .int .i64 k) ∧ Hid (wr.heap[w.heap.size]? = some (.cells #[.slice none 0 0, .slice none 0 0] 25 (0, 0))) ∧ Hid (wr.heap[w.heap.size + 1]? = some (.cells #[.slice A1 n1 c1, .slice none 0 0] 25 (0, 0))) ∧ Hid (OwnD 53 wr W.heap.size (.slice A1 n1 c1) (dotsS bs k m.2.1 m.2.2).1) ∧ Hid (Src wr s g A c bs hi (dotsS bs k m.2.1 m.2.2).2.1 (dotsS bs k m.2.1 m.2.2).2.2) ∧ Hid (Kept g s w wr) ∧ w.heap.size + 2 ≤ wr.heap.size) (fun i _ => n - (intOf i).toNat)
  case atStart => exact ⟨0, none, 0, 0, ⟨Nat.zero_le _, rfl⟩, HR01, HR1, Lib.hid (ownD_nil _ _ _), HS1, HK1, hz1⟩
  case round =>
    obtain ⟨k, A1, n1, c1, ⟨hk, rfl⟩, HR0, HR, HO, HS, HK, hsz⟩ := hrel
    by_cases hlt2 : k < n
    · have hmk : ((k : Int) < m.1) := by omega
      obtain ⟨q, hq⟩ : ∃ q, Hid (q = dotsS bs k m.2.1 m.2.2) := ⟨_, Lib.hid rfl⟩
      rw [← hq.out] at HO HS
      have HD := Lib.hid (fun (w' : World) (hb : Below wr.heap.size wr w') => dot_src w' s g A c bs hi q.2.1 q.2.2 (HS.out.kept hb))
      obtain ⟨d, hd⟩ : ∃ d, Hid (d = dotS bs q.2.1 q.2.2) := ⟨_, Lib.hid rfl⟩
      rw [← hd.out] at HD
      have HN : Hid (dotsS bs (k + 1) m.2.1 m.2.2 = (q.1 ++ [d.1], d.2.1, d.2.2)) := Lib.hid (by rw [hd.out, hq.out]; rfl)
      have hql : q.1.length = k := by rw [hq.out, dotsS_length]
      have c0 : wr.cell? ⟨w.heap.size + 1, 0, none⟩ = some (.slice A1 n1 c1) := cell_of_row wr _ 0 _ _ (0, 0) HR.out
      have f0 : wr.frozen? ⟨w.heap.size + 1, 0, none⟩ = false := frozen_of_row wr _ 0 _ _ HR.out
      have c0d : wr.drew.cell? ⟨w.heap.size + 1, 0, none⟩ = some (.slice A1 n1 c1) := c0
      go_wp2_with fail
      go_region_law
        (first
          | (go_simp; go_at_call 51
             refine Calls.mono (HD.out _ ?_) ?_
             · (repeat' (first | assumption | exact Below.refl _ _ | refine below_alloc ?_ | refine below_drew ?_))
             rintro e w4 ⟨rfl, hs4, hk4⟩
             have hrow4 : w4.heap[w.heap.size + 1]? = some (.cells #[.slice A1 n1 c1, .slice none 0 0] 25 (0, 0)) := (hk4.block _ (by first | exact hsz | (simp; omega)) (by omega) (by omega)).trans HR.out
             have hcell4 : w4.cell? ⟨w.heap.size + 1, 0, none⟩ = some (.slice A1 n1 c1) := cell_of_row w4 _ 0 _ _ (0, 0) hrow4
             have hcell4a : (w4.alloc (.cells #[.int .i64 d.1.1, .int .i64 d.1.2.1, .int .i64 d.1.2.2] 53)).cell? ⟨w.heap.size + 1, 0, none⟩ = some (.slice A1 n1 c1) := cell_up _ hcell4
             have hrow04 : w4.heap[w.heap.size]? = some (.cells #[.slice none 0 0, .slice none 0 0] 25 (0, 0)) := (hk4.block _ (by first | exact Nat.lt_of_succ_lt hsz | (simp; omega)) (by omega) (by omega)).trans HR0.out
             have ho4 : OwnD 53 w4 W.heap.size (.slice A1 n1 c1) q.1 := HO.out.stay (fun b h1 h2 => hk4.block b h2 (by omega) (by omega))
             have hkk4 : Kept g s w w4 := by first | exact HK.out.trans hk4 | exact HK.out.drew.trans hk4 | exact HK.out.drew.drew.trans hk4
             have hz4 : w.heap.size + 2 ≤ w4.heap.size := Nat.le_trans hsz hk4.size
             have HS4 := Lib.hid hs4
             have HKK4 := Lib.hid hkk4
             have HO4 := Lib.hid ho4
             have HR4 := Lib.hid hrow4
             have HR04 := Lib.hid hrow04
             clear hs4 hk4 hrow4 hrow04 ho4 hkk4)
          | (refine step_append_one Try.underlying22 infoMark _ (by rfl) (.tmp 10) (.tmp 13) (by rfl) (by rfl) (by rfl) (HO4.out.below ?_) (rdda_one _ w4.heap.size d.1 ⟨?_, ?_, ?_⟩ ?_) rfl ?_ ?_ ?_
             · (repeat' (first | assumption | exact Below.refl _ _ | refine below_alloc ?_ | refine below_drew ?_))
             · (first | (refine box_at _ _ _ 0 ?_; (first | rfl | (simp; done))) | (refine cell_up _ ?_; refine box_at _ _ _ 0 ?_; (first | rfl | (simp; done))))
             · (first | (refine box_at _ _ _ 1 ?_; (first | rfl | (simp; done))) | (refine cell_up _ ?_; refine box_at _ _ _ 1 ?_; (first | rfl | (simp; done))))
             · (first | (refine box_at _ _ _ 2 ?_; (first | rfl | (simp; done))) | (refine cell_up _ ?_; refine box_at _ _ _ 2 ?_; (first | rfl | (simp; done))))
             · simp
             · simp; omega
             · simp; omega
             intro A5 n5 c5 w5 ho5 hg5 ht5
             have hne5 : ∀ b, b < w.heap.size + 2 → w5.heap[b]? = w4.heap[b]? := fun b hb => (hg5.block b (by simp; omega) (fun e => by have := (World.ownsRow.lt HO4.out b e.symm).1; omega)).trans (by first | rfl | exact Below.heap_alloc _ _ _ (by omega))
             have hrow5 := (hne5 (w.heap.size + 1) (by omega)).trans HR4.out
             have hrow05 := (hne5 w.heap.size (by omega)).trans HR04.out
             have hcell5 := cell_of_row w5 _ 0 _ _ (0, 0) hrow5
             have hfr5 := frozen_of_row w5 _ 0 _ _ hrow5
             have HS5 := Lib.hid ((HS4.out.made _).grown hg5 (fun k e => by have := (World.ownsRow.lt HO4.out k e).1; omega))
             have HKK5 := Lib.hid ((HKK4.out.made _).grown hg5 (fun k e => by have := (World.ownsRow.lt HO4.out k e).1; omega))
             have HO5 := Lib.hid ho5
             have HR5 := Lib.hid hrow5
             have HR05 := Lib.hid hrow05
             have hz5 : w.heap.size + 2 ≤ w5.heap.size := by have := hg5.size; simp at this; omega
             clear ho5 hg5 ht5 hne5 hrow5 hrow05)
          | fail)
      all_goals
        go_wp2
        go_roundw
        case rel => exact ⟨k + 1, A5, n5, c5, ⟨by omega, by go_num⟩, Lib.hid ((Below.heap_setCell _ _ _ _ (by show w.heap.size ≠ w.heap.size + 1; omega)).trans HR05.out), Lib.hid (Joins.block_setCell HR5.out (i := 0) (.slice A5 n5 c5)), Lib.hid (by rw [HN.out]; exact HO5.out.stay (fun b h1 h2 => Below.heap_setCell _ _ _ _ (by show b ≠ w.heap.size + 1; omega))), Lib.hid (by rw [HN.out]; exact HS5.out.put (by omega)), Lib.hid (HKK5.out.put (.inl (by omega))), by simpa [World.setCell] using hz5⟩
        case measure => simp [intOf]; omega
    · have hkn : k = n := by omega
      obtain ⟨q, hq⟩ : ∃ q, Hid (q = dotsS bs k m.2.1 m.2.2) := ⟨_, Lib.hid rfl⟩
      rw [← hq.out] at HO HS
      have HL2 := Lib.hid (length_src wr s g A c bs hi q.2.1 q.2.2 64 HS.out)
      obtain ⟨m2, hm2⟩ : ∃ m2, Hid (m2 = lenS bs 64 q.2.1 q.2.2) := ⟨_, Lib.hid rfl⟩
      rw [← hm2.out] at HL2
      have hm21 : m2.1 ≤ 64 := by
        rw [hm2.out]; unfold lenS; split <;> (try simp) <;> omega
      have hmk : ¬ ((k : Int) < m.1) := by omega
      go_wp2_with fail
      (with_reducible refine HL2.out.mono ?_); rintro e w2 ⟨rfl, h2, k2⟩
      have hlw0 : w.heap.size < wr.heap.size := by omega
      have HS2 := Lib.hid h2
      have HK2 := Lib.hid (HK.out.trans k2)
      have hz2 : w.heap.size + 2 ≤ w2.heap.size := by have := k2.size; omega
      have HR02 : Hid (w2.heap[w.heap.size]? = some (.cells #[.slice none 0 0, .slice none 0 0] 25 (0, 0))) := Lib.hid ((k2.block _ (by omega) (by omega) (by omega)).trans HR0.out)
      have HR2 : Hid (w2.heap[w.heap.size + 1]? = some (.cells #[.slice A1 n1 c1, .slice none 0 0] 25 (0, 0))) := Lib.hid ((k2.block _ (by omega) (by omega) (by omega)).trans HR.out)
      have HO2 : Hid (OwnD 53 w2 W.heap.size (.slice A1 n1 c1) q.1) := Lib.hid (HO.out.stay (fun b h1 h2 => k2.block b h2 (by omega) (by omega)))
      have HRES : Hid (∀ j, readS bs p y = (q.1, (dotsS bs m2.1.toNat m2.2.1 m2.2.2).1, (dotsS bs m2.1.toNat m2.2.1 m2.2.2).2.1, (dotsS bs m2.1.toNat m2.2.1 m2.2.2).2.2) ∨ j = 0) := Lib.hid (fun _ => .inl (by rw [hm2.out, hq.out, hkn, hn, hm.out]; rfl))
      clear h2 k2 HR HR0 HO HS HK hkn hmk hlt2
      obtain ⟨n2, hn2⟩ : ∃ n2 : Nat, n2 = m2.1.toNat := ⟨_, rfl⟩
      go_wp2
      obtain ⟨wa, hwa⟩ : ∃ wa : World, wa = w2 := ⟨_, rfl⟩
      subst hwa
      go_loopw [19] (fun i wr => ∃ (k : Nat) (A2 : Option Addr) (nn cc : Nat), (k ≤ n2 ∧ i = .int .i64 k) ∧ Hid (wr.heap[w.heap.size]? = some (.cells #[.slice none 0 0, .slice none 0 0] 25 (0, 0))) ∧ Hid (wr.heap[w.heap.size + 1]? = some (.cells #[.slice A1 n1 c1, .slice A2 nn cc] 25 (0, 0))) ∧ Hid (OwnD 53 wr W.heap.size (.slice A1 n1 c1) q.1) ∧ Hid (OwnD 55 wr W.heap.size (.slice A2 nn cc) (dotsS bs k m2.2.1 m2.2.2).1) ∧ Hid (∀ b, _root_.Go.Value.ownBlock (.slice A1 n1 c1) = some b → _root_.Go.Value.ownBlock (.slice A2 nn cc) ≠ some b) ∧ Hid (Src wr s g A c bs hi (dotsS bs k m2.2.1 m2.2.2).2.1 (dotsS bs k m2.2.1 m2.2.2).2.2) ∧ Hid (Kept g s w wr) ∧ w.heap.size + 2 ≤ wr.heap.size) (fun i _ => n2 - (intOf i).toNat)
      case atStart => exact ⟨0, none, 0, 0, ⟨Nat.zero_le _, rfl⟩, HR02, HR2, HO2, Lib.hid (ownD_nil _ _ _), Lib.hid (fun b _ e => by cases e), HS2, HK2, hz2⟩
      case round =>
        obtain ⟨k, A2, nn, cc, ⟨hk, rfl⟩, HR0, HR, HOM, HO, HAP, HS, HK, hsz⟩ := hrel
        by_cases hlt2 : k < n2
        · have hmk : ((k : Int) < m2.1) := by omega
          obtain ⟨q2, hq2⟩ : ∃ q2, Hid (q2 = dotsS bs k m2.2.1 m2.2.2) := ⟨_, Lib.hid rfl⟩
          rw [← hq2.out] at HO HS
          have HD := Lib.hid (fun (w' : World) (hb : Below wr.heap.size wr w') => dot_src w' s g A c bs hi q2.2.1 q2.2.2 (HS.out.kept hb))
          obtain ⟨d, hd⟩ : ∃ d, Hid (d = dotS bs q2.2.1 q2.2.2) := ⟨_, Lib.hid rfl⟩
          rw [← hd.out] at HD
          have HN : Hid (dotsS bs (k + 1) m2.2.1 m2.2.2 = (q2.1 ++ [d.1], d.2.1, d.2.2)) := Lib.hid (by rw [hd.out, hq2.out]; rfl)
          have hql : q2.1.length = k := by rw [hq2.out, dotsS_length]
          have c0 : wr.cell? ⟨w.heap.size + 1, 1, none⟩ = some (.slice A2 nn cc) := cell_of_row wr _ 1 _ _ (0, 0) HR.out
          have f0 : wr.frozen? ⟨w.heap.size + 1, 1, none⟩ = false := frozen_of_row wr _ 1 _ _ HR.out
          have c0d : wr.drew.cell? ⟨w.heap.size + 1, 1, none⟩ = some (.slice A2 nn cc) := c0
          go_wp2_with fail
          go_region_law
            (first
              | (go_simp; go_at_call 51
                 refine Calls.mono (HD.out _ ?_) ?_
                 · (repeat' (first | assumption | exact Below.refl _ _ | refine below_alloc ?_ | refine below_drew ?_))
                 rintro e w4 ⟨rfl, hs4, hk4⟩
                 have hrow4 : w4.heap[w.heap.size + 1]? = some (.cells #[.slice A1 n1 c1, .slice A2 nn cc] 25 (0, 0)) := (hk4.block _ (by first | exact hsz | (simp; omega)) (by omega) (by omega)).trans HR.out
                 have hcell4 : w4.cell? ⟨w.heap.size + 1, 1, none⟩ = some (.slice A2 nn cc) := cell_of_row w4 _ 1 _ _ (0, 0) hrow4
                 have hcell4a : (w4.alloc (.cells #[.int .i64 d.1.1, .int .i64 d.1.2.1, .int .i64 d.1.2.2] 55)).cell? ⟨w.heap.size + 1, 1, none⟩ = some (.slice A2 nn cc) := cell_up _ hcell4
                 have hrow04 : w4.heap[w.heap.size]? = some (.cells #[.slice none 0 0, .slice none 0 0] 25 (0, 0)) := (hk4.block _ (by first | exact Nat.lt_of_succ_lt hsz | (simp; omega)) (by omega) (by omega)).trans HR0.out
                 have ho4 : OwnD 55 w4 W.heap.size (.slice A2 nn cc) q2.1 := HO.out.stay (fun b h1 h2 => hk4.block b h2 (by omega) (by omega))
                 have hom4 : OwnD 53 w4 W.heap.size (.slice A1 n1 c1) q.1 := HOM.out.stay (fun b h1 h2 => hk4.block b h2 (by omega) (by omega))
                 have hkk4 : Kept g s w w4 := by first | exact HK.out.trans hk4 | exact HK.out.drew.trans hk4 | exact HK.out.drew.drew.trans hk4
                 have hz4 : w.heap.size + 2 ≤ w4.heap.size := Nat.le_trans hsz hk4.size
                 have HS4 := Lib.hid hs4
                 have HKK4 := Lib.hid hkk4
                 have HO4 := Lib.hid ho4
                 have HOM4 := Lib.hid hom4
                 have HR4 := Lib.hid hrow4
                 have HR04 := Lib.hid hrow04
                 clear hs4 hk4 hrow4 hrow04 ho4 hom4 hkk4)
              | (refine step_append_one Try.underlying23 infoDot _ (by rfl) (.tmp 22) (.tmp 25) (by rfl) (by rfl) (by rfl) (HO4.out.below ?_) (rdda_one _ w4.heap.size d.1 ⟨?_, ?_, ?_⟩ ?_) rfl ?_ ?_ ?_
                 · (repeat' (first | assumption | exact Below.refl _ _ | refine below_alloc ?_ | refine below_drew ?_))
                 · (first | (refine box_at _ _ _ 0 ?_; (first | rfl | (simp; done))) | (refine cell_up _ ?_; refine box_at _ _ _ 0 ?_; (first | rfl | (simp; done))))
                 · (first | (refine box_at _ _ _ 1 ?_; (first | rfl | (simp; done))) | (refine cell_up _ ?_; refine box_at _ _ _ 1 ?_; (first | rfl | (simp; done))))
                 · (first | (refine box_at _ _ _ 2 ?_; (first | rfl | (simp; done))) | (refine cell_up _ ?_; refine box_at _ _ _ 2 ?_; (first | rfl | (simp; done))))
                 · simp
                 · simp; omega
                 · simp; omega
                 intro A5 n5 c5 w5 ho5 hg5 ht5
                 have hne5 : ∀ b, b < w4.heap.size → _root_.Go.Value.ownBlock (.slice A2 nn cc) ≠ some b → w5.heap[b]? = w4.heap[b]? := fun b hb hb2 => (hg5.block b (by simp; omega) (fun e => hb2 e.symm)).trans (by first | rfl | exact Below.heap_alloc _ _ _ (by omega))
                 have hlo : ∀ b, b < w.heap.size + 2 → _root_.Go.Value.ownBlock (.slice A2 nn cc) ≠ some b := fun b hb e => by have := (World.ownsRow.lt HO4.out b e).1; omega
                 have hrow5 := (hne5 (w.heap.size + 1) (by omega) (hlo _ (by omega))).trans HR4.out
                 have hrow05 := (hne5 w.heap.size (by omega) (hlo _ (by omega))).trans HR04.out
                 have hcell5 := cell_of_row w5 _ 1 _ _ (0, 0) hrow5
                 have hfr5 := frozen_of_row w5 _ 1 _ _ hrow5
                 have HS5 := Lib.hid ((HS4.out.made _).grown hg5 (fun k e => by have := (World.ownsRow.lt HO4.out k e).1; omega))
                 have HKK5 := Lib.hid ((HKK4.out.made _).grown hg5 (fun k e => by have := (World.ownsRow.lt HO4.out k e).1; omega))
                 have HO5 := Lib.hid ho5
                 have HOM5 : Hid (OwnD 53 w5 W.heap.size (.slice A1 n1 c1) q.1) := Lib.hid (HOM4.out.stay1 (fun b e => hne5 b (World.ownsRow.lt HOM4.out b e).2 (HAP.out b e)))
                 have HAP5 : Hid (∀ b, _root_.Go.Value.ownBlock (.slice A1 n1 c1) = some b → _root_.Go.Value.ownBlock (.slice A5 n5 c5) ≠ some b) := Lib.hid (fun b e e2 => by
                   rcases ht5 with h | h
                   · exact HAP.out b e (h.symm.trans e2)
                   · have h3 := Option.some.inj (h.symm.trans e2)
                     have h4 := (World.ownsRow.lt HOM4.out b e).2
                     simp at h3
                     omega)
                 have HR5 := Lib.hid hrow5
                 have HR05 := Lib.hid hrow05
                 have hz5 : w.heap.size + 2 ≤ w5.heap.size := by have := hg5.size; simp at this; omega
                 clear ho5 hg5 ht5 hne5 hlo hrow5 hrow05)
              | fail)
          all_goals
            go_wp2
            go_roundw
            case rel => exact ⟨k + 1, A5, n5, c5, ⟨by omega, by go_num⟩, Lib.hid ((Below.heap_setCell _ _ _ _ (by show w.heap.size ≠ w.heap.size + 1; omega)).trans HR05.out), Lib.hid (Joins.block_setCell HR5.out (i := 1) (.slice A5 n5 c5)), Lib.hid (HOM5.out.stay (fun b h1 h2 => Below.heap_setCell _ _ _ _ (by show b ≠ w.heap.size + 1; omega))), Lib.hid (by rw [HN.out]; exact HO5.out.stay (fun b h1 h2 => Below.heap_setCell _ _ _ _ (by show b ≠ w.heap.size + 1; omega))), HAP5, Lib.hid (by rw [HN.out]; exact HS5.out.put (by omega)), Lib.hid (HKK5.out.put (.inl (by omega))), by simpa [World.setCell] using hz5⟩
            case measure => simp [intOf]; omega
        · have hkn : k = n2 := by omega
          obtain ⟨q2, hq2⟩ : ∃ q2, Hid (q2 = dotsS bs k m2.2.1 m2.2.2) := ⟨_, Lib.hid rfl⟩
          rw [← hq2.out] at HO HS
          have HF : Hid (readS bs p y = (q.1, q2.1, q2.2.1, q2.2.2)) := Lib.hid (by
            rcases HRES.out 1 with h | h
            · rw [h, hq2.out, hkn, hn2]
            · cases h)
          rw [HF.out]
          have c0 : wr.cell? ⟨w.heap.size + 1, 0, none⟩ = some (.slice A1 n1 c1) := cell_of_row wr _ 0 _ _ (0, 0) HR.out
          have c1' : wr.cell? ⟨w.heap.size + 1, 1, none⟩ = some (.slice A2 nn cc) := cell_of_row wr _ 1 _ _ (0, 0) HR.out
          have c0d : wr.drew.cell? ⟨w.heap.size + 1, 0, none⟩ = some (.slice A1 n1 c1) := c0
          have c1d : wr.drew.cell? ⟨w.heap.size + 1, 1, none⟩ = some (.slice A2 nn cc) := c1'
          have q0 : wr.cell? ⟨w.heap.size, 0, none⟩ = some (.slice none 0 0) := cell_of_row wr _ 0 _ _ (0, 0) HR0.out
          have q1 : wr.cell? ⟨w.heap.size, 1, none⟩ = some (.slice none 0 0) := cell_of_row wr _ 1 _ _ (0, 0) HR0.out
          have q0d : wr.drew.cell? ⟨w.heap.size, 0, none⟩ = some (.slice none 0 0) := q0
          have q1d : wr.drew.cell? ⟨w.heap.size, 1, none⟩ = some (.slice none 0 0) := q1
          have g0 : wr.frozen? ⟨w.heap.size, 0, none⟩ = false := frozen_of_row wr _ 0 _ _ HR0.out
          have g1 : wr.frozen? ⟨w.heap.size, 1, none⟩ = false := frozen_of_row wr _ 1 _ _ HR0.out
          have f0 : wr.drew.frozen? ⟨w.heap.size, 0, none⟩ = false := frozen_of_row wr _ 0 _ _ HR0.out
          have f1 : wr.drew.frozen? ⟨w.heap.size, 1, none⟩ = false := frozen_of_row wr _ 1 _ _ HR0.out
          have c0s : ∀ u v, ((wr.drew.setCell ⟨w.heap.size, 0, none⟩ u).setCell ⟨w.heap.size, 1, none⟩ v).cell? ⟨w.heap.size + 1, 0, none⟩ = some (.slice A1 n1 c1) := fun u v => cell_set (cell_set c0d (by dsimp only; omega)) (by dsimp only; omega)
          have HWH : Hid (∀ w' : World, Below wr.heap.size wr w' → Calls Try.prog 52 #[.pointer (some ⟨s, 0, none⟩)] w' (fun e w'' => e = .returned (.int .i64 q2.2.2) ∧ w'' = w')) := Lib.hid (fun w' hb => why_src w' s g A c bs hi q2.2.1 q2.2.2 (HS.out.kept hb))
          have hmk : ¬ ((k : Int) < m2.1) := by omega
          have HRf := Lib.hid (Joins.block_setCell (Joins.block_setCell HR0.out (i := 0) (.slice A1 n1 c1)) (i := 1) (.slice A2 nn cc))
          have hlw0 : s < w.heap.size := hlt
          go_wp2_with fail
          go_region_law
            (first
              | (go_simp; go_at_call 52
                 refine Calls.mono (HWH.out _ ?_) ?_
                 · (repeat' (first | assumption | exact Below.refl _ _ | refine below_alloc ?_ | refine below_drew ?_))
                 rintro e w4 ⟨rfl, rfl⟩)
              | fail)
          all_goals
            go_wp2
            have p0 := cell_of_row _ _ 0 _ _ (0, 0) HRf.out
            have p1 := cell_of_row _ _ 1 _ _ (0, 0) HRf.out
            simp at p0 p1
            refine bodyPost_ret (v := .tuple #[.agg #[.slice A1 n1 c1, .slice A2 nn cc], .int .i64 q2.2.2]) (by simp [results, Try.results32, go_sem, p0, p1]) rfl ⟨A1, A2, n1, nn, c1, cc, by rw [HF.out], ?_, ?_, ?_, ?_⟩ <;> (try rw [HF.out])
            · exact (HOM.out.stay (fun b h1 h2 => (Below.heap_setCell _ _ _ _ (by show b ≠ w.heap.size; omega)).trans (Below.heap_setCell _ _ _ _ (by show b ≠ w.heap.size; omega)))).base_le (by omega)
            · exact (HO.out.stay (fun b h1 h2 => (Below.heap_setCell _ _ _ _ (by show b ≠ w.heap.size; omega)).trans (Below.heap_setCell _ _ _ _ (by show b ≠ w.heap.size; omega)))).base_le (by omega)
            · first | exact ((HS.out.put hlw0).put hlw0).kept (below_drew (Below.refl _ _)) | exact ((HS.out.kept (below_drew (Below.refl _ _))).put hlw0).put hlw0
            · first | exact ((HK.out.put (.inl (Nat.le_refl _))).put (.inl (Nat.le_refl _))).drew | exact (HK.out.drew.put (.inl (Nat.le_refl _))).put (.inl (Nat.le_refl _))
end Go.Proofs.Ytnlohijpcnoamaa
