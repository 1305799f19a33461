/- begin: the next ping. -/
import Derived.Test.YthipdadhhelieaaPWaitW
import Derived.IntWalk
namespace Go.Proofs.Ythipdadhhelieaa
open Go.RowKit Go.Sort Go.BigFrame

/-- Blocks that were there stay, but for block g and one row's. -/
structure Moves (g : Nat) (o : Option Nat) (a w : World) : Prop where
  os : w.os = a.os
  tape : w.tape = a.tape
  output : w.output = a.output
  size : a.heap.size ≤ w.heap.size
  block : ∀ b, b < a.heap.size → b ≠ g → some b ≠ o → w.heap[b]? = a.heap[b]?
theorem Moves.of {g : Nat} {o : Option Nat} {a w : World} (h : Turns g a.heap.size a w) : Moves g o a w := ⟨h.os, h.tape, h.output, h.size, fun b hb hg _ => h.block b hb hg⟩
theorem Moves.trans {g : Nat} {o : Option Nat} {a w v : World} (h : Moves g o a w) (h2 : Moves g o w v) : Moves g o a v :=
  ⟨h2.os.trans h.os, h2.tape.trans h.tape, h2.output.trans h.output, Nat.le_trans h.size h2.size, fun b hb hg ho => (h2.block b (Nat.lt_of_lt_of_le hb h.size) hg ho).trans (h.block b hb hg ho)⟩
theorem Moves.grown {g : Nat} {o : Option Nat} {a w v : World} (h : Moves g o a w) (h2 : w.grownBy v o) : Moves g o a v :=
  ⟨h2.os.trans h.os, h2.tape.trans h.tape, h2.output.trans h.output, Nat.le_trans h.size h2.size, fun b hb hg ho => (h2.block b (Nat.lt_of_lt_of_le hb h.size) ho).trans (h.block b hb hg ho)⟩
theorem Moves.set {g : Nat} {o : Option Nat} {a w : World} (h : Moves g o a w) (i : Nat) (v : Value) : Moves g o a (w.setCell ⟨g, i, none⟩ v) :=
  ⟨h.os, h.tape, h.output, by simpa using h.size, fun b hb hg ho => (Below.heap_setCell _ _ _ _ (by show b ≠ g; exact hg)).trans (h.block b hb hg ho)⟩
theorem Moves.turns {g B : Nat} {a w w0 : World} {T : TypeId} {s : Nat} {v : Value} {n : Nat} {xs : List Value} (h0 : Turns g B w0 a) (hB : B ≤ w0.heap.size) (hr : a.ownsRow B T s v n xs) (h : Moves g v.ownBlock a w) : Turns g B w0 w :=
  h0.trans ⟨h.os, h.tape, h.output, h.size, fun b hb hg => h.block b (Nat.lt_of_lt_of_le hb (Nat.le_trans hB h0.size)) hg (fun e => by have := (World.ownsRow.lt hr b e.symm).1; omega)⟩
theorem row_moves {w w' : World} {g b1 b2 : Nat} {T1 T2 : TypeId} {s1 s2 : Nat} {v1 v2 : Value} {n1 n2 : Nat} {x1 x2 : List Value} (hne : T1 ≠ T2) (h1 : w.ownsRow b1 T1 s1 v1 n1 x1) (h2 : w.ownsRow b2 T2 s2 v2 n2 x2) (hg : g < b1) (h : Moves g v2.ownBlock w w') : w'.ownsRow b1 T1 s1 v1 n1 x1 := by
  have hap := rows_apart hne h1 h2
  have hlt := World.ownsRow.lt h1
  refine ⟨h1.1, ?_⟩
  rcases h1.2 with hn | ⟨b, cap, cur, rfl, hb, hgg, rest⟩
  · exact .inl hn
  · refine .inr ⟨b, cap, cur, rfl, hb, ?_, rest⟩
    rw [h.block b (hlt b rfl).2 (by have := (hlt b rfl).1; omega) (by rcases hap with h | h; simp [Value.ownBlock] at h; exact h)]
    exact hgg

/-- The cells of a ping's message. -/
def pmsg (s q r : Int) : Array Value := #[.int .i64 6, .int .i64 s, .int .i64 q, .int .i64 r, .string .empty, .slice none 0 0, .slice none 0 0, .slice none 0 0, .int .i64 (-1), .int .i64 0, .int .i64 (-1), .int .i64 0, .int .i64 0, .int .i64 0, .slice none 0 0, .slice none 0 0, .slice none 0 0]
/-- Is it too early for a ping? -/
def TabA.early (t : TabA) : Bool := decide (t.last.2.1 > 0) && decide (t.now - t.last.2.2.1 < 100)

set_option maxRecDepth 100000 in
set_option maxHeartbeats 3200000 in
/-- No ping begins. -/
theorem begin_no (g base : Nat) (t : TabA) (ps : List PingA) (hl : ps.length ≤ 1048576) (st : Nat) (hst : st ≤ 8) (hlast : t.last.1 = (st : Int) - 1) (htm : t.timed) (hls : 0 ≤ t.last.2.2.1 ∧ t.last.2.2.1 ≤ t.now ∧ 0 ≤ t.last.2.1 ∧ t.last.2.1 ≤ 1099511627776)
    (hno : t.early = true ∨ nxI (t.free ps) st = -1 ∨ 1099511627776 ≤ t.last.2.1) (w : World) (h : TabAt w g t) (ho : OwnG w base t.opened ps) :
    Calls Try.prog 48 #[.pointer (some ⟨g, 0, none⟩)] w fun e w' => e = .returned (.slice none 0 0) ∧ Below w.heap.size w w' := by
  have HT := Lib.hid h
  have H1 := fun n => Lib.hid (next_any g base t ps hl st hst hlast (w.drewN n) h ho)
  obtain ⟨x, hx⟩ : ∃ x, Hid (x = nxI (t.free ps) st) := ⟨_, Lib.hid rfl⟩
  rw [← hx.out] at H1 hno
  obtain ⟨lr, hlr⟩ : ∃ lr, Hid (lr = t.last.2.1) := ⟨_, Lib.hid rfl⟩
  obtain ⟨ls, hlss⟩ : ∃ ls, Hid (ls = t.last.2.2.1) := ⟨_, Lib.hid rfl⟩
  obtain ⟨nw, hnw⟩ : ∃ nw, Hid (nw = t.now) := ⟨_, Lib.hid rfl⟩
  have c36 : w.cell? ⟨g, 36, none⟩ = some (.int .i64 lr) := by rw [hlr.out]; exact h.cell 36
  have c37 : w.cell? ⟨g, 37, none⟩ = some (.int .i64 ls) := by rw [hlss.out]; exact h.cell 37
  have c1 : w.cell? ⟨g, 1, none⟩ = some (.int .i64 nw) := by rw [hnw.out]; exact h.cell 1
  have m0 := htm.1
  have m1 := htm.2.1
  obtain ⟨l0, l1, l2, l3⟩ := hls
  unfold TabA.early at hno
  rw [← hlr.out] at hno l2 l3
  rw [← hlss.out] at hno l0 l1
  rw [← hnw.out] at hno l1 m0 m1
  have dd : (decide (lr > 0) = true ∧ decide (nw - ls < 100) = true) ∨ ((decide (lr > 0) = false ∨ (decide (lr > 0) = true ∧ decide (nw - ls < 100) = false)) ∧ ((x == -1) = true ∨ ((x == -1) = false ∧ decide (lr ≥ 1099511627776) = true))) := by
    by_cases a1 : lr > 0
    · by_cases a2 : nw - ls < 100
      · exact .inl ⟨by simpa using a1, by simpa using a2⟩
      · refine .inr ⟨.inr ⟨by simpa using a1, by simpa using a2⟩, ?_⟩
        by_cases a3 : x = -1
        · exact .inl (by simpa using a3)
        · refine .inr ⟨by simpa using a3, ?_⟩
          rcases hno with e | e | e
          · simp [a1, a2] at e
          · exact absurd e a3
          · simpa using e
    · refine .inr ⟨.inl (by simpa using a1), ?_⟩
      by_cases a3 : x = -1
      · exact .inl (by simpa using a3)
      · refine .inr ⟨by simpa using a3, ?_⟩
        rcases hno with e | e | e
        · simp [a1] at e
        · exact absurd e a3
        · simpa using e
  clear h ho hlast htm hno hl
  rcases dd with ⟨d1, d2⟩ | ⟨d1 | ⟨d1, d2⟩, d3 | ⟨d3, d4⟩⟩
  all_goals
    go_enter Try.func48, Try.ntmps48
    go_wp2_with fail
    go_quiet (fail)
    go_upto_region 3 with ((go_at_call 67); (with_reducible refine (H1 _).out.mono ?_); rintro e w1 ⟨rfl, hb1⟩)
    have HB1 : Hid (Below w.heap.size w w1) := Lib.hid ((below_drewN (Below.refl _ _) nq).trans hb1)
    have HT1 : Hid (TabAt w1 g t) := Lib.hid (HT.out.below HB1.out HT.out.lt)
    have e36 : w1.cell? ⟨g, 36, none⟩ = some (.int .i64 lr) := by rw [hlr.out]; exact HT1.out.cell 36
    clear hb1
    go_wp2
    go_ret
    exact ⟨rfl, HB1.out⟩

/-- What begin leaves where a ping begins. -/
def Began (g B : Nat) (t : TabA) (ps : List PingA) (q : Int) (w : World) (e : Ending) (w' : World) : Prop := ∃ b v, e = .returned (.slice (some ⟨b, 0, none⟩) 1 1) ∧ w.heap.size ≤ b ∧ w'.heap[b]? = some (.cells (pmsg t.self q (t.last.2.1 + 1)) 56 (0, 0)) ∧
  TabAt w' g { t with last := (q, t.last.2.1 + 1, t.now, false), opened := v } ∧ OwnG w' B v (ps ++ [(q, t.last.2.1 + 1, t.now, false)]) ∧ Moves g t.opened.ownBlock w w'
set_option maxRecDepth 100000 in
set_option maxHeartbeats 6400000 in
/-- A ping begins. -/
theorem begin_yes (g base : Nat) (hgb : g < base) (t : TabA) (ps : List PingA) (hl : ps.length ≤ 1000) (st : Nat) (hst : st ≤ 8) (hlast : t.last.1 = (st : Int) - 1) (htm : t.timed) (hls : 0 ≤ t.last.2.2.1 ∧ t.last.2.2.1 ≤ t.now ∧ 0 ≤ t.last.2.1 ∧ t.last.2.1 < 1099511627776)
    (hne : t.early = false) (hx : nx (t.free ps) st < 8) (w : World) (hbw : base ≤ w.heap.size) (h : TabAt w g t) (ho : OwnG w base t.opened ps) :
    Calls Try.prog 48 #[.pointer (some ⟨g, 0, none⟩)] w fun e w' => Began g base t ps (nx (t.free ps) st) w e w' := by
  have HT := Lib.hid h
  have HO := Lib.hid ho
  obtain ⟨q, hq⟩ : ∃ q, Hid (q = nx (t.free ps) st) := ⟨_, Lib.hid rfl⟩
  have hq8 : q < 8 := by rw [hq.out]; exact hx
  have H1 : ∀ n, Hid (Calls Try.prog 67 #[.pointer (some ⟨g, 0, none⟩)] (w.drewN n) fun e w' => e = .returned (.int .i64 (q : Int)) ∧ Below (w.drewN n).heap.size (w.drewN n) w') := fun n => Lib.hid (by
    have := next_any g base t ps (by omega) st hst hlast (w.drewN n) h ho
    rw [show nxI (t.free ps) st = (q : Int) by unfold nxI; rw [if_pos hx, hq.out]] at this
    exact this)
  rw [← hq.out]
  obtain ⟨lr, hlr⟩ : ∃ lr, Hid (lr = t.last.2.1) := ⟨_, Lib.hid rfl⟩
  obtain ⟨ls, hlss⟩ : ∃ ls, Hid (ls = t.last.2.2.1) := ⟨_, Lib.hid rfl⟩
  obtain ⟨nw, hnw⟩ : ∃ nw, Hid (nw = t.now) := ⟨_, Lib.hid rfl⟩
  have c36 : w.cell? ⟨g, 36, none⟩ = some (.int .i64 lr) := by rw [hlr.out]; exact h.cell 36
  have c37 : w.cell? ⟨g, 37, none⟩ = some (.int .i64 ls) := by rw [hlss.out]; exact h.cell 37
  have c1 : w.cell? ⟨g, 1, none⟩ = some (.int .i64 nw) := by rw [hnw.out]; exact h.cell 1
  have m0 := htm.1
  have m1 := htm.2.1
  obtain ⟨l0, l1, l2, l3⟩ := hls
  unfold TabA.early at hne
  rw [← hlr.out] at hne l2 l3
  rw [← hlss.out] at hne l0 l1
  rw [← hnw.out] at hne l1 m0 m1
  have dd : decide (lr > 0) = false ∨ (decide (lr > 0) = true ∧ decide (nw - ls < 100) = false) := by
    cases h1 : decide (lr > 0)
    · exact .inl rfl
    · rw [h1] at hne
      exact .inr ⟨rfl, by simpa using hne⟩
  have d3 : ((q : Int) == -1) = false := by simp
  have d4 : decide (lr ≥ 1099511627776) = false := by simp; omega
  obtain ⟨A, c, hsl⟩ := ho.slice
  obtain ⟨n, hn⟩ : ∃ n, Hid (n = ps.length) := ⟨_, Lib.hid rfl⟩
  rw [← hn.out] at hsl
  have HSL := Lib.hid hsl
  have hln : n ≤ 1000 := by rw [hn.out]; exact hl
  have HGB := Lib.hid hgb
  have HBW := Lib.hid hbw
  have hwrap : IntKind.i64.wrap (lr + 1) = lr + 1 := IntWalk.i64_in _ (by omega)
  clear h ho hlast htm hx hne hl hsl hbw hgb
  rcases dd with d1 | ⟨d1, d2⟩
  all_goals
    go_enter Try.func48, Try.ntmps48
    go_wp2_with fail
    go_quiet (fail)
    go_upto_region 3 with ((go_at_call 67); (with_reducible refine (H1 _).out.mono ?_); rintro e w1 ⟨rfl, hb1⟩)
    have HB1 : Hid (Below w.heap.size w w1) := Lib.hid ((below_drewN (Below.refl _ _) nq).trans hb1)
    have HT1 : Hid (TabAt w1 g t) := Lib.hid (HT.out.below HB1.out HT.out.lt)
    have e36 : w1.cell? ⟨g, 36, none⟩ = some (.int .i64 lr) := by rw [hlr.out]; exact HT1.out.cell 36
    have e1 : w1.cell? ⟨g, 1, none⟩ = some (.int .i64 nw) := by rw [hnw.out]; exact HT1.out.cell 1
    have f35 := HT1.out.frozen 35
    have f36 := HT1.out.frozen 36
    have f37 := HT1.out.frozen 37
    have f38 := HT1.out.frozen 38
    have x35 : w1.cell? ⟨g, 35, none⟩ = some (.int .i64 t.last.1) := HT1.out.cell 35
    have x37 : w1.cell? ⟨g, 37, none⟩ = some (.int .i64 t.last.2.2.1) := HT1.out.cell 37
    have x38 : w1.cell? ⟨g, 38, none⟩ = some (.bool t.last.2.2.2) := HT1.out.cell 38
    have HO1 : Hid (OwnG w1 base (.slice A n c) ps) := Lib.hid (by rw [← HSL.out]; exact row_below HO.out HB1.out)
    clear hb1 c36 c37 c1
    go_wp2_with fail
    go_still_tail 15, (by kernel_rfl)
    go_upto_region 6 with fail
    have HT2 : Hid (TabAt (((((w1.setCell ⟨g, 35, none⟩ (.int .i64 (q : Int))).setCell ⟨g, 36, none⟩ (.int .i64 (lr + 1))).setCell ⟨g, 37, none⟩ (.int .i64 nw)).setCell ⟨g, 38, none⟩ (.bool false)).drew) g { t with last := ((q : Int), lr + 1, nw, false) }) := Lib.hid (heap_set4 w1 g 35 t.cells _ (.int .i64 (q : Int)) (.int .i64 (lr + 1)) (.int .i64 nw) (.bool false) HT1.out)
    have HM2 : Hid (Moves g t.opened.ownBlock w (((((w1.setCell ⟨g, 35, none⟩ (.int .i64 (q : Int))).setCell ⟨g, 36, none⟩ (.int .i64 (lr + 1))).setCell ⟨g, 37, none⟩ (.int .i64 nw)).setCell ⟨g, 38, none⟩ (.bool false)).drew)) := Lib.hid (by
      have h1 := ((((Moves.of (g := g) (o := t.opened.ownBlock) (Turns.of HB1.out)).set 35 (.int .i64 (q : Int))).set 36 (.int .i64 (lr + 1))).set 37 (.int .i64 nw)).set 38 (.bool false)
      exact ⟨h1.os, h1.tape, h1.output, h1.size, h1.block⟩)
    have HO2 : Hid (OwnG (((((w1.setCell ⟨g, 35, none⟩ (.int .i64 (q : Int))).setCell ⟨g, 36, none⟩ (.int .i64 (lr + 1))).setCell ⟨g, 37, none⟩ (.int .i64 nw)).setCell ⟨g, 38, none⟩ (.bool false)).drew) base (.slice A n c) ps) := Lib.hid (by
      have ht : Turns g w1.heap.size w1 (((((w1.setCell ⟨g, 35, none⟩ (.int .i64 (q : Int))).setCell ⟨g, 36, none⟩ (.int .i64 (lr + 1))).setCell ⟨g, 37, none⟩ (.int .i64 nw)).setCell ⟨g, 38, none⟩ (.bool false)).drew) := ((((Turns.of (Below.refl _ _)).set _ _).set _ _).set _ _).set _ _ |>.drew
      exact row_turn HO1.out ht HGB.out)
    obtain ⟨w2, hw2⟩ : ∃ w2, w2 = (((((w1.setCell ⟨g, 35, none⟩ (.int .i64 (q : Int))).setCell ⟨g, 36, none⟩ (.int .i64 (lr + 1))).setCell ⟨g, 37, none⟩ (.int .i64 nw)).setCell ⟨g, 38, none⟩ (.bool false)).drew) := ⟨_, rfl⟩
    rw [← hw2] at HT2 HM2 HO2 ⊢
    clear hw2 e36 e1 f35 f36 f37 f38 x35 x37 x38
    have c34 : w2.cell? ⟨g, 34, none⟩ = some (.slice A n c) := by rw [← HSL.out]; exact HT2.out.cell 34
    have c35 : w2.cell? ⟨g, 35, none⟩ = some (.int .i64 (q : Int)) := HT2.out.cell 35
    have c36 : w2.cell? ⟨g, 36, none⟩ = some (.int .i64 (lr + 1)) := HT2.out.cell 36
    have c37 : w2.cell? ⟨g, 37, none⟩ = some (.int .i64 nw) := HT2.out.cell 37
    have c38 : w2.cell? ⟨g, 38, none⟩ = some (.bool false) := HT2.out.cell 38
    have hlt := HT2.out.lt
    have HN0 : Hid (∀ j u, (pcells1 ((q : Int), lr + 1, nw, false))[j]? = some u → (w2.alloc (.cells #[.int .i64 (q : Int), .int .i64 (lr + 1), .int .i64 nw, .bool false] 67)).cell? ((⟨w2.heap.size, 0, none⟩ : Addr).add j) = some u) := Lib.hid (box_ping w2 ((q : Int), lr + 1, nw, false))
    have hbA : Below w2.heap.size w2 (w2.alloc (.cells #[.int .i64 (q : Int), .int .i64 (lr + 1), .int .i64 nw, .bool false] 67)) := (Below.refl _ _).alloc (Nat.le_refl _) _
    have HBA := Lib.hid hbA
    have HOA : Hid ((w2.alloc (.cells #[.int .i64 (q : Int), .int .i64 (lr + 1), .int .i64 nw, .bool false] 67)).ownsRow base 67 4 (.slice A n c) n (pcells ps)) := Lib.hid (by have := row_below HO2.out hbA; rwa [← hn.out] at this)
    have HZA : Hid (base ≤ (w2.alloc (.cells #[.int .i64 (q : Int), .int .i64 (lr + 1), .int .i64 nw, .bool false] 67)).heap.size) := Lib.hid (Nat.le_trans HBW.out (Nat.le_trans HM2.out.size hbA.size))
    clear hbA
    go_region_law (first
      | (refine step_append_gen Try.underlying65 infoPing hz4 _ (by rfl) (.tmp 58) (.tmp 63) (by rfl) (by rfl) (by rfl) HOA.out (pcells1 ((q : Int), lr + 1, nw, false)) (pcells1_one ((q : Int), lr + 1, nw, false)) ⟨by omega, by omega⟩ ?_ ?_ ?_
         · exact HN0.out
         · exact HZA.out
         intro g1 c1 w6 ho6 hg6 hd6
         have hgA : (w2.alloc (.cells #[.int .i64 (q : Int), .int .i64 (lr + 1), .int .i64 nw, .bool false] 67)).grownBy w6 (Value.slice A n c).ownBlock := ⟨hg6.os, hg6.tape, hg6.output, hg6.size, hg6.block⟩
         have ht6 : TabAt w6 g { t with last := ((q : Int), lr + 1, nw, false) } := tab_grown (HT2.out.below HBA.out hlt) HGB.out HOA.out hgA
         have f34 := ht6.frozen 34
         have i34 : w6.cell? ⟨g, 34, none⟩ = some (.slice A n c) := by rw [← HSL.out]; exact ht6.cell 34
         have HT6 := Lib.hid ht6
         have HO6 : Hid (OwnG w6 base (.slice (some ⟨g1, 0, none⟩) (n + 1) c1) (ps ++ [((q : Int), lr + 1, nw, false)])) := Lib.hid (by unfold OwnG; rw [pcells_snoc, List.length_append, ← hn.out]; exact ho6)
         have HM6 : Hid (Moves g t.opened.ownBlock w w6) := Lib.hid (by
           have h1 := HM2.out.trans (Moves.of (g := g) (o := t.opened.ownBlock) (Turns.of HBA.out))
           rw [HSL.out] at h1 ⊢
           exact h1.grown hgA)
         clear ht6 ho6 hd6 hg6 hgA)
      | fail)
    all_goals
      have HT7 : Hid (TabAt (w6.setCell ⟨g, 34, none⟩ (.slice (some ⟨g1, 0, none⟩) (n + 1) c1)) g { t with last := ((q : Int), lr + 1, nw, false), opened := .slice (some ⟨g1, 0, none⟩) (n + 1) c1 }) := Lib.hid (Joins.block_setCell HT6.out (i := 34) _)
      have HM7 : Hid (Moves g t.opened.ownBlock w (w6.setCell ⟨g, 34, none⟩ (.slice (some ⟨g1, 0, none⟩) (n + 1) c1))) := Lib.hid (HM6.out.set _ _)
      have HO7 : Hid (OwnG (w6.setCell ⟨g, 34, none⟩ (.slice (some ⟨g1, 0, none⟩) (n + 1) c1)) base (.slice (some ⟨g1, 0, none⟩) (n + 1) c1) (ps ++ [((q : Int), lr + 1, nw, false)])) := Lib.hid (row_turn HO6.out ((Turns.of (Below.refl _ _)).set _ _) HGB.out)
      clear c34 c35 c36 c37 c38 HN0 f34 i34 hlt HBA HOA HZA
      obtain ⟨w7, hw7⟩ : ∃ w7, w7 = w6.setCell ⟨g, 34, none⟩ (.slice (some ⟨g1, 0, none⟩) (n + 1) c1) := ⟨_, rfl⟩
      go_upto_region 7 with fail
      rw [← hw7] at HT7 HM7 HO7 ⊢
      clear hw7
      obtain ⟨sf, hsf⟩ : ∃ sf, Hid (sf = t.self) := ⟨_, Lib.hid rfl⟩
      have c0 : w7.cell? ⟨g, 0, none⟩ = some (.int .i64 sf) := by rw [hsf.out]; exact HT7.out.cell 0
      have c36 : w7.cell? ⟨g, 36, none⟩ = some (.int .i64 (lr + 1)) := HT7.out.cell 36
      go_still_tail 11, (by kernel_rfl)
      go_wp2
      go_ret
      have hbN : Below w7.heap.size w7 (w7.alloc (.cells (pmsg sf q (lr + 1)) 56)) := (Below.refl _ _).alloc (Nat.le_refl _) _
      unfold Began
      have HT8 := HT7.out
      have HO8 := HO7.out
      have hbb : (w7.alloc (.cells (pmsg sf q (lr + 1)) 56)).heap[w7.heap.size]? = some (.cells (pmsg t.self q (t.last.2.1 + 1)) 56 (0, 0)) := by rw [← hsf.out, ← hlr.out]; exact heap_alloc_new w7 (.cells (pmsg sf q (lr + 1)) 56)
      rw [hlr.out, hnw.out] at HT8 HO8
      refine ⟨w7.heap.size, _, rfl, HM7.out.size, hbb, HT8.below (w' := w7.alloc (.cells (pmsg sf q (lr + 1)) 56)) hbN HT8.lt, row_below (w' := w7.alloc (.cells (pmsg sf q (lr + 1)) 56)) HO8 hbN, ?_⟩
      have h1 := HM7.out.trans (Moves.of (g := g) (o := t.opened.ownBlock) (Turns.of hbN))
      exact ⟨h1.os, h1.tape, h1.output, h1.size, h1.block⟩
end Go.Proofs.Ythipdadhhelieaa
