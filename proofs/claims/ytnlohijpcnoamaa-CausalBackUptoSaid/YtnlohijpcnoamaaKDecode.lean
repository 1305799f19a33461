/- causal.Decode: a context read by a copy of the reader, which is written back where all went well. -/
import Derived.Test.YtnlohijpcnoamaaKReadC
import Derived.Test.YtnlohijpcnoamaaCCan
namespace Go.Proofs.Ytnlohijpcnoamaa
open Go.RowKit Go.Sort Go.BigFrame
open Go.Lib (byteCells byteCells_length)

theorem lenS_short (bs : List UInt8) (p : Nat) (y : Int) : (lenS bs 64 p y).1.toNat ≤ 64 := by
  unfold lenS; split <;> (try simp) <;> omega
theorem readS_short (bs : List UInt8) (p : Nat) (y : Int) : (readS bs p y).1.length ≤ 64 ∧ (readS bs p y).2.1.length ≤ 64 := by
  unfold readS
  dsimp only
  rw [dotsS_length, dotsS_length]
  exact ⟨lenS_short _ _ _, lenS_short _ _ _⟩

/-- The context, and the reader behind it; or an error, and nothing has turned. -/
def DecPost (g : Nat) (A : Option Addr) (c : Nat) (bs : List UInt8) (r : List DotA × List DotA × Nat × Int) (w : World) (e : Ending) (w' : World) : Prop :=
  (r.2.2.2 = 0 ∧ OkC r.1 r.2.1 ∧ ∃ (A1 A2 : Option Addr) (n1 n2 c1 c2 : Nat), e = .returned (.tuple #[.agg #[.slice A1 n1 c1, .slice A2 n2 c2], .int .i64 0]) ∧ OwnD 53 w' w.heap.size (.slice A1 n1 c1) r.1 ∧ OwnD 55 w' w.heap.size (.slice A2 n2 c2) r.2.1 ∧ Rdr w' g A c bs r.2.2.1 ∧ Kept g g w w') ∨
  (∃ y : Int, y ≠ 0 ∧ ((r.2.2.2 ≠ 0 ∧ y = r.2.2.2) ∨ (r.2.2.2 = 0 ∧ ¬ OkC r.1 r.2.1 ∧ y = 30)) ∧ e = .returned (.tuple #[.agg #[.slice none 0 0, .slice none 0 0], .int .i64 y]) ∧ Below w.heap.size w w')

set_option maxRecDepth 100000 in
set_option maxHeartbeats 6400000 in
theorem decode_any (w : World) (g : Nat) (A : Option Addr) (c : Nat) (bs : List UInt8) (p : Nat) (h : Rdr w g A c bs p) (hrd : RdA w 0 w.heap.size A bs) :
    Calls Try.prog 13 #[.pointer (some ⟨g, 0, none⟩)] w (DecPost g A c bs (readS bs p 0) w) := by
  obtain ⟨W0, hW0⟩ : ∃ W0, Hid (W0 = w.alloc (.cells #[.slice none 0 0, .slice none 0 0] 25)) := ⟨_, Lib.hid rfl⟩
  obtain ⟨W, hW⟩ : ∃ W, Hid (W = W0.alloc (.cells #[.bool true, .slice A bs.length c, .int .i64 (p : Int)] 63)) := ⟨_, Lib.hid rfl⟩
  have hlt := h.lt
  have hb0 : Below w.heap.size w W0 := by rw [hW0.out]; exact below_alloc (Below.refl _ _)
  have hbw : Below W0.heap.size W0 W := by rw [hW.out]; exact below_alloc (Below.refl _ _)
  have hz0 : W0.heap.size = w.heap.size + 1 := by rw [hW0.out]; simp
  have hz : W.heap.size = W0.heap.size + 1 := by rw [hW.out]; simp
  have row0 : W0.heap[w.heap.size]? = some (.cells #[.slice none 0 0, .slice none 0 0] 25 (0, 0)) := by rw [hW0.out]; exact heap_alloc_new w _
  have g0 : Rdr W0 g A c bs p := h.keep (hb0.block g hlt)
  have hG : Rdr W g A c bs p := g0.keep (hbw.block g (by omega))
  have hC : Rdr W W0.heap.size A c bs p := ⟨by rw [hW.out]; exact heap_alloc_new W0 _, h.le, h.cap, h.small⟩
  have hR : RdA W 0 w.heap.size A bs := (hrd.keep fun q _ hq => hb0.cell hq).keep fun q _ hq => hbw.cell (by omega)
  have HROW := Lib.hid ((hbw.block _ (by omega)).trans row0)
  have HG := Lib.hid hG
  have k0 : W0.cell? ⟨g, 0, none⟩ = some (.bool true) := g0.cell 0
  have k1 : W0.cell? ⟨g, 1, none⟩ = some (.slice A bs.length c) := g0.cell 1
  have k2 : W0.cell? ⟨g, 2, none⟩ = some (.int .i64 (p : Int)) := g0.cell 2
  have HB := Lib.hid (hb0.trans (hbw.mono (by omega)))
  have HF := Lib.hid (from_any W W0.heap.size A c bs w.heap.size p hC hR (by omega))
  have HSH := Lib.hid (readS_short bs p 0)
  obtain ⟨r, hr⟩ : ∃ r, Hid (r = readS bs p 0) := ⟨_, Lib.hid rfl⟩
  have hW0e := hW0.out.symm
  have hWe := hW.out.symm
  rw [← hr.out] at HSH ⊢
  have hz0a : w.heap.size < W0.heap.size := by omega
  have hza : W0.heap.size < W.heap.size := by omega
  clear h hrd hb0 hbw row0 g0 hG hC hR hz0 hz
  go_enter Try.func13, Try.ntmps13
  go_upto_region 1 with fail
  clear hW0e
  go_upto_region 4 with fail
  clear hWe k0 k1 k2
  go_wp2_with fail
  (with_reducible refine HF.out.mono ?_); rintro e w1 ⟨rfl, hs1, hb1, hz1⟩
  have HRD := Lib.hid (read_any w1 W.heap.size W0.heap.size A c bs w.heap.size p 0 hs1)
  rw [← hr.out] at HRD
  have HB1 := Lib.hid hb1
  clear hs1 hb1 HF
  go_wp2_with fail
  (with_reducible refine HRD.out.mono ?_); rintro e w2 ⟨A1, A2, n1, n2, c1, c2, rfl, o1, o2, s2, kk2⟩
  obtain ⟨W2, hW2⟩ : ∃ W2, Hid (W2 = w2.alloc (.cells #[.slice A1 n1 c1, .slice A2 n2 c2] 25)) := ⟨_, Lib.hid rfl⟩
  have hz2 := kk2.size
  have hb2 : Below w2.heap.size w2 W2 := by rw [hW2.out]; exact below_alloc (Below.refl _ _)
  have hsame : ∀ b, b < W.heap.size → b ≠ W0.heap.size → W2.heap[b]? = W.heap[b]? := fun b h1 h2 => ((hb2.block b (by omega)).trans (kk2.block b (by omega) h2 (by omega))).trans (HB1.out.block b h1)
  have HSAME := Lib.hid hsame
  have HK2 : Hid (Below w.heap.size w W2) := Lib.hid (by
    refine ⟨(hb2.os.trans kk2.os).trans (HB1.out.os.trans HB.out.os), (hb2.tape.trans kk2.tape).trans (HB1.out.tape.trans HB.out.tape), (hb2.output.trans kk2.output).trans (HB1.out.output.trans HB.out.output), ?_, fun b hb => (hsame b (by omega) (by omega)).trans (HB.out.block b hb)⟩
    have := hb2.size
    omega)
  have HG2 : Hid (Rdr W2 g A c bs p) := Lib.hid (HG.out.keep (hsame g (by omega) (by omega)))
  have HC2 : Hid (Rdr W2 W0.heap.size A c bs r.2.2.1) := Lib.hid (s2.rdr.keep (hb2.block _ (by omega)))
  have HR2 := Lib.hid ((hsame w.heap.size (by omega) (by omega)).trans HROW.out)
  have HO1 := Lib.hid (o1.below hb2)
  have HO2 := Lib.hid (o2.below hb2)
  have e0 : W2.cell? ⟨w2.heap.size, 0, none⟩ = some (.slice A1 n1 c1) := by rw [hW2.out]; exact box_cell _ _ _ 0
  have e1 : W2.cell? ⟨w2.heap.size, 1, none⟩ = some (.slice A2 n2 c2) := by rw [hW2.out]; exact box_cell _ _ _ 1
  have hlt2 : w2.heap.size < W2.heap.size := by rw [hW2.out]; simp
  have hWe := hW2.out.symm
  clear o1 o2 s2 kk2 hb2 hsame HRD
  go_upto_region 5 with fail
  clear hWe
  by_cases hy : r.2.2.2 = 0
  · have HCAN := Lib.hid (can_any (.agg #[.slice A1 n1 c1, .slice A2 n2 c2]) r.1 r.2.1 W2 ⟨_, _, rfl, HO1.out.rd, HO2.out.rd⟩ (by have := HSH.out.1; omega) (by have := HSH.out.2; omega))
    have t0 : (r.2.2.2 == 0) = true := by simpa using hy
    go_wp2_with fail
    (with_reducible refine HCAN.out.mono ?_); rintro e w3 ⟨b, rfl, hbi, hb3⟩
    have HB3 := Lib.hid hb3
    have HG3 := Lib.hid (HG2.out.keep (hb3.block g (by omega)))
    have HC3 := Lib.hid (HC2.out.keep (hb3.block _ (by omega)))
    have HR3 := Lib.hid ((hb3.block _ (by omega)).trans HR2.out)
    have HO13 := Lib.hid (HO1.out.below hb3)
    have HO23 := Lib.hid (HO2.out.below hb3)
    have a0 : w3.cell? ⟨w2.heap.size, 0, none⟩ = some (.slice A1 n1 c1) := (hb3.cell (p := ⟨_, _, none⟩) hlt2).trans e0
    have a1 : w3.cell? ⟨w2.heap.size, 1, none⟩ = some (.slice A2 n2 c2) := (hb3.cell (p := ⟨_, _, none⟩) hlt2).trans e1
    have HK3 : Hid (Below w.heap.size w w3) := Lib.hid (below_next HK2.out hb3)
    have hs3 := hb3.size
    have q0 : w3.cell? ⟨w.heap.size, 0, none⟩ = some (.slice none 0 0) := cell_of_row w3 _ 0 _ _ (0, 0) HR3.out
    have q1 : w3.cell? ⟨w.heap.size, 1, none⟩ = some (.slice none 0 0) := cell_of_row w3 _ 1 _ _ (0, 0) HR3.out
    have f0 : w3.frozen? ⟨w.heap.size, 0, none⟩ = false := frozen_of_row w3 _ 0 _ _ HR3.out
    have f1 : w3.frozen? ⟨w.heap.size, 1, none⟩ = false := frozen_of_row w3 _ 1 _ _ HR3.out
    clear hb3 e0 e1
    cases b with
    | false =>
      have HN : Hid (¬ OkC r.1 r.2.1) := Lib.hid (fun h => by have := hbi.2 h; cases this)
      clear hbi
      have hr := Joins.block_setCell (Joins.block_setCell HR3.out (i := 0) (.slice none 0 0)) (i := 1) (.slice none 0 0)
      have HRf := Lib.hid hr
      clear hr
      go_wp2
      have p0 := cell_of_row _ _ 0 _ _ (0, 0) HRf.out
      have p1 := cell_of_row _ _ 1 _ _ (0, 0) HRf.out
      simp at p0 p1
      refine bodyPost_ret (v := .tuple #[.agg #[.slice none 0 0, .slice none 0 0], .int .i64 30]) (by simp [results, Try.results13, go_sem, p0, p1]) rfl ?_
      refine Or.inr ⟨30, by decide, .inr ⟨hy, HN.out, rfl⟩, rfl, ?_⟩
      exact (HK3.out.setCell (Nat.le_refl _) _).setCell (Nat.le_refl _) _
    | true =>
      have HOK := Lib.hid (hbi.1 rfl)
      clear hbi
      obtain ⟨W4, hW4⟩ : ∃ W4, Hid (W4 = ((w3.setCell ⟨g, 0, none⟩ (.bool true)).setCell ⟨g, 1, none⟩ (.slice A bs.length c)).setCell ⟨g, 2, none⟩ (.int .i64 (r.2.2.1 : Int))) := ⟨_, Lib.hid rfl⟩
      have d0 : w3.cell? ⟨W0.heap.size, 0, none⟩ = some (.bool true) := HC3.out.cell 0
      have d1 : w3.cell? ⟨W0.heap.size, 1, none⟩ = some (.slice A bs.length c) := HC3.out.cell 1
      have d2 : w3.cell? ⟨W0.heap.size, 2, none⟩ = some (.int .i64 (r.2.2.1 : Int)) := HC3.out.cell 2
      have y0 : w3.cell? ⟨g, 0, none⟩ = some (.bool true) := HG3.out.cell 0
      have y1 : w3.cell? ⟨g, 1, none⟩ = some (.slice A bs.length c) := HG3.out.cell 1
      have y2 : w3.cell? ⟨g, 2, none⟩ = some (.int .i64 (p : Int)) := HG3.out.cell 2
      have z0 : w3.frozen? ⟨g, 0, none⟩ = false := HG3.out.frozen 0
      have z1 : w3.frozen? ⟨g, 1, none⟩ = false := HG3.out.frozen 1
      have z2 : w3.frozen? ⟨g, 2, none⟩ = false := HG3.out.frozen 2
      have hsz4 : W4.heap.size = w3.heap.size := by rw [hW4.out]; simp [World.setCell]
      have hne4 : ∀ b, b ≠ g → W4.heap[b]? = w3.heap[b]? := fun b hb => by
        rw [hW4.out]
        exact ((Below.heap_setCell _ _ _ _ hb).trans (Below.heap_setCell _ _ _ _ hb)).trans (Below.heap_setCell _ _ _ _ hb)
      have HG4 : Hid (Rdr W4 g A c bs r.2.2.1) := Lib.hid ⟨by
        rw [hW4.out]
        exact (Joins.block_setCell (Joins.block_setCell (Joins.block_setCell HG3.out.block (i := 0) (.bool true)) (i := 1) (.slice A bs.length c)) (i := 2) (.int .i64 (r.2.2.1 : Int))).trans (by simp), HC3.out.le, HC3.out.cap, HC3.out.small⟩
      have HK4 : Hid (Kept g g w W4) := Lib.hid (by
        rw [hW4.out]
        exact (((Kept.of HK3.out).put (.inr rfl)).put (.inr rfl)).put (.inr rfl))
      have a0 : W4.cell? ⟨w2.heap.size, 0, none⟩ = some (.slice A1 n1 c1) := (World.cell?_of_block (w := w3) (hne4 w2.heap.size (by omega))).trans a0
      have a1 : W4.cell? ⟨w2.heap.size, 1, none⟩ = some (.slice A2 n2 c2) := (World.cell?_of_block (w := w3) (hne4 w2.heap.size (by omega))).trans a1
      have hr4 := (hne4 w.heap.size (by omega)).trans HR3.out
      have q0 : W4.cell? ⟨w.heap.size, 0, none⟩ = some (.slice none 0 0) := cell_of_row W4 _ 0 _ _ (0, 0) hr4
      have q1 : W4.cell? ⟨w.heap.size, 1, none⟩ = some (.slice none 0 0) := cell_of_row W4 _ 1 _ _ (0, 0) hr4
      have f0 : W4.frozen? ⟨w.heap.size, 0, none⟩ = false := frozen_of_row W4 _ 0 _ _ hr4
      have f1 : W4.frozen? ⟨w.heap.size, 1, none⟩ = false := frozen_of_row W4 _ 1 _ _ hr4
      have hgn : g ≠ w.heap.size := by omega
      have hw1 : w.heap.size < w1.heap.size := by omega
      have hgb : ∀ b, w1.heap.size ≤ b → b ≠ g := fun b h1 => by omega
      have HO14 : Hid (OwnD 53 W4 w1.heap.size (.slice A1 n1 c1) r.1) := Lib.hid (HO13.out.stay (fun b h1 h2 => hne4 b (hgb b h1)))
      have HO24 : Hid (OwnD 55 W4 w1.heap.size (.slice A2 n2 c2) r.2.1) := Lib.hid (HO23.out.stay (fun b h1 h2 => hne4 b (hgb b h1)))
      have HRf := Lib.hid (Joins.block_setCell (Joins.block_setCell hr4 (i := 0) (.slice A1 n1 c1)) (i := 1) (.slice A2 n2 c2))
      have hWe := hW4.out.symm
      clear hr4 hne4
      go_upto_region 10 with fail
      clear hWe
      go_wp2
      have p0 := cell_of_row _ _ 0 _ _ (0, 0) HRf.out
      have p1 := cell_of_row _ _ 1 _ _ (0, 0) HRf.out
      simp at p0 p1
      refine bodyPost_ret (v := .tuple #[.agg #[.slice A1 n1 c1, .slice A2 n2 c2], .int .i64 0]) (by simp [results, Try.results13, go_sem, p0, p1]) rfl ?_
      refine Or.inl ⟨hy, HOK.out, A1, A2, n1, n2, c1, c2, rfl, ?_, ?_, ?_, ?_⟩
      · exact (HO14.out.stay (fun b h1 h2 => (Below.heap_setCell _ _ _ _ (by show b ≠ w.heap.size; omega)).trans (Below.heap_setCell _ _ _ _ (by show b ≠ w.heap.size; omega)))).base_le (by omega)
      · exact (HO24.out.stay (fun b h1 h2 => (Below.heap_setCell _ _ _ _ (by show b ≠ w.heap.size; omega)).trans (Below.heap_setCell _ _ _ _ (by show b ≠ w.heap.size; omega)))).base_le (by omega)
      · exact HG4.out.keep ((Below.heap_setCell _ _ _ _ hgn).trans (Below.heap_setCell _ _ _ _ hgn))
      · exact (HK4.out.put (.inl (Nat.le_refl _))).put (.inl (Nat.le_refl _))
  · have t0 : (r.2.2.2 == 0) = false := by simpa using hy
    have t1 : (r.2.2.2 != 0) = true := by simpa using hy
    have q0 : W2.cell? ⟨w.heap.size, 0, none⟩ = some (.slice none 0 0) := cell_of_row W2 _ 0 _ _ (0, 0) HR2.out
    have q1 : W2.cell? ⟨w.heap.size, 1, none⟩ = some (.slice none 0 0) := cell_of_row W2 _ 1 _ _ (0, 0) HR2.out
    have f0 : W2.frozen? ⟨w.heap.size, 0, none⟩ = false := frozen_of_row W2 _ 0 _ _ HR2.out
    have f1 : W2.frozen? ⟨w.heap.size, 1, none⟩ = false := frozen_of_row W2 _ 1 _ _ HR2.out
    have HRf := Lib.hid (Joins.block_setCell (Joins.block_setCell HR2.out (i := 0) (.slice none 0 0)) (i := 1) (.slice none 0 0))
    go_wp2
    have p0 := cell_of_row _ _ 0 _ _ (0, 0) HRf.out
    have p1 := cell_of_row _ _ 1 _ _ (0, 0) HRf.out
    simp at p0 p1
    refine bodyPost_ret (v := .tuple #[.agg #[.slice none 0 0, .slice none 0 0], .int .i64 r.2.2.2]) (by simp [results, Try.results13, go_sem, p0, p1]) rfl ?_
    refine Or.inr ⟨r.2.2.2, hy, .inl ⟨hy, rfl⟩, rfl, ?_⟩
    exact (HK2.out.setCell (Nat.le_refl _) _).setCell (Nat.le_refl _) _
end Go.Proofs.Ytnlohijpcnoamaa
