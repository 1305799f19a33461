/- CausalCodes, walked: with what it needs of the decodings and of the document. -/
import Derived.Test.YtnlohijpcnoamaaKReadC
import Derived.Test.YtnlohijpcnoamaaCCan
import Derived.Test.YtnlohijpcnoamaaCAsk
import Derived.Test.YtnlohijpcnoamaaCSame
import Derived.Test.YtnlohijpcnoamaaClone
import Derived.Test.YtnlohijpcnoamaaCJoin
import Derived.Deep.RegionLaw
import Derived.Test.YtnlohijpcnoamaaKBox
import Derived.Test.YtnlohijpcnoamaaKNumber
import Derived.Test.YtnlohijpcnoamaaKReader2
import Derived.Deep.QuietTactic
import Derived.Test.YtnlohijpcnoamaaCRefCan
import Derived.Test.YtnlohijpcnoamaaKEncode
import Derived.Deep.RegionHeld3
namespace Go.Proofs.Ytnlohijpcnoamaa
open Go.RowKit Go.Sort Go.BigFrame
open Go.Lib (byteCells byteCells_length)

theorem lenS_short (bs : List UInt8) (p : Nat) (y : Int) : (lenS bs 64 p y).1.toNat ≤ 64 := by
  unfold lenS; split <;> (try simp) <;> omega
theorem readS_short (bs : List UInt8) (p : Nat) (y : Int) : (readS bs p y).1.length ≤ 64 ∧ (readS bs p y).2.1.length ≤ 64 := by
  unfold readS
  dsimp only
  rw [dotsS_length, dotsS_length]
  exact ⟨lenS_short _ _ _, lenS_short _ _ _⟩

/-- The context, and the reader behind it; or an error, and nothing has turned. -/
def DecPost (g : Nat) (A : Option Addr) (c : Nat) (bs : List UInt8) (r : List DotA × List DotA × Nat × Int) (w : World) (e : Ending) (w' : World) : Prop :=
  (r.2.2.2 = 0 ∧ OkC r.1 r.2.1 ∧ ∃ (A1 A2 : Option Addr) (n1 n2 c1 c2 : Nat), e = .returned (.tuple #[.agg #[.slice A1 n1 c1, .slice A2 n2 c2], .int .i64 0]) ∧ OwnD 53 w' w.heap.size (.slice A1 n1 c1) r.1 ∧ OwnD 55 w' w.heap.size (.slice A2 n2 c2) r.2.1 ∧ Rdr w' g A c bs r.2.2.1 ∧ Kept g g w w') ∨
  (∃ y : Int, y ≠ 0 ∧ ((r.2.2.2 ≠ 0 ∧ y = r.2.2.2) ∨ (r.2.2.2 = 0 ∧ ¬ OkC r.1 r.2.1 ∧ y = 30)) ∧ e = .returned (.tuple #[.agg #[.slice none 0 0, .slice none 0 0], .int .i64 y]) ∧ Below w.heap.size w w')

set_option maxRecDepth 100000 in
set_option maxHeartbeats 6400000 in
theorem decode_any (w : World) (g : Nat) (A : Option Addr) (c : Nat) (bs : List UInt8) (p : Nat) (h : Rdr w g A c bs p) (hrd : RdA w 0 w.heap.size A bs) :
    Calls Try.prog 13 #[.pointer (some ⟨g, 0, none⟩)] w (DecPost g A c bs (readS bs p 0) w) := by
  obtain ⟨W0, hW0⟩ : ∃ W0, Hid (W0 = w.alloc (.cells #[.slice none 0 0, .slice none 0 0] 25)) := ⟨_, Lib.hid rfl⟩
  obtain ⟨W, hW⟩ : ∃ W, Hid (W = W0.alloc (.cells #[.bool true, .slice A bs.length c, .int .i64 (p : Int)] 63)) := ⟨_, Lib.hid rfl⟩
  have hlt := h.lt
  have hb0 : Below w.heap.size w W0 := by rw [hW0.out]; exact below_alloc (Below.refl _ _)
  have hbw : Below W0.heap.size W0 W := by rw [hW.out]; exact below_alloc (Below.refl _ _)
  have hz0 : W0.heap.size = w.heap.size + 1 := by rw [hW0.out]; simp
  have hz : W.heap.size = W0.heap.size + 1 := by rw [hW.out]; simp
  have row0 : W0.heap[w.heap.size]? = some (.cells #[.slice none 0 0, .slice none 0 0] 25 (0, 0)) := by rw [hW0.out]; exact heap_alloc_new w _
  have g0 : Rdr W0 g A c bs p := h.keep (hb0.block g hlt)
  have hG : Rdr W g A c bs p := g0.keep (hbw.block g (by omega))
  have hC : Rdr W W0.heap.size A c bs p := ⟨by rw [hW.out]; exact heap_alloc_new W0 _, h.le, h.cap, h.small⟩
  have hR : RdA W 0 w.heap.size A bs := (hrd.keep fun q _ hq => hb0.cell hq).keep fun q _ hq => hbw.cell (by omega)
  have HROW := Lib.hid ((hbw.block _ (by omega)).trans row0)
  have HG := Lib.hid hG
  have k0 : W0.cell? ⟨g, 0, none⟩ = some (.bool true) := g0.cell 0
  have k1 : W0.cell? ⟨g, 1, none⟩ = some (.slice A bs.length c) := g0.cell 1
  have k2 : W0.cell? ⟨g, 2, none⟩ = some (.int .i64 (p : Int)) := g0.cell 2
  have HB := Lib.hid (hb0.trans (hbw.mono (by omega)))
  have HF := Lib.hid (from_any W W0.heap.size A c bs w.heap.size p hC hR (by omega))
  have HSH := Lib.hid (readS_short bs p 0)
  obtain ⟨r, hr⟩ : ∃ r, Hid (r = readS bs p 0) := ⟨_, Lib.hid rfl⟩
  have hW0e := hW0.out.symm
  have hWe := hW.out.symm
  rw [← hr.out] at HSH ⊢
  have hz0a : w.heap.size < W0.heap.size := by omega
  have hza : W0.heap.size < W.heap.size := by omega
  clear h hrd hb0 hbw row0 g0 hG hC hR hz0 hz
  go_enter Try.func13, Try.ntmps13
  go_upto_region 1 with fail
  clear hW0e
  go_upto_region 4 with fail
  clear hWe k0 k1 k2
  go_wp2_with fail
  (with_reducible refine HF.out.mono ?_); rintro e w1 ⟨rfl, hs1, hb1, hz1⟩
  have HRD := Lib.hid (read_any w1 W.heap.size W0.heap.size A c bs w.heap.size p 0 hs1)
  rw [← hr.out] at HRD
  have HB1 := Lib.hid hb1
  clear hs1 hb1 HF
  go_wp2_with fail
  (with_reducible refine HRD.out.mono ?_); rintro e w2 ⟨A1, A2, n1, n2, c1, c2, rfl, o1, o2, s2, kk2⟩
  obtain ⟨W2, hW2⟩ : ∃ W2, Hid (W2 = w2.alloc (.cells #[.slice A1 n1 c1, .slice A2 n2 c2] 25)) := ⟨_, Lib.hid rfl⟩
  have hz2 := kk2.size
  have hb2 : Below w2.heap.size w2 W2 := by rw [hW2.out]; exact below_alloc (Below.refl _ _)
  have hsame : ∀ b, b < W.heap.size → b ≠ W0.heap.size → W2.heap[b]? = W.heap[b]? := fun b h1 h2 => ((hb2.block b (by omega)).trans (kk2.block b (by omega) h2 (by omega))).trans (HB1.out.block b h1)
  have HSAME := Lib.hid hsame
  have HK2 : Hid (Below w.heap.size w W2) := Lib.hid (by
    refine ⟨(hb2.os.trans kk2.os).trans (HB1.out.os.trans HB.out.os), (hb2.tape.trans kk2.tape).trans (HB1.out.tape.trans HB.out.tape), (hb2.output.trans kk2.output).trans (HB1.out.output.trans HB.out.output), ?_, fun b hb => (hsame b (by omega) (by omega)).trans (HB.out.block b hb)⟩
    have := hb2.size
    omega)
  have HG2 : Hid (Rdr W2 g A c bs p) := Lib.hid (HG.out.keep (hsame g (by omega) (by omega)))
  have HC2 : Hid (Rdr W2 W0.heap.size A c bs r.2.2.1) := Lib.hid (s2.rdr.keep (hb2.block _ (by omega)))
  have HR2 := Lib.hid ((hsame w.heap.size (by omega) (by omega)).trans HROW.out)
  have HO1 := Lib.hid (o1.below hb2)
  have HO2 := Lib.hid (o2.below hb2)
  have e0 : W2.cell? ⟨w2.heap.size, 0, none⟩ = some (.slice A1 n1 c1) := by rw [hW2.out]; exact box_cell _ _ _ 0
  have e1 : W2.cell? ⟨w2.heap.size, 1, none⟩ = some (.slice A2 n2 c2) := by rw [hW2.out]; exact box_cell _ _ _ 1
  have hlt2 : w2.heap.size < W2.heap.size := by rw [hW2.out]; simp
  have hWe := hW2.out.symm
  clear o1 o2 s2 kk2 hb2 hsame HRD
  go_upto_region 5 with fail
  clear hWe
  by_cases hy : r.2.2.2 = 0
  · have HCAN := Lib.hid (can_any (.agg #[.slice A1 n1 c1, .slice A2 n2 c2]) r.1 r.2.1 W2 ⟨_, _, rfl, HO1.out.rd, HO2.out.rd⟩ (by have := HSH.out.1; omega) (by have := HSH.out.2; omega))
    have t0 : (r.2.2.2 == 0) = true := by simpa using hy
    go_wp2_with fail
    (with_reducible refine HCAN.out.mono ?_); rintro e w3 ⟨b, rfl, hbi, hb3⟩
    have HB3 := Lib.hid hb3
    have HG3 := Lib.hid (HG2.out.keep (hb3.block g (by omega)))
    have HC3 := Lib.hid (HC2.out.keep (hb3.block _ (by omega)))
    have HR3 := Lib.hid ((hb3.block _ (by omega)).trans HR2.out)
    have HO13 := Lib.hid (HO1.out.below hb3)
    have HO23 := Lib.hid (HO2.out.below hb3)
    have a0 : w3.cell? ⟨w2.heap.size, 0, none⟩ = some (.slice A1 n1 c1) := (hb3.cell (p := ⟨_, _, none⟩) hlt2).trans e0
    have a1 : w3.cell? ⟨w2.heap.size, 1, none⟩ = some (.slice A2 n2 c2) := (hb3.cell (p := ⟨_, _, none⟩) hlt2).trans e1
    have HK3 : Hid (Below w.heap.size w w3) := Lib.hid (below_next HK2.out hb3)
    have hs3 := hb3.size
    have q0 : w3.cell? ⟨w.heap.size, 0, none⟩ = some (.slice none 0 0) := cell_of_row w3 _ 0 _ _ (0, 0) HR3.out
    have q1 : w3.cell? ⟨w.heap.size, 1, none⟩ = some (.slice none 0 0) := cell_of_row w3 _ 1 _ _ (0, 0) HR3.out
    have f0 : w3.frozen? ⟨w.heap.size, 0, none⟩ = false := frozen_of_row w3 _ 0 _ _ HR3.out
    have f1 : w3.frozen? ⟨w.heap.size, 1, none⟩ = false := frozen_of_row w3 _ 1 _ _ HR3.out
    clear hb3 e0 e1
    cases b with
    | false =>
      have HN : Hid (¬ OkC r.1 r.2.1) := Lib.hid (fun h => by have := hbi.2 h; cases this)
      clear hbi
      have hr := Joins.block_setCell (Joins.block_setCell HR3.out (i := 0) (.slice none 0 0)) (i := 1) (.slice none 0 0)
      have HRf := Lib.hid hr
      clear hr
      go_wp2
      have p0 := cell_of_row _ _ 0 _ _ (0, 0) HRf.out
      have p1 := cell_of_row _ _ 1 _ _ (0, 0) HRf.out
      simp at p0 p1
      refine bodyPost_ret (v := .tuple #[.agg #[.slice none 0 0, .slice none 0 0], .int .i64 30]) (by simp [results, Try.results13, go_sem, p0, p1]) rfl ?_
      refine Or.inr ⟨30, by decide, .inr ⟨hy, HN.out, rfl⟩, rfl, ?_⟩
      exact (HK3.out.setCell (Nat.le_refl _) _).setCell (Nat.le_refl _) _
    | true =>
      have HOK := Lib.hid (hbi.1 rfl)
      clear hbi
      obtain ⟨W4, hW4⟩ : ∃ W4, Hid (W4 = ((w3.setCell ⟨g, 0, none⟩ (.bool true)).setCell ⟨g, 1, none⟩ (.slice A bs.length c)).setCell ⟨g, 2, none⟩ (.int .i64 (r.2.2.1 : Int))) := ⟨_, Lib.hid rfl⟩
      have d0 : w3.cell? ⟨W0.heap.size, 0, none⟩ = some (.bool true) := HC3.out.cell 0
      have d1 : w3.cell? ⟨W0.heap.size, 1, none⟩ = some (.slice A bs.length c) := HC3.out.cell 1
      have d2 : w3.cell? ⟨W0.heap.size, 2, none⟩ = some (.int .i64 (r.2.2.1 : Int)) := HC3.out.cell 2
      have y0 : w3.cell? ⟨g, 0, none⟩ = some (.bool true) := HG3.out.cell 0
      have y1 : w3.cell? ⟨g, 1, none⟩ = some (.slice A bs.length c) := HG3.out.cell 1
      have y2 : w3.cell? ⟨g, 2, none⟩ = some (.int .i64 (p : Int)) := HG3.out.cell 2
      have z0 : w3.frozen? ⟨g, 0, none⟩ = false := HG3.out.frozen 0
      have z1 : w3.frozen? ⟨g, 1, none⟩ = false := HG3.out.frozen 1
      have z2 : w3.frozen? ⟨g, 2, none⟩ = false := HG3.out.frozen 2
      have hsz4 : W4.heap.size = w3.heap.size := by rw [hW4.out]; simp [World.setCell]
      have hne4 : ∀ b, b ≠ g → W4.heap[b]? = w3.heap[b]? := fun b hb => by
        rw [hW4.out]
        exact ((Below.heap_setCell _ _ _ _ hb).trans (Below.heap_setCell _ _ _ _ hb)).trans (Below.heap_setCell _ _ _ _ hb)
      have HG4 : Hid (Rdr W4 g A c bs r.2.2.1) := Lib.hid ⟨by
        rw [hW4.out]
        exact (Joins.block_setCell (Joins.block_setCell (Joins.block_setCell HG3.out.block (i := 0) (.bool true)) (i := 1) (.slice A bs.length c)) (i := 2) (.int .i64 (r.2.2.1 : Int))).trans (by simp), HC3.out.le, HC3.out.cap, HC3.out.small⟩
      have HK4 : Hid (Kept g g w W4) := Lib.hid (by
        rw [hW4.out]
        exact (((Kept.of HK3.out).put (.inr rfl)).put (.inr rfl)).put (.inr rfl))
      have a0 : W4.cell? ⟨w2.heap.size, 0, none⟩ = some (.slice A1 n1 c1) := (World.cell?_of_block (w := w3) (hne4 w2.heap.size (by omega))).trans a0
      have a1 : W4.cell? ⟨w2.heap.size, 1, none⟩ = some (.slice A2 n2 c2) := (World.cell?_of_block (w := w3) (hne4 w2.heap.size (by omega))).trans a1
      have hr4 := (hne4 w.heap.size (by omega)).trans HR3.out
      have q0 : W4.cell? ⟨w.heap.size, 0, none⟩ = some (.slice none 0 0) := cell_of_row W4 _ 0 _ _ (0, 0) hr4
      have q1 : W4.cell? ⟨w.heap.size, 1, none⟩ = some (.slice none 0 0) := cell_of_row W4 _ 1 _ _ (0, 0) hr4
      have f0 : W4.frozen? ⟨w.heap.size, 0, none⟩ = false := frozen_of_row W4 _ 0 _ _ hr4
      have f1 : W4.frozen? ⟨w.heap.size, 1, none⟩ = false := frozen_of_row W4 _ 1 _ _ hr4
      have hgn : g ≠ w.heap.size := by omega
      have hw1 : w.heap.size < w1.heap.size := by omega
      have hgb : ∀ b, w1.heap.size ≤ b → b ≠ g := fun b h1 => by omega
      have HO14 : Hid (OwnD 53 W4 w1.heap.size (.slice A1 n1 c1) r.1) := Lib.hid (HO13.out.stay (fun b h1 h2 => hne4 b (hgb b h1)))
      have HO24 : Hid (OwnD 55 W4 w1.heap.size (.slice A2 n2 c2) r.2.1) := Lib.hid (HO23.out.stay (fun b h1 h2 => hne4 b (hgb b h1)))
      have HRf := Lib.hid (Joins.block_setCell (Joins.block_setCell hr4 (i := 0) (.slice A1 n1 c1)) (i := 1) (.slice A2 n2 c2))
      have hWe := hW4.out.symm
      clear hr4 hne4
      go_upto_region 10 with fail
      clear hWe
      go_wp2
      have p0 := cell_of_row _ _ 0 _ _ (0, 0) HRf.out
      have p1 := cell_of_row _ _ 1 _ _ (0, 0) HRf.out
      simp at p0 p1
      refine bodyPost_ret (v := .tuple #[.agg #[.slice A1 n1 c1, .slice A2 n2 c2], .int .i64 0]) (by simp [results, Try.results13, go_sem, p0, p1]) rfl ?_
      refine Or.inl ⟨hy, HOK.out, A1, A2, n1, n2, c1, c2, rfl, ?_, ?_, ?_, ?_⟩
      · exact (HO14.out.stay (fun b h1 h2 => (Below.heap_setCell _ _ _ _ (by show b ≠ w.heap.size; omega)).trans (Below.heap_setCell _ _ _ _ (by show b ≠ w.heap.size; omega)))).base_le (by omega)
      · exact (HO24.out.stay (fun b h1 h2 => (Below.heap_setCell _ _ _ _ (by show b ≠ w.heap.size; omega)).trans (Below.heap_setCell _ _ _ _ (by show b ≠ w.heap.size; omega)))).base_le (by omega)
      · exact HG4.out.keep ((Below.heap_setCell _ _ _ _ hgn).trans (Below.heap_setCell _ _ _ _ hgn))
      · exact (HK4.out.put (.inl (Nat.le_refl _))).put (.inl (Nat.le_refl _))
  · have t0 : (r.2.2.2 == 0) = false := by simpa using hy
    have t1 : (r.2.2.2 != 0) = true := by simpa using hy
    have q0 : W2.cell? ⟨w.heap.size, 0, none⟩ = some (.slice none 0 0) := cell_of_row W2 _ 0 _ _ (0, 0) HR2.out
    have q1 : W2.cell? ⟨w.heap.size, 1, none⟩ = some (.slice none 0 0) := cell_of_row W2 _ 1 _ _ (0, 0) HR2.out
    have f0 : W2.frozen? ⟨w.heap.size, 0, none⟩ = false := frozen_of_row W2 _ 0 _ _ HR2.out
    have f1 : W2.frozen? ⟨w.heap.size, 1, none⟩ = false := frozen_of_row W2 _ 1 _ _ HR2.out
    have HRf := Lib.hid (Joins.block_setCell (Joins.block_setCell HR2.out (i := 0) (.slice none 0 0)) (i := 1) (.slice none 0 0))
    go_wp2
    have p0 := cell_of_row _ _ 0 _ _ (0, 0) HRf.out
    have p1 := cell_of_row _ _ 1 _ _ (0, 0) HRf.out
    simp at p0 p1
    refine bodyPost_ret (v := .tuple #[.agg #[.slice none 0 0, .slice none 0 0], .int .i64 r.2.2.2]) (by simp [results, Try.results13, go_sem, p0, p1]) rfl ?_
    refine Or.inr ⟨r.2.2.2, hy, .inl ⟨hy, rfl⟩, rfl, ?_⟩
    exact (HK2.out.setCell (Nat.le_refl _) _).setCell (Nat.le_refl _) _
end Go.Proofs.Ytnlohijpcnoamaa
namespace Go.Proofs.Ytnlohijpcnoamaa
open Go.RowKit Go.Sort Go.BigFrame
open Go.Lib (byteCells byteCells_length byteCells_append strCells strCells_eq)

theorem rd_none (w : World) (lo hi : Nat) : Rd w lo hi (.slice none 0 0) [] := ⟨none, 0, rfl, Nat.le_refl _, fun h => by simp at h⟩
theorem rdA_take {w : World} {lo hi : Nat} {A : Option Addr} {xs : List UInt8} (h : RdA w lo hi A xs) (k : Nat) : RdA w lo hi A (xs.take k) := fun h0 => by
  obtain ⟨ad, e, h1, h2, h3⟩ := h (by rw [List.length_take] at h0; omega)
  refine ⟨ad, e, h1, h2, fun j u hu => h3 j u ?_⟩
  have e2 : Go.Lib.byteCells (xs.take k) = (Go.Lib.byteCells xs).take k := by simp [Go.Lib.byteCells, List.map_take]
  rw [e2, List.getElem?_take] at hu
  split at hu
  · exact hu
  · cases hu
theorem okC_fit {ms ds : List DotA} (h : OkC ms ds) : (∀ d ∈ ms, Fit d) ∧ ∀ d ∈ ds, Fit d := by
  refine ⟨fun d hd => ?_, fun d hd => ?_⟩
  · obtain ⟨j, hj⟩ := List.mem_iff_getElem?.1 hd
    exact fit_of_may (h.2.2.1.1 j d hj)
  · obtain ⟨j, hj⟩ := List.mem_iff_getElem?.1 hd
    exact fit_of_may (h.2.2.2.1 j d hj).1
theorem codeC_short {ms ds : List DotA} (h : OkC ms ds) : (codeC ms ds).length ≤ 1048576 := by
  have h1 := dotsN_short (ds := ms) ms.length h.1
  have h2 := dotsN_short (ds := ds) ds.length h.2.1
  rw [List.take_length] at h1 h2
  have h3 := num_length ms.length
  have h4 := num_length ds.length
  unfold codeC
  simp only [List.length_append]
  omega

set_option maxRecDepth 100000 in
set_option maxHeartbeats 12800000 in
theorem causalBack_walk (va vk vb vh : Value) (a k : List DotA) (bs hs : List UInt8) (w : World) (ha : RdD w va a) (hk : RdD w vk k) (hb : Rd w 0 w.heap.size vb bs) (hh : Rd w 0 w.heap.size vh hs)
    (l1 : a.length ≤ 1048576) (l2 : k.length ≤ 1048576) (l3 : bs.length ≤ 1048576) (l4 : hs.length ≤ 1048576) :
    Calls Try.prog 4 #[va, vk, vb, vh] w fun e w' => e = .returned (.bool true) ∧ Below w.heap.size w w' := by
  obtain ⟨B, cb, rfl, hcb, hbx⟩ := hb
  obtain ⟨H, ch, rfl, hch, hhx⟩ := hh
  have H1 := Lib.hid (one_ref va vk a k w ha hk l1 l2)
  obtain ⟨nb, hnb⟩ : ∃ n, Hid (n = bs.length) := ⟨_, Lib.hid rfl⟩
  obtain ⟨nh, hnh⟩ : ∃ n, Hid (n = hs.length) := ⟨_, Lib.hid rfl⟩
  have HBX := Lib.hid hbx
  have HHX := Lib.hid hhx
  rw [← hnb.out] at hcb l3 ⊢
  rw [← hnh.out] at hch l4 ⊢
  clear ha hk hbx hhx
  go_enter Try.func4, Try.ntmps4
  go_wp2_with fail
  (with_reducible refine H1.out.mono ?_); rintro e w1 ⟨cm, cd, okc, cv, cv', rfl, hcm, hcd, hb1⟩
  have HB1 := Lib.hid hb1
  have OKC := Lib.hid okc
  have hsh := codeC_short okc
  obtain ⟨A1, c1, rfl⟩ := ownD_slice hcm
  obtain ⟨A2, c2, rfl⟩ := ownD_slice hcd
  obtain ⟨n1, hn1⟩ : ∃ n, Hid (n = cm.length) := ⟨_, Lib.hid rfl⟩
  obtain ⟨n2, hn2⟩ : ∃ n, Hid (n = cd.length) := ⟨_, Lib.hid rfl⟩
  rw [← hn1.out] at hcm ⊢
  rw [← hn2.out] at hcd ⊢
  obtain ⟨W1, hW1⟩ : ∃ W1, Hid (W1 = w1.alloc (.cells #[.slice A1 n1 c1, .slice A2 n2 c2] 25)) := ⟨_, Lib.hid rfl⟩
  have hbk : BK W1 w1.heap.size (.slice A1 n1 c1) (.slice A2 n2 c2) cm cd := by rw [hW1.out]; exact BK.made _ hcm hcd
  have hbw : Below w.heap.size w W1 := by rw [hW1.out]; exact below_alloc hb1
  have HBK := Lib.hid hbk
  have HBW := Lib.hid hbw
  obtain ⟨xs, hxs⟩ : ∃ xs, Hid (xs = codeC cm cd) := ⟨_, Lib.hid rfl⟩
  rw [← hxs.out] at hsh
  have HE := Lib.hid (encode_any (.slice none 0 0) (.agg #[.slice A1 n1 c1, .slice A2 n2 c2]) [] cm cd W1 (rd_none _ _ _) (by simp) hbk.rd (by have := okc.1; omega) (by have := okc.2.1; omega))
  have k0 := hbk.c0
  have k1 := hbk.c1
  have hWe := hW1.out.symm
  clear hcm hcd hbk hbw okc hb1 H1
  go_upto_region 2 with fail
  clear hWe
  go_wp2_with fail
  (with_reducible refine HE.out.mono ?_); rintro e w2 (⟨_, v2, rfl, hown2, hb2⟩ | ⟨hno, _⟩)
  case inr => exact absurd OKC.out hno
  rw [List.nil_append, ← hxs.out] at hown2
  have HB2 := Lib.hid hb2
  have HCL := Lib.hid (clone_any v2 xs w2 (hown2.rd.mono (Nat.zero_le _) (Nat.le_refl _)) (by omega))
  clear hown2 hb2 HE k0 k1
  go_wp2_with fail
  (with_reducible refine HCL.out.mono ?_); rintro e w3 ⟨v3, rfl, hown3, hb3⟩
  have b13 : Below W1.heap.size W1 w3 := below_next HB2.out hb3
  have b03 : Below w.heap.size w w3 := below_next HBW.out b13
  have hhx3 : RdA w3 0 w.heap.size H hs := HHX.out.keep fun p _ hp => b03.cell hp
  have hs23 : w2.heap.size ≤ w3.heap.size := hb3.size
  go_wp2_with (at_builtin; refine wpList_append_rd _ rfl (.tmp 26) (.tmp 27) rfl rfl hown3 rfl hnh.out hhx3 ?_ hs23 ?_)
  case _ => have := hnh.out; omega
  intro v4 w4 hown4 hg4 _
  obtain ⟨ys, hys⟩ : ∃ ys, Hid (ys = xs ++ hs) := ⟨_, Lib.hid rfl⟩
  rw [← hys.out] at hown4
  have hly : Hid (ys.length = xs.length + nh) := Lib.hid (by rw [hys.out, hnh.out, List.length_append])
  have b14 : Below W1.heap.size W1 w4 := b13.grown hg4 b13.size (fun k hk => Nat.le_trans HB2.out.size (hown3.lt k hk).1)
  have HB14 := Lib.hid b14
  have HOV := Lib.hid (over_any v4 ys w4 (hown4.rd.mono (Nat.zero_le _) (Nat.le_refl _)) (by have := hly.out; omega))
  clear hown3 hown4 hb3 b13 b03 hhx3 hs23 hg4 b14 HCL
  go_wp2_with fail
  (with_reducible refine HOV.out.mono ?_); rintro e w5 ⟨g, D, cD, rfl, hg, hrd, hrx, hb5⟩
  have hcode : ys.drop 0 = codeC cm cd ++ hs := by rw [List.drop_zero, hys.out, hxs.out]
  have HRS : Hid (readS ys 0 0 = (cm, cd, xs.length, 0)) := Lib.hid (by
    rw [readS_code hcode (okC_fit OKC.out).1 (okC_fit OKC.out).2 OKC.out.1 OKC.out.2.1, Nat.zero_add, hxs.out])
  have hlt5 := hrd.lt
  have HDC := Lib.hid (decode_any w5 g D cD ys 0 hrd (hrx.mono (Nat.zero_le _) (Nat.le_of_lt hlt5)))
  rw [HRS.out] at HDC
  have HB15 := Lib.hid (below_next HB14.out hb5)
  have hgW : W1.heap.size ≤ g := by have := HB14.out.size; omega
  clear hrd hrx hb5 hcode HOV
  go_wp2_with fail
  (with_reducible refine HDC.out.mono ?_); rintro e w6 (⟨_, _, A3, A4, n3, n4, c3, c4, rfl, o1, o2, hr6, kk6⟩ | ⟨y, _, hy | ⟨_, hy, _⟩, _⟩)
  case inr.inl => exact absurd rfl hy.1
  case inr.inr => exact absurd OKC.out hy
  have hz5 := HB15.out.size
  have hz6 := kk6.size
  have HB16 : Hid (Below W1.heap.size W1 w6) := Lib.hid (HB15.out.trans (kk6.below hgW hgW hz5))
  obtain ⟨W6, hW6⟩ : ∃ W6, Hid (W6 = w6.alloc (.cells #[.slice A3 n3 c3, .slice A4 n4 c4] 25)) := ⟨_, Lib.hid rfl⟩
  have hbk6 : BK W6 w6.heap.size (.slice A3 n3 c3) (.slice A4 n4 c4) cm cd := by rw [hW6.out]; exact BK.made _ o1 o2
  have HBK6 := Lib.hid hbk6
  have HBE6 : Hid (Below w6.heap.size w6 W6) := Lib.hid (by rw [hW6.out]; exact below_alloc (Below.refl _ _))
  have HB1W := Lib.hid (below_next HB16.out HBE6.out)
  have HR6 := Lib.hid (hr6.keep (HBE6.out.block g (by omega)))
  have hWe := hW6.out.symm
  have row6 : W6.heap[w6.heap.size]? = some (.cells #[.slice A3 n3 c3, .slice A4 n4 c4] 25 (0, 0)) := by rw [hW6.out]; exact heap_alloc_new w6 _
  have HROW6 := Lib.hid row6
  have hgl6 : g < w6.heap.size := by omega
  have hltW6 : w6.heap.size < W6.heap.size := hbk6.lt
  clear o1 o2 hr6 kk6 hbk6 HDC row6
  go_upto_region 7 with fail
  clear hWe
  have HBKc := Lib.hid (HBK.out.below HB1W.out)
  have q0 := HBKc.out.c0
  have q1 := HBKc.out.c1
  have q2 := HBK6.out.c0
  have q3 := HBK6.out.c1
  have HS := Lib.hid (same_any (.agg #[.slice A1 n1 c1, .slice A2 n2 c2]) (.agg #[.slice A3 n3 c3, .slice A4 n4 c4]) cm cd cm cd W6 HBKc.out.rd HBK6.out.rd (by have := OKC.out.1; omega) (by have := OKC.out.2.1; omega))
  go_wp2_with fail
  (with_reducible refine HS.out.mono ?_); rintro e w7 ⟨b, rfl, hbi, hb7⟩
  obtain rfl : b = true := hbi.2 (by simp)
  have HB7 := Lib.hid hb7
  have hr7 := HR6.out.keep (hb7.block g (by omega))
  have HR7 := Lib.hid hr7
  have HL := left_made g D cD ys _ w7 hr7
  rw [show (ys.length : Int) - (xs.length : Int) = (nh : Int) by have := hly.out; omega] at HL
  replace HL := Lib.hid HL
  clear hbi hb7 hr7 q0 q1 q2 q3 HS
  go_wp2_with fail
  (with_reducible refine HL.out.mono ?_); rintro e w8 ⟨rfl, j, rfl⟩
  have b08 : Below w.heap.size w (w7.drewN j) := below_drewN (below_next HBW.out (below_next HB1W.out HB7.out)) j
  have HB08 := Lib.hid b08
  have tl : ((nh : Int) != (nh : Int)) = false := by simp
  have row8 : (w7.drewN j).heap[w6.heap.size]? = some (.cells #[.slice A3 n3 c3, .slice A4 n4 c4] 25 (0, 0)) := (HB7.out.block _ hltW6).trans HROW6.out
  have HROW8 := Lib.hid row8
  have hz8 : w6.heap.size < (w7.drewN j).heap.size := Nat.lt_of_lt_of_le hltW6 HB7.out.size
  have HOV2 := Lib.hid (over_any (.slice B nb cb) bs (w7.drewN j) ⟨B, cb, by rw [hnb.out], by rw [← hnb.out]; exact hcb, (HBX.out.keep fun p _ hp => b08.cell hp).mono (Nat.le_refl _) b08.size⟩ (by rw [← hnb.out]; omega))
  have hwz6 : w.heap.size ≤ w6.heap.size := by have := HBW.out.size; have := HB16.out.size; omega
  clear b08 row8 HL
  obtain ⟨W8, hW8⟩ : ∃ W8, W8 = w7.drewN j := ⟨_, rfl⟩
  rw [← hW8] at HB08 HROW8 hz8 HOV2 ⊢
  clear hW8
  go_wp2_with fail
  (with_reducible refine HOV2.out.mono ?_); rintro e w9 ⟨g2, D2, cD2, rfl, hg2, hrd2, hrx2, hb9⟩
  have hlt9 := hrd2.lt
  have HDC2 := Lib.hid (decode_any w9 g2 D2 cD2 bs 0 hrd2 (hrx2.mono (Nat.zero_le _) (Nat.le_of_lt hlt9)))
  have HB09 := Lib.hid (below_next HB08.out hb9)
  have HROW9 := Lib.hid ((hb9.block _ hz8).trans HROW8.out)
  have HR9 := Lib.hid hrd2
  have hz9 := hb9.size
  have HBACK := Lib.hid (fun h => @readS_back bs 0 0 h)
  obtain ⟨r, hr⟩ : ∃ r, Hid (r = readS bs 0 0) := ⟨_, Lib.hid rfl⟩
  rw [← hr.out] at HDC2 HBACK
  clear hrd2 hrx2 hb9 HOV2
  go_wp2_with fail
  (with_reducible refine HDC2.out.mono ?_); rintro e w10 (⟨hy0, hok, A5, A6, n5, n6, c5, c6, rfl, o5, o6, hr10, kk10⟩ | ⟨y, hy, _, rfl, hb10⟩)
  · have hz10 := kk10.size
    have HOK := Lib.hid hok
    have HB010 : Hid (Below w.heap.size w w10) := Lib.hid (HB09.out.trans (kk10.below (by omega) (by omega) (by omega)))
    have row10 := (kk10.block _ (by omega) (by omega) (by omega)).trans HROW9.out
    have q0 : w10.cell? ⟨w6.heap.size, 0, none⟩ = some (.slice A3 n3 c3) := cell_of_row w10 _ 0 _ _ (0, 0) row10
    have q1 : w10.cell? ⟨w6.heap.size, 1, none⟩ = some (.slice A4 n4 c4) := cell_of_row w10 _ 1 _ _ (0, 0) row10
    have f0 : w10.frozen? ⟨w6.heap.size, 0, none⟩ = false := frozen_of_row w10 _ 0 _ _ row10
    have f1 : w10.frozen? ⟨w6.heap.size, 1, none⟩ = false := frozen_of_row w10 _ 1 _ _ row10
    obtain ⟨W10, hW10⟩ : ∃ W, Hid (W = (w10.setCell ⟨w6.heap.size, 0, none⟩ (.slice A5 n5 c5)).setCell ⟨w6.heap.size, 1, none⟩ (.slice A6 n6 c6)) := ⟨_, Lib.hid rfl⟩
    have hne10 : ∀ b, b ≠ w6.heap.size → W10.heap[b]? = w10.heap[b]? := fun b hb => by
      rw [hW10.out]
      exact (Below.heap_setCell _ _ _ _ hb).trans (Below.heap_setCell _ _ _ _ hb)
    have hszW10 : W10.heap.size = w10.heap.size := by rw [hW10.out]; simp [World.setCell]
    have HB0W : Hid (Below w.heap.size w W10) := Lib.hid (by rw [hW10.out]; exact (HB010.out.setCell hwz6 _).setCell hwz6 _)
    have hrW := hr10.keep (hne10 g2 (by omega))
    have HRW := Lib.hid hrW
    have hrow : W10.heap[w6.heap.size]? = some (.cells #[.slice A5 n5 c5, .slice A6 n6 c6] 25 (0, 0)) := by
      rw [hW10.out]
      exact (Joins.block_setCell (Joins.block_setCell row10 (i := 0) (.slice A5 n5 c5)) (i := 1) (.slice A6 n6 c6)).trans (by simp)
    have k0 : W10.cell? ⟨w6.heap.size, 0, none⟩ = some (.slice A5 n5 c5) := cell_of_row W10 _ 0 _ _ (0, 0) hrow
    have k1 : W10.cell? ⟨w6.heap.size, 1, none⟩ = some (.slice A6 n6 c6) := cell_of_row W10 _ 1 _ _ (0, 0) hrow
    have o5' : OwnD 53 W10 w9.heap.size (.slice A5 n5 c5) r.1 := o5.stay (fun b h1 h2 => hne10 b (by omega))
    have o6' : OwnD 55 W10 w9.heap.size (.slice A6 n6 c6) r.2.1 := o6.stay (fun b h1 h2 => hne10 b (by omega))
    have HE2 := Lib.hid (encode_any (.slice none 0 0) (.agg #[.slice A5 n5 c5, .slice A6 n6 c6]) [] r.1 r.2.1 W10 (rd_none _ _ _) (by simp) (o5'.rdC o6') (by have := hok.1; omega) (by have := hok.2.1; omega))
    obtain ⟨_, _, hseg⟩ := HBACK.out hy0
    have hq : r.2.2.1 ≤ nb := by rw [hnb.out]; exact hr10.le
    have HSEG : Hid (codeC r.1 r.2.1 = bs.take r.2.2.1) := Lib.hid (by rw [hseg]; unfold seg; rw [List.drop_zero, Nat.sub_zero])
    obtain ⟨q, hqe⟩ : ∃ q, Hid (q = r.2.2.1) := ⟨_, Lib.hid rfl⟩
    rw [← hqe.out] at HSEG hq HRW hrW
    have hql : (bs.take q).length = q := by rw [List.length_take, ← hnb.out]; omega
    have hWe := hW10.out.symm
    clear o5 o6 o5' o6' hrow row10 hok kk10 hr10 hrW hseg HDC2 hy0
    go_upto_region 11 with fail
    clear hWe f0 f1 q0 q1
    go_wp2_with fail
    (with_reducible refine HE2.out.mono ?_); rintro e w11 (⟨_, v11, rfl, hown11, hb11⟩ | ⟨hno, _⟩)
    case inr => exact absurd HOK.out hno
    rw [List.nil_append, HSEG.out] at hown11
    have HB11 := Lib.hid (below_next HB0W.out hb11)
    have HAT := Lib.hid (at_made g2 D2 cD2 bs q w11 (HRW.out.keep (hb11.block g2 (by omega))))
    have HO11 := Lib.hid hown11
    have hqc : (q : Int) ≤ (cb : Int) := by omega
    have HEQ := Lib.hid (fun n => equal_same v11 (.slice B q cb) (bs.take q) _ _ _ _ (w11.drewN n) (hown11.rd.drewN n) ⟨B, cb, by rw [hql], by omega, rdA_take ((HBX.out.keep fun p _ hp => (below_drewN HB11.out n).cell hp)) q⟩ (by omega))
    clear hown11 hb11 HE2 k0 k1
    go_wp2_with fail
    (with_reducible refine HAT.out.mono ?_); rintro e w12 ⟨rfl, j12, rfl⟩
    go_wp2_with fail
    (with_reducible refine (HEQ.out _).mono ?_); rintro e w13 ⟨rfl, j13, rfl⟩
    go_wp2
    go_ret
    exact ⟨rfl, below_drewN HB11.out _⟩
  · have t1 : (y != 0) = true := by simpa using hy
    have row10 := (hb10.block _ (by omega)).trans HROW9.out
    have q0 : w10.cell? ⟨w6.heap.size, 0, none⟩ = some (.slice A3 n3 c3) := cell_of_row w10 _ 0 _ _ (0, 0) row10
    have q1 : w10.cell? ⟨w6.heap.size, 1, none⟩ = some (.slice A4 n4 c4) := cell_of_row w10 _ 1 _ _ (0, 0) row10
    have f0 : w10.frozen? ⟨w6.heap.size, 0, none⟩ = false := frozen_of_row w10 _ 0 _ _ row10
    have f1 : w10.frozen? ⟨w6.heap.size, 1, none⟩ = false := frozen_of_row w10 _ 1 _ _ row10
    have HB010 := Lib.hid (below_next HB09.out hb10)
    obtain ⟨W10, hW10⟩ : ∃ W, Hid (W = (w10.setCell ⟨w6.heap.size, 0, none⟩ (.slice none 0 0)).setCell ⟨w6.heap.size, 1, none⟩ (.slice none 0 0)) := ⟨_, Lib.hid rfl⟩
    have HB0W : Hid (Below w.heap.size w W10) := Lib.hid (by rw [hW10.out]; exact (HB010.out.setCell hwz6 _).setCell hwz6 _)
    have hrW : Rdr W10 g2 D2 cD2 bs 0 := HR9.out.keep (by
      rw [hW10.out]
      exact ((Below.heap_setCell _ _ _ _ (by show g2 ≠ w6.heap.size; omega)).trans (Below.heap_setCell _ _ _ _ (by show g2 ≠ w6.heap.size; omega))).trans (hb10.block g2 hlt9))
    have HAT := Lib.hid (at_made g2 D2 cD2 bs 0 W10 hrW)
    have hWe := hW10.out.symm
    clear hrW row10 hb10 HDC2
    go_upto_region 11 with fail
    clear hWe f0 f1 q0 q1
    go_wp2_with fail
    (with_reducible refine HAT.out.mono ?_); rintro e w12 ⟨rfl, j12, rfl⟩
    go_wp2
    go_ret
    exact ⟨rfl, below_drewN HB0W.out _⟩
end Go.Proofs.Ytnlohijpcnoamaa
namespace Go.Proofs.Ytnlohijpcnoamaa
open Go.RowKit Go.Sort Go.BigFrame
open Go.Lib (byteCells byteCells_length)

/-- A row of one's own, or a slice without room. -/
def OwnE (T : TypeId) (w : World) (base : Nat) (v : Value) (xs : List DotA) (r : Option Nat) : Prop :=
  (OwnD T w base v xs ∧ r = _root_.Go.Value.ownBlock v) ∨ (xs = [] ∧ r = none ∧ ∃ g, v = .slice (some ⟨g, 0, none⟩) 0 0)
theorem OwnE.rd {T : TypeId} {w : World} {base : Nat} {v : Value} {xs : List DotA} {r : Option Nat} (h : OwnE T w base v xs r) : RdD w v xs := by
  rcases h with ⟨h, _⟩ | ⟨rfl, _, g, rfl⟩
  · exact h.rd
  · exact ⟨some ⟨g, 0, none⟩, 0, rfl, Nat.le_refl _, fun j d hd => by simp at hd⟩
theorem OwnE.lt {T : TypeId} {w : World} {base : Nat} {v : Value} {xs : List DotA} {r : Option Nat} (h : OwnE T w base v xs r) {g : Nat} (hr : r = some g) : base ≤ g ∧ g < w.heap.size := by
  rcases h with ⟨h, e⟩ | ⟨_, e, _⟩
  · exact World.ownsRow.lt h g (e ▸ hr)
  · rw [e] at hr; cases hr
theorem OwnE.keep {T : TypeId} {w w' : World} {base : Nat} {v : Value} {xs : List DotA} {r : Option Nat} (h : OwnE T w base v xs r) (hs : ∀ g, r = some g → w'.heap[g]? = w.heap[g]?) : OwnE T w' base v xs r := by
  rcases h with ⟨h, e⟩ | ⟨e1, e2, g, e3⟩
  · exact .inl ⟨ownD_of_block h fun g eg => hs g (e ▸ eg), e⟩
  · exact .inr ⟨e1, e2, g, e3⟩
/-- The row r has turned, blocks have come: nothing else. -/
def Grown2 (w w' : World) (r : Option Nat) : Prop := w.grownBy w' r
theorem run_append_empty {T ST : TypeId} (ht : Try.prog.underlying ST = some (.slice T)) (hT : (Try.prog.info? T).map (fun i => (i.zero, i.size, i.bytes)) = some (some (.agg #[.int .i64 0, .int .i64 0, .int .i64 0]), 3, 24))
    (w : World) (ty : TypeId) (g : Nat) (a : Addr) (n c : Nat) (hn : n ≠ 0) (hn2 : n ≤ 1099511627776) :
    (Builtin.append_ #[ST, ST] ty #[.slice (some ⟨g, 0, none⟩) 0 0, .slice (some a) n c]).run Try.prog w = (Builtin.append_ #[ST, ST] ty #[.slice none 0 0, .slice (some a) n c]).run Try.prog w := by
  obtain ⟨i0, hi0, hz0, hz1, hz2⟩ := info_parts hT
  have hb : ¬ (281474976710656 < Builtin.nextslicecap n 0 * i0.bytes) := Nat.not_lt.2 (growslice_fits (by omega) (by rw [hz2]; omega))
  simp [Builtin.append_, run_underlying ht, sizeOf, typeInfo, hi0, Builtin.lenOf, Builtin.firstCells, loadCells, loadCellsFrom, hn, hb]
theorem run_append_e {T ST : TypeId} (ht : Try.prog.underlying ST = some (.slice T)) (hT : (Try.prog.info? T).map (fun i => (i.zero, i.size, i.bytes)) = some (some (.agg #[.int .i64 0, .int .i64 0, .int .i64 0]), 3, 24))
    (w : World) (ty : TypeId) {base hi : Nat} {v : Value} {xs ys : List DotA} {r : Option Nat} (hown : OwnE T w base v xs r) {A : Option Addr} {c : Nat} (hr : RdDA w hi A ys)
    (hm : xs.length + ys.length ≤ 1099511627776) (hbase : base ≤ w.heap.size) :
    ∃ A' n' c' w' r', (Builtin.append_ #[ST, ST] ty #[v, .slice A ys.length c]).run Try.prog w = .ok (.slice A' n' c') w' ∧ OwnE T w' base (.slice A' n' c') (xs ++ ys) r' ∧ w.grownBy w' r ∧ (r' = r ∨ r' = none ∨ r' = some w.heap.size) := by
  rcases hown with ⟨h, e⟩ | ⟨rfl, rfl, g, rfl⟩
  · obtain ⟨v', w', h1, h2, h3, h4⟩ := run_append_dots ht hT w ty h (c := c) hr hm hbase
    obtain ⟨A', c', rfl⟩ := ownD_slice h2
    exact ⟨A', _, c', w', _, h1, .inl ⟨h2, rfl⟩, e ▸ h3, by rw [e]; exact h4.elim .inl fun k => .inr (.inr k)⟩
  · obtain ⟨i0, hi0, hz0, hz1, hz2⟩ := info_parts hT
    by_cases h0 : ys = []
    · subst h0
      refine ⟨some ⟨g, 0, none⟩, 0, 0, w, none, ?_, .inr ⟨rfl, rfl, g, rfl⟩, World.grownBy.refl w _, .inl rfl⟩
      cases A <;> simp [Builtin.append_, run_underlying ht, sizeOf, typeInfo, hi0, Builtin.lenOf, Builtin.firstCells, storeCells, loadCells, loadCellsFrom]
    · obtain ⟨y, hy⟩ : ∃ y, ys[0]? = some y := ⟨ys[0]'(List.length_pos_iff.2 h0), List.getElem?_eq_getElem _⟩
      obtain ⟨ad, rfl, _, _⟩ := hr 0 y hy
      have hl0 : ys.length ≠ 0 := fun e => h0 (List.length_eq_zero_iff.1 e)
      obtain ⟨v', w', h1, h2, h3, h4⟩ := run_append_dots ht hT w ty (ownD_nil T w base) (c := c) hr (by simpa using hm) hbase
      obtain ⟨A', c', rfl⟩ := ownD_slice h2
      refine ⟨A', _, c', w', _, (run_append_empty ht hT w ty g ad _ c hl0 (by simp at hm; omega)).trans h1, .inl ⟨h2, rfl⟩, h3, ?_⟩
      rcases h4 with h4 | h4
      · exact .inl h4
      · exact .inr (.inr h4)
/-- Two rows. -/
structure P2 (w0 w : World) (vM vD : Value) (xs ys : List DotA) (rM rD : Option Nat) : Prop where
  bel : Below w0.heap.size w0 w
  om : OwnE 53 w w0.heap.size vM xs rM
  od : OwnE 55 w w0.heap.size vD ys rD
  ap : ∀ g, rM = some g → rD ≠ some g
theorem P2.start (w : World) : P2 w w (.slice none 0 0) (.slice none 0 0) [] [] none none := ⟨Below.refl _ _, .inl ⟨ownD_nil _ _ _, rfl⟩, .inl ⟨ownD_nil _ _ _, rfl⟩, fun g e => by cases e⟩
theorem P2.grow {w0 w w' : World} {vM vD : Value} {xs ys : List DotA} {rM rD : Option Nat} (h : P2 w0 w vM vD xs ys rM rD) (hb : Below w.heap.size w w') : P2 w0 w' vM vD xs ys rM rD :=
  ⟨below_next h.bel hb, h.om.keep fun g e => hb.block g (h.om.lt e).2, h.od.keep fun g e => hb.block g (h.od.lt e).2, h.ap⟩
theorem P2.emptyM {w0 w : World} {vM vD : Value} {ys : List DotA} {rD : Option Nat} (h : P2 w0 w vM vD [] ys none rD) {g : Nat} : P2 w0 w (.slice (some ⟨g, 0, none⟩) 0 0) vD [] ys none rD := ⟨h.bel, .inr ⟨rfl, rfl, g, rfl⟩, h.od, fun g e => by cases e⟩
theorem P2.emptyD {w0 w : World} {vM vD : Value} {xs : List DotA} {rM : Option Nat} (h : P2 w0 w vM vD xs [] rM none) {g : Nat} : P2 w0 w vM (.slice (some ⟨g, 0, none⟩) 0 0) xs [] rM none := ⟨h.bel, h.om, .inr ⟨rfl, rfl, g, rfl⟩, fun _ _ e => by cases e⟩
theorem P2.nextM {w0 w w' : World} {vM vD v' : Value} {xs ys xs' : List DotA} {rM rD r' : Option Nat} (h : P2 w0 w vM vD xs ys rM rD) (ho : OwnE 53 w' w0.heap.size v' xs' r') (hg : w.grownBy w' rM) (hr : r' = rM ∨ r' = none ∨ r' = some w.heap.size) : P2 w0 w' v' vD xs' ys r' rD := by
  refine ⟨h.bel.grown hg h.bel.size fun g e => (h.om.lt e).1, ho, h.od.keep fun g e => hg.block g (h.od.lt e).2 (fun e' => h.ap g e'.symm e), fun g e e' => ?_⟩
  rcases hr with rfl | rfl | rfl
  · exact h.ap g e e'
  · cases e
  · injection e with e
    have := (h.od.lt e').2
    omega
theorem P2.nextD {w0 w w' : World} {vM vD v' : Value} {xs ys ys' : List DotA} {rM rD r' : Option Nat} (h : P2 w0 w vM vD xs ys rM rD) (ho : OwnE 55 w' w0.heap.size v' ys' r') (hg : w.grownBy w' rD) (hr : r' = rD ∨ r' = none ∨ r' = some w.heap.size) : P2 w0 w' vM v' xs ys' rM r' := by
  refine ⟨h.bel.grown hg h.bel.size fun g e => (h.od.lt e).1, h.om.keep fun g e => hg.block g (h.om.lt e).2 (fun e' => h.ap g e e'.symm), ho, fun g e e' => ?_⟩
  rcases hr with rfl | rfl | rfl
  · exact h.ap g e e'
  · cases e'
  · injection e' with e'
    have := (h.om.lt e).2
    omega
theorem step_append_M {ops : Array Oper} {o : Oper} {a : Act} {K : Act → World → Prop} {Q : Exit → Act → World → Prop} {E : Prop} (w : World) (hgd : o.guard = none) (s x : Operand)
    (ho : o.op = .call { callee := .builtin .append, args := #[s, x], argTypes := #[22, 22] }) {w0 : World} {vM vD : Value} {xs ys zs : List DotA} {rM rD : Option Nat} {A : Option Addr} {m c hi : Nat} (hs : a.eval s = vM) (hx : a.eval x = .slice A m c)
    (hp : P2 w0 w vM vD xs ys rM rD) (hr : RdDA w hi A zs) (hm : m = zs.length) (hl : xs.length + zs.length ≤ 1099511627776)
    (h : ∀ A1 n1 c1 w' r', P2 w0 w' (.slice A1 n1 c1) vD (xs ++ zs) ys r' rD → K (a.put o.dst (.slice A1 n1 c1)) w') :
    if Region.wanted o (yielded ops a.tmps) = true then Oper.wp Try.prog o a w K Q else E := by
  have hw : Region.wanted o (yielded ops a.tmps) = true := by simp [Region.wanted, hgd]
  rw [if_pos hw]
  subst hm
  obtain ⟨A', n', c', w', r', hrun, h2, h3, h4⟩ := run_append_e Try.underlying22 infoMark w o.type hp.om (c := c) hr hl hp.bel.size
  unfold Oper.wp execOp
  simp only [ho, resolve, invoke, builtin, Sem.run_bind, Sem.run_pure, Result.andThen_ok, List.map_toArray, List.map_cons, List.map_nil, hs, hx, hrun]
  exact h A' n' c' w' r' (hp.nextM h2 h3 h4)
theorem step_append_D {ops : Array Oper} {o : Oper} {a : Act} {K : Act → World → Prop} {Q : Exit → Act → World → Prop} {E : Prop} (w : World) (hgd : o.guard = none) (s x : Operand)
    (ho : o.op = .call { callee := .builtin .append, args := #[s, x], argTypes := #[23, 23] }) {w0 : World} {vM vD : Value} {xs ys zs : List DotA} {rM rD : Option Nat} {A : Option Addr} {m c hi : Nat} (hs : a.eval s = vD) (hx : a.eval x = .slice A m c)
    (hp : P2 w0 w vM vD xs ys rM rD) (hr : RdDA w hi A zs) (hm : m = zs.length) (hl : ys.length + zs.length ≤ 1099511627776)
    (h : ∀ A1 n1 c1 w' r', P2 w0 w' vM (.slice A1 n1 c1) xs (ys ++ zs) rM r' → K (a.put o.dst (.slice A1 n1 c1)) w') :
    if Region.wanted o (yielded ops a.tmps) = true then Oper.wp Try.prog o a w K Q else E := by
  have hw : Region.wanted o (yielded ops a.tmps) = true := by simp [Region.wanted, hgd]
  rw [if_pos hw]
  subst hm
  obtain ⟨A', n', c', w', r', hrun, h2, h3, h4⟩ := run_append_e Try.underlying23 infoDot w o.type hp.od (c := c) hr hl hp.bel.size
  unfold Oper.wp execOp
  simp only [ho, resolve, invoke, builtin, Sem.run_bind, Sem.run_pure, Result.andThen_ok, List.map_toArray, List.map_cons, List.map_nil, hs, hx, hrun]
  exact h A' n' c' w' r' (hp.nextD h2 h3 h4)
end Go.Proofs.Ytnlohijpcnoamaa
namespace Go.Proofs.Ytnlohijpcnoamaa
open Go.RowKit Go.Sort Go.BigFrame
open Go.Lib (byteCells byteCells_length)

set_option maxRecDepth 100000 in
set_option maxHeartbeats 1600000 in
theorem cloneMark_any (v : Value) (ds : List DotA) (w : World) (h : RdD w v ds) (hl : ds.length ≤ 1099511627776) : Calls Try.prog 24 #[v] w (GivesD 53 ds w) := by
  obtain ⟨A, c, rfl, hc, hx⟩ := h
  obtain ⟨n, hn⟩ : ∃ n, Hid (n = ds.length) := ⟨_, Lib.hid rfl⟩
  rw [← hn.out] at hl hc ⊢
  have he := fun u => Lib.run_eql_slice_nil (P := Try.prog) u 22 53 A n c 0 0 Try.underlying22
  cases A with
  | none =>
    have hb : Hid (ds = []) := Lib.hid (by
      match ds, hx with
      | [], _ => rfl
      | x :: r, hx => obtain ⟨ad, e, _⟩ := hx 0 x rfl; cases e)
    have he : ∀ u : World, (binOp .eql 22 (.slice none n c) (.slice none 0 0)).run Try.prog u = .ok (.bool true) u := fun u => he u
    clear hx
    go_enter Try.func24, Try.ntmps24
    go_wp2
    go_ret
    exact ⟨_, rfl, by rw [hb.out]; exact ownD_nil _ _ _, Below.refl _ _⟩
  | some ad =>
    have he : ∀ u : World, (binOp .eql 22 (.slice (some ad) n c) (.slice none 0 0)).run Try.prog u = .ok (.bool false) u := fun u => he u
    have hown0 : OwnD 53 (w.alloc (.cells #[] 53)) w.heap.size (.slice (some ⟨w.heap.size, 0, none⟩) 0 0) [] := World.ownsRow_made w #[] 0 (Nat.le_refl _) (by decide) (by simp)
    have hx' := hx.below (below_alloc (o := .cells #[] 53) (Below.refl w.heap.size w)) (Nat.le_refl _)
    have HX := Lib.hid hx'
    have HO := Lib.hid hown0
    clear hx hx' hown0
    go_enter Try.func24, Try.ntmps24
    go_wp2_with (at_builtin; refine wpList_append_dots Try.underlying22 infoMark _ rfl (.tmp 5) (.tmp 6) rfl rfl HO.out rfl hn.out HX.out ?_ ?_ ?_)
    case _ => have := hn.out; simp; omega
    case _ => simp
    intro v1 w1 hown1 hg1 hat1
    go_wp2
    go_ret
    exact ⟨_, rfl, by simpa using hown1, (below_alloc (Below.refl _ _)).grown hg1 (by simp) (by simp [Value.ownBlock])⟩

set_option maxRecDepth 100000 in
set_option maxHeartbeats 1600000 in
theorem cloneDot_any (v : Value) (ds : List DotA) (w : World) (h : RdD w v ds) (hl : ds.length ≤ 1099511627776) : Calls Try.prog 25 #[v] w (GivesD 55 ds w) := by
  obtain ⟨A, c, rfl, hc, hx⟩ := h
  obtain ⟨n, hn⟩ : ∃ n, Hid (n = ds.length) := ⟨_, Lib.hid rfl⟩
  rw [← hn.out] at hl hc ⊢
  have he := fun u => Lib.run_eql_slice_nil (P := Try.prog) u 23 55 A n c 0 0 Try.underlying23
  cases A with
  | none =>
    have hb : Hid (ds = []) := Lib.hid (by
      match ds, hx with
      | [], _ => rfl
      | x :: r, hx => obtain ⟨ad, e, _⟩ := hx 0 x rfl; cases e)
    have he : ∀ u : World, (binOp .eql 23 (.slice none n c) (.slice none 0 0)).run Try.prog u = .ok (.bool true) u := fun u => he u
    clear hx
    go_enter Try.func25, Try.ntmps25
    go_wp2
    go_ret
    exact ⟨_, rfl, by rw [hb.out]; exact ownD_nil _ _ _, Below.refl _ _⟩
  | some ad =>
    have he : ∀ u : World, (binOp .eql 23 (.slice (some ad) n c) (.slice none 0 0)).run Try.prog u = .ok (.bool false) u := fun u => he u
    have hown0 : OwnD 55 (w.alloc (.cells #[] 55)) w.heap.size (.slice (some ⟨w.heap.size, 0, none⟩) 0 0) [] := World.ownsRow_made w #[] 0 (Nat.le_refl _) (by decide) (by simp)
    have hx' := hx.below (below_alloc (o := .cells #[] 55) (Below.refl w.heap.size w)) (Nat.le_refl _)
    have HX := Lib.hid hx'
    have HO := Lib.hid hown0
    clear hx hx' hown0
    go_enter Try.func25, Try.ntmps25
    go_wp2_with (at_builtin; refine wpList_append_dots Try.underlying23 infoDot _ rfl (.tmp 5) (.tmp 6) rfl rfl HO.out rfl hn.out HX.out ?_ ?_ ?_)
    case _ => have := hn.out; simp; omega
    case _ => simp
    intro v1 w1 hown1 hg1 hat1
    go_wp2
    go_ret
    exact ⟨_, rfl, by simpa using hown1, (below_alloc (Below.refl _ _)).grown hg1 (by simp) (by simp [Value.ownBlock])⟩

set_option maxRecDepth 100000 in
set_option maxHeartbeats 6400000 in
/-- A copy of a context. -/
theorem context_any (v : Value) (ms ds : List DotA) (w : World) (h : RdC w v ms ds) (hlm : ms.length ≤ 1099511627776) (hld : ds.length ≤ 1099511627776) : Calls Try.prog 7 #[v] w (MadeC ms ds w) := by
  obtain ⟨mv, dv, rfl, hm, hd⟩ := h
  obtain ⟨W, hW⟩ : ∃ W, Hid (W = (w.alloc (.cells #[mv, dv] 25)).alloc (.cells #[.slice none 0 0, .slice none 0 0] 25)) := ⟨_, Lib.hid rfl⟩
  have hb0 : Below w.heap.size w W := by rw [hW.out]; exact below_alloc (below_alloc (Below.refl _ _))
  have hz : W.heap.size = w.heap.size + 2 := by rw [hW.out]; simp
  have hbc : BoxC W w.heap.size mv dv := by
    rw [hW.out]
    exact ⟨cell_up _ (box_cell _ _ _ 0), cell_up _ (box_cell _ _ _ 1)⟩
  have hrow : W.heap[w.heap.size + 1]? = some (.cells #[.slice none 0 0, .slice none 0 0] 25 (0, 0)) := by
    have := heap_alloc_new (w.alloc (.cells #[mv, dv] 25)) (.cells #[.slice none 0 0, .slice none 0 0] 25)
    rw [← hW.out, show (w.alloc (.cells #[mv, dv] 25)).heap.size = w.heap.size + 1 by simp] at this
    exact this
  have HM := Lib.hid (hm.below hb0)
  have HD := Lib.hid (hd.below hb0)
  obtain ⟨A, c, rfl, hc, _⟩ := hd
  obtain ⟨A1, c1, rfl, hc1, _⟩ := hm
  have HS0 := Lib.hid hbc
  have HR1 := Lib.hid hrow
  have HB0 := Lib.hid hb0
  have HLM := Lib.hid hlm
  have HLD := Lib.hid hld
  obtain ⟨n, hn⟩ : ∃ n, Hid (n = ds.length) := ⟨_, Lib.hid rfl⟩
  obtain ⟨n1, hn1⟩ : ∃ n1, Hid (n1 = ms.length) := ⟨_, Lib.hid rfl⟩
  have hWe := hW.out.symm
  rw [← hn.out] at hWe HS0 HD ⊢
  rw [← hn1.out] at hWe HS0 HM ⊢
  have hlt2 : w.heap.size + 1 < W.heap.size := by omega
  have hsW : w.heap.size ≤ W.heap.size := by omega
  clear hb0 hbc hrow hz hc hc1 hlm hld
  go_enter Try.func7, Try.ntmps7
  go_upto_region 1 with fail
  clear hWe
  go_region_held3 (fun w' => w'.cell? ⟨w.heap.size, 0, none⟩ = some (.slice A1 n1 c1) ∧ w'.cell? ⟨w.heap.size, 1, none⟩ = some (.slice A n c))
    (first
      | (refine ⟨cell_on HS0.out.1 ?_, cell_on HS0.out.2 ?_⟩ <;> ((repeat' (first | assumption | exact Below.refl _ _ | refine below_alloc ?_ | refine below_drew ?_)); done))
      | (refine ⟨cell_set (cell_set (cell_on HS0.out.1 ?_) ?_) ?_, cell_set (cell_set (cell_on HS0.out.2 ?_) ?_) ?_⟩ <;> first | exact hbM | exact hbD | (dsimp only; omega) | omega)
      | (refine ⟨cell_set (cell_set (cell_on HS0.out.1 hbD) ?_) ?_, cell_set (cell_set (cell_on HS0.out.2 hbD) ?_) ?_⟩ <;> first | (dsimp only; omega) | omega))
    (first
      | (go_at_call 24
         refine Calls.mono (cloneMark_any (.slice A1 n1 c1) ms _ (HM.out.below ?_) HLM.out) ?_
         · (repeat' (first | assumption | exact Below.refl _ _ | refine below_alloc ?_ | refine below_drew ?_))
         rintro e w3 ⟨vm, rfl, hom, hbm⟩
         have hbM : Below W.heap.size W w3 := by
           refine below_next ?_ hbm
           (repeat' (first | assumption | exact Below.refl _ _ | refine below_alloc ?_ | refine below_drew ?_))
         obtain ⟨A5, c5, rfl⟩ := ownD_slice hom
         obtain ⟨N5, hN5⟩ : ∃ N, Hid (N = ms.length) := ⟨_, Lib.hid rfl⟩
         rw [← hN5.out] at hom ⊢
         have r5 := (hbM.block _ hlt2).trans HR1.out
         have q0 := cell_of_row w3 _ 0 _ _ (0, 0) r5
         have q1 := cell_of_row w3 _ 1 _ _ (0, 0) r5
         have f0 := frozen_of_row w3 _ 0 _ _ r5
         have f1 := frozen_of_row w3 _ 1 _ _ r5)
      | (go_at_call 25
         refine Calls.mono (cloneDot_any (.slice A n c) ds _ (HD.out.below ?_) HLD.out) ?_
         · (repeat' (first | assumption | exact Below.refl _ _ | refine below_alloc ?_ | refine below_drew ?_))
         rintro e w4 ⟨vd, rfl, hod, hbd⟩
         have hbD : Below W.heap.size W w4 := by
           refine below_next ?_ hbd
           (repeat' (first | assumption | exact Below.refl _ _ | refine below_alloc ?_ | refine below_drew ?_))
         obtain ⟨A6, c6, rfl⟩ := ownD_slice hod
         obtain ⟨N6, hN6⟩ : ∃ N, Hid (N = ds.length) := ⟨_, Lib.hid rfl⟩
         rw [← hN6.out] at hod ⊢
         have r6 := (hbD.block _ hlt2).trans HR1.out
         have s0 := cell_of_row w4 _ 0 _ _ (0, 0) r6
         have s1 := cell_of_row w4 _ 1 _ _ (0, 0) r6
         have g0 := frozen_of_row w4 _ 0 _ _ r6
         have g1 := frozen_of_row w4 _ 1 _ _ r6)
      | fail)
  go_wp2
  have hr := Joins.block_setCell (Joins.block_setCell r6 (i := 0) (.slice A5 N5 c5)) (i := 1) (.slice A6 N6 c6)
  have p0 := cell_of_row _ _ 0 _ _ (0, 0) hr
  have p1 := cell_of_row _ _ 1 _ _ (0, 0) hr
  have hm6 : OwnD 53 w4 W.heap.size (.slice A5 N5 c5) ms := hom.below hbd
  have hd6 : OwnD 55 w4 W.heap.size (.slice A6 N6 c6) ds := hod.base_le hbM.size
  have ap2 : Apart (w.heap.size + 1) (.slice A5 N5 c5) := fun g e => by have := (World.ownsRow.lt hm6 g e).1; omega
  have ap3 : Apart (w.heap.size + 1) (.slice A6 N6 c6) := fun g e => by have := (World.ownsRow.lt hd6 g e).1; omega
  refine bodyPost_ret (v := .agg #[.slice A5 N5 c5, .slice A6 N6 c6]) (by simp [results, Try.results7, go_sem, p0, p1]) rfl ⟨_, _, rfl, ?_, ?_, ?_⟩
  · exact ((hm6.setOther ap2 _).setOther ap2 _).base_le hsW
  · exact ((hd6.setOther ap3 _).setOther ap3 _).base_le hsW
  · exact ((HB0.out.trans (hbD.mono hsW)).setCell (show w.heap.size ≤ w.heap.size + 1 by omega) _).setCell (show w.heap.size ≤ w.heap.size + 1 by omega) _
end Go.Proofs.Ytnlohijpcnoamaa
namespace Go.Proofs.Ytnlohijpcnoamaa
open Go.RowKit Go.Sort Go.BigFrame
open Go.Lib (byteCells byteCells_length)

set_option maxRecDepth 100000 in
set_option maxHeartbeats 3200000 in
theorem same3K_any (a a' b b' : Value) (er : Int) (ms ds : List DotA) (w : World) (h : RdC w (.agg #[a, a']) ms ds) (h1 : RdC w (.agg #[b, b']) ms ds) (hlm : ms.length ≤ 1099511627776) (hld : ds.length ≤ 1099511627776) :
    Calls Try.prog 15 #[.agg #[a, a'], .int .i64 er, .agg #[b, b'], .int .i64 er] w fun e w' => e = .returned (.bool true) ∧ Below w.heap.size w w' := by
  obtain ⟨W, hW⟩ : ∃ W, Hid (W = (w.alloc (.cells #[a, a'] 25)).alloc (.cells #[b, b'] 25)) := ⟨_, Lib.hid rfl⟩
  have hb0 : Below w.heap.size w W := by rw [hW.out]; exact below_alloc (below_alloc (Below.refl _ _))
  have HB0 := Lib.hid hb0
  have hbc : BoxC W w.heap.size a a' := by
    rw [hW.out]
    exact ⟨cell_up _ (box_cell _ _ _ 0), cell_up _ (box_cell _ _ _ 1)⟩
  have hba : BoxC W (w.heap.size + 1) b b' := by
    have : BoxC ((w.alloc (.cells #[a, a'] 25)).alloc (.cells #[b, b'] 25)) (w.alloc (.cells #[a, a'] 25)).heap.size b b' := ⟨box_cell _ _ _ 0, box_cell _ _ _ 1⟩
    rw [show (w.alloc (.cells #[a, a'] 25)).heap.size = w.heap.size + 1 by simp] at this
    rw [hW.out]
    exact this
  obtain ⟨l0, l1⟩ := hbc
  obtain ⟨l2, l3⟩ := hba
  have HS := Lib.hid (same_any (.agg #[a, a']) (.agg #[b, b']) ms ds ms ds W (h.below hb0) (h1.below hb0) hlm hld)
  have q1 : (er == er) = true := by simp
  have hWe := hW.out.symm
  clear h h1 hb0
  go_enter Try.func15, Try.ntmps15
  go_upto_region 1 with fail
  clear hWe
  go_wp2_with fail
  (with_reducible refine HS.out.mono ?_); rintro e w1 ⟨t, rfl, hbi, hb1⟩
  obtain rfl : t = true := hbi.2 (by simp)
  have HB1 := Lib.hid (below_next HB0.out hb1)
  clear hbi hb1 HS
  go_wp2
  go_ret
  exact ⟨rfl, HB1.out⟩
end Go.Proofs.Ytnlohijpcnoamaa
namespace Go.Proofs.Ytnlohijpcnoamaa
open Go.RowKit
open Go.Lib (byteCells byteCells_length byteCells_append strCells strCells_eq)

theorem uintR_long (n : Nat) (x : UInt8) (l : List UInt8) (h2 : ¬ x.toNat < 128) : uintR (9 - 8) 8 n (x :: l) = (0, 0, 5) := by
  rw [uintR_more 8 n x l (by omega) h2]; rfl

theorem wrap_acc (n x m : Nat) (h1 : x % 128 * m ≤ 127 * 72057594037927936) (h2 : n < 72057594037927936) : wrap64 ((n : Int) + wrap64 ((x : Int) % 128 * (m : Int))) = ((n + x % 128 * m : Nat) : Int) := by
  have e : ((x : Int) % 128 * (m : Int)) = ((x % 128 * m : Nat) : Int) := by rw [Int.natCast_mul]; rfl
  rw [e, Int.natCast_add]
  unfold wrap64
  omega
theorem tuple3 {a b c a' b' c' : Int} (h1 : a = a') (h2 : b = b') (h3 : c = c') : Ending.returned (.tuple #[.int .i64 a, .int .i64 b, .int .i64 c]) = .returned (.tuple #[.int .i64 a', .int .i64 b', .int .i64 c']) := by rw [h1, h2, h3]

set_option maxRecDepth 100000 in
set_option maxHeartbeats 3200000 in
theorem refUint_any (v : Value) (bs : List UInt8) (lo hi : Nat) (w : World) (h : Rd w lo hi v bs) (hl : bs.length ≤ 1099511627776) :
    Calls Try.prog 73 #[v] w fun e w' => e = .returned (.tuple #[.int .i64 ((uint bs).1 : Int), .int .i64 ((uint bs).2.1 : Int), .int .i64 (uint bs).2.2]) ∧ w = w' := by
  obtain ⟨A, c, rfl, hc, hx⟩ := h
  obtain ⟨r, hr⟩ : ∃ r, Hid (r = uint bs) := ⟨_, Lib.hid rfl⟩
  rw [← hr.out]
  go_enter Try.func73, Try.ntmps73
  go_wp2
  go_loop [5, 6, 11] (fun y b i => ∃ (n m k : Nat), k ≤ 8 ∧ k ≤ bs.length ∧ i = .int .i64 (k : Int) ∧ y = .int .i64 (n : Int) ∧ b = .int .i64 (m : Int) ∧ m = 128 ^ k ∧ n < 128 ^ k ∧ uintR (9 - k) k n (bs.drop k) = r) (fun _ _ i => bs.length - (intOf i).toNat)
  case atStart => exact ⟨0, 1, 0, by omega, by omega, rfl, rfl, rfl, rfl, by omega, hr.out.symm⟩
  case round =>
    obtain ⟨n, m, k, hk, hkl, rfl, rfl, rfl, hm, hn, hun⟩ := hrel
    have hnm : n < m := by omega
    have hmb : m ≤ 72057594037927936 := by rw [hm]; exact Nat.pow_le_pow_right (n := 128) (by decide) hk
    have HM := Lib.hid hm
    have HN := Lib.hid hn
    have HU := Lib.hid hun
    clear hm hn hun
    by_cases hlt : k < bs.length
    · obtain ⟨a, rfl, ha⟩ := hx.at_ hlt
      obtain ⟨x, hxx⟩ : ∃ x, Hid (x = bs[k]) := ⟨_, Lib.hid rfl⟩
      have hdr : Hid (bs.drop k = x :: bs.drop (k + 1)) := Lib.hid (by rw [hxx.out]; exact List.drop_eq_getElem_cons hlt)
      rw [← hxx.out] at ha
      have hxb := byte_lt x
      have HR : Hid (r = uintR (9 - k) k n (x :: bs.drop (k + 1))) := by rw [← hdr.out]; exact HU.out.symm
      have hpb : x.toNat % 128 * m ≤ 127 * 72057594037927936 := Nat.mul_le_mul (by omega) hmb
      have HPB := Lib.hid hpb
      clear hpb
      have hacc := Lib.hid (wrap_acc n x.toNat m HPB.out (by omega))
      by_cases hC : x.toNat < 128
      · by_cases hA : x.toNat = 0
        · by_cases hB : 0 < k
          · have e := Lib.hid (HR.out.trans (uintR_form k n x _ (by omega) ⟨hA, hB⟩))
            have hA' : ((x.toNat : Int) == 0) = true := by simp [hA]
            have HA := Lib.hid hA
            clear HR hA
            by_cases h8 : k = 8
            · have h8' : (((k : Nat) : Int) == 8) = true := by simp [h8]
              clear h8
              go_wp2
              refine bodyPost_ret (results_tmp3 rfl _ _ _) rfl ?_
              exact ⟨by rw [e.out]; rfl, rfl⟩
            · have h8' : (((k : Nat) : Int) == 8) = false := by simp; omega
              go_wp2
              refine bodyPost_ret (results_tmp3 rfl _ _ _) rfl ?_
              exact ⟨by rw [e.out]; rfl, rfl⟩
          · have e := Lib.hid (HR.out.trans (uintR_last k n x _ (by omega) (by omega) hC))
            have hA' : ((x.toNat : Int) == 0) = true := by simp [hA]
            have h8' : (((k : Nat) : Int) == 8) = false := by simp; omega
            have HA := Lib.hid hA
            clear HR hA
            go_wp2
            refine bodyPost_ret (results_tmp3 rfl _ _ _) rfl ?_
            exact ⟨tuple3 (by rw [e.out, hacc.out, HM.out]) (by rw [e.out]; go_num) (by rw [e.out]), rfl⟩
        · have e := Lib.hid (HR.out.trans (uintR_last k n x _ (by omega) (by omega) hC))
          have hA' : ((x.toNat : Int) == 0) = false := by simp; omega
          clear HR
          by_cases h8 : k = 8
          · have h8' : (((k : Nat) : Int) == 8) = true := by simp [h8]
            clear h8
            go_wp2
            refine bodyPost_ret (results_tmp3 rfl _ _ _) rfl ?_
            exact ⟨tuple3 (by rw [e.out, hacc.out, HM.out]) (by rw [e.out]; go_num) (by rw [e.out]), rfl⟩
          · have h8' : (((k : Nat) : Int) == 8) = false := by simp; omega
            go_wp2
            refine bodyPost_ret (results_tmp3 rfl _ _ _) rfl ?_
            exact ⟨tuple3 (by rw [e.out, hacc.out, HM.out]) (by rw [e.out]; go_num) (by rw [e.out]), rfl⟩
      · by_cases h8 : k = 8
        · have e : Hid (r = (0, 0, 5)) := Lib.hid (by have e := HR.out; rw [h8] at e; exact e.trans (uintR_long n x _ hC))
          have h8' : (((k : Nat) : Int) == 8) = true := by simp [h8]
          clear h8
          clear HR
          go_wp2
          refine bodyPost_ret (results_tmp3 rfl _ _ _) rfl ?_
          exact ⟨by rw [e.out]; rfl, rfl⟩
        · have e := Lib.hid (HR.out.trans (uintR_more k n x _ (by omega) hC))
          have h8' : (((k : Nat) : Int) == 8) = false := by simp; omega
          have hm3 : k ≤ 7 := by omega
          have hm2 : m ≤ 562949953421312 := by
            have h7 : 128 ^ k ≤ 128 ^ 7 := Nat.pow_le_pow_right (by decide) hm3
            rw [HM.out]; exact h7
          have hs := Lib.hid (sum_lt n k (x.toNat % 128) HN.out (by omega))
          clear HR
          go_wp2
          go_round
          case rel => exact ⟨_, m * 128, k + 1, by omega, by omega, by go_num, val_int hacc.out, by go_num, by rw [Nat.pow_succ, HM.out], by rw [HM.out]; exact hs.out, by rw [HM.out]; exact e.out.symm⟩
          case measure => simp [intOf]; omega
    · have e2 : Hid (r = (0, 0, 2)) := Lib.hid (by rw [← HU.out, List.drop_of_length_le (by omega)]; exact uintR_nil k n (by omega))
      go_wp2
      refine bodyPost_ret (results_tmp3 rfl _ _ _) rfl ?_
      exact ⟨by rw [e2.out]; rfl, rfl⟩
end Go.Proofs.Ytnlohijpcnoamaa
namespace Go.Proofs.Ytnlohijpcnoamaa
open Go.RowKit
open Go.Lib (byteCells byteCells_length byteCells_append strCells strCells_eq)

/-- The document's own reader lies in block g: over these bytes, p of them read. -/
structure XRd (w : World) (g : Nat) (A : Option Addr) (c : Nat) (bs : List UInt8) (p : Nat) : Prop where
  block : w.heap[g]? = some (.cells #[.slice A bs.length c, .int .i64 (p : Int)] 37 (0, 0))
  le : p ≤ bs.length
  cap : bs.length ≤ c
  small : bs.length ≤ 1099511627776

theorem XRd.cell {w : World} {g : Nat} {A : Option Addr} {c : Nat} {bs : List UInt8} {p : Nat} (h : XRd w g A c bs p) (i : Nat) : w.cell? ⟨g, i, none⟩ = (#[Value.slice A bs.length c, .int .i64 (p : Int)] : Array Value)[i]? := cell_of_row w g i _ _ (0, 0) h.block
theorem XRd.frozen {w : World} {g : Nat} {A : Option Addr} {c : Nat} {bs : List UInt8} {p : Nat} (h : XRd w g A c bs p) (i : Nat) : w.frozen? ⟨g, i, none⟩ = false := frozen_of_row w g i _ _ h.block
theorem XRd.lt {w : World} {g : Nat} {A : Option Addr} {c : Nat} {bs : List UInt8} {p : Nat} (h : XRd w g A c bs p) : g < w.heap.size := by
  rcases Nat.lt_or_ge g w.heap.size with h1 | h1
  · exact h1
  · have := h.block; rw [Array.getElem?_eq_none h1] at this; cases this
theorem XRd.keep {w w' : World} {g : Nat} {A : Option Addr} {c : Nat} {bs : List UInt8} {p : Nat} (h : XRd w g A c bs p) (hk : w'.heap[g]? = w.heap[g]?) : XRd w' g A c bs p := ⟨hk.trans h.block, h.le, h.cap, h.small⟩
theorem XRd.moved {w w' : World} {g : Nat} {A : Option Addr} {c : Nat} {bs : List UInt8} {p q : Nat} (h : XRd w g A c bs p) (h' : AtIs w w' g 1 (q : Int)) (hq : q ≤ bs.length) : XRd w' g A c bs q := by
  obtain ⟨k, rfl⟩ := h'
  have : XRd (w.setCell ⟨g, 1, none⟩ (.int .i64 (q : Int))) g A c bs q := ⟨by rw [heap_setCell_same w g 1 _ _ _ h.block]; simp, hq, h.cap, h.small⟩
  exact this.keep rfl

/-- What such a call comes to. -/
def XReads (v : Value) (x : Int) (p' g : Nat) (w : World) (e : Ending) (w' : World) : Prop := e = .returned (.tuple #[v, .int .i64 x]) ∧ AtIs w w' g 1 (p' : Int)

theorem atIs_drewN {w : World} {g o : Nat} {x y : Int} (n : Nat) (h : y = x) : AtIs w ((w.drewN n).setCell ⟨g, o, none⟩ (.int .i64 y)) g o x := by
  subst h; exact ⟨n, rfl⟩

theorem RdA.rest {w : World} {lo hi : Nat} {A : Option Addr} {bs : List UInt8} (h : RdA w lo hi A bs) (c p : Nat) (hc : bs.length ≤ c) : RdA w lo hi (if c = p then A else A.map (·.add p)) (bs.drop p) := by
  have := Piece.rd (A' := if c = p then A else A.map (·.add p)) (n := bs.length - p) rfl h hc
  rwa [List.take_of_length_le (by simp)] at this

set_option maxRecDepth 100000 in
set_option maxHeartbeats 1600000 in
theorem xuint_any (g : Nat) (A : Option Addr) (c : Nat) (bs : List UInt8) (p lo hi : Nat) (w : World) (h : XRd w g A c bs p) (hr : RdA w lo hi A bs) :
    Calls Try.prog 66 #[.pointer (some ⟨g, 0, none⟩)] w (XReads (.int .i64 ((uint (bs.drop p)).1 : Int)) (uint (bs.drop p)).2.2 (p + (uint (bs.drop p)).2.1) g w) := by
  obtain ⟨r, hrr⟩ : ∃ r, Hid (r = uint (bs.drop p)) := ⟨_, Lib.hid rfl⟩
  have hsm := h.small
  have hle := h.le
  have hcap := h.cap
  have c0 : w.cell? ⟨g, 0, none⟩ = some (.slice A bs.length c) := h.cell 0
  have c1 : w.cell? ⟨g, 1, none⟩ = some (.int .i64 (p : Int)) := h.cell 1
  have f1 := h.frozen 1
  have hpl := uint_drop_len hle
  have hu : ∀ j : Nat, ∀ v, Rd w lo hi v (bs.drop p) → Calls Try.prog 73 #[v] (w.drewN j) fun e w' => e = .returned (.tuple #[.int .i64 (r.1 : Int), .int .i64 (r.2.1 : Int), .int .i64 r.2.2]) ∧ w' = w.drewN j := fun j v hv => by
    rw [hrr.out]
    exact (refUint_any v (bs.drop p) lo hi (w.drewN j) hv (by simp; omega)).mono fun _ _ ⟨h1, h2⟩ => ⟨h1, h2.symm⟩
  have HU := Lib.hid hu
  rw [← hrr.out] at hpl ⊢
  have hrest := hr.rest c p hcap
  clear hu
  by_cases hcp : c = p
  · rw [if_pos hcp] at hrest
    have R := Lib.hid (show Rd w lo hi (.slice A (bs.length - p) (c - p)) (bs.drop p) from ⟨A, c - p, by simp, by simp; omega, hrest⟩)
    have R0 := Lib.hid (show Rd w lo hi (.slice A 0 0) (bs.drop p) from ⟨A, 0, by simp; omega, by simp; omega, hrest⟩)
    clear hrest
    subst hcp
    go_enter Try.func66, Try.ntmps66
    go_wp2
    go_quiet (first
      | (go_at_call 73; (with_reducible refine Calls.quiet_of_same (HU.out _ _ R0.out)))
      | (go_at_call 73; (with_reducible refine Calls.quiet_of_same (HU.out _ _ R.out))))
    go_wp2
    go_ret2
    exact ⟨rfl, atIs_drewN _ (by go_num)⟩
  · rw [if_neg hcp] at hrest
    have R := Lib.hid (show Rd w lo hi (.slice (A.map (fun x => x.add p)) (bs.length - p) (c - p)) (bs.drop p) from ⟨A.map (fun x => x.add p), c - p, by simp, by simp; omega, hrest⟩)
    clear hrest
    go_enter Try.func66, Try.ntmps66
    go_wp2
    go_quiet ((go_at_call 73; (with_reducible refine Calls.quiet_of_same (HU.out _ _ R.out))))
    go_wp2
    go_ret2
    exact ⟨rfl, atIs_drewN _ (by go_num)⟩

set_option maxRecDepth 100000 in
set_option maxHeartbeats 1600000 in
theorem xbyte_any (g : Nat) (A : Option Addr) (c : Nat) (bs : List UInt8) (p lo hi : Nat) (w : World) (h : XRd w g A c bs p) (hr : RdA w lo hi A bs) (hg : hi ≤ g ∨ g < lo) :
    Calls Try.prog 12 #[.pointer (some ⟨g, 0, none⟩)] w (XReads (.int .i64 ((byteOf (bs.drop p)).1 : Int)) (byteOf (bs.drop p)).2.2 (p + (byteOf (bs.drop p)).2.1) g w) := by
  have hsm := h.small
  have hle := h.le
  have hcap := h.cap
  have c0 : w.cell? ⟨g, 0, none⟩ = some (.slice A bs.length c) := h.cell 0
  have c1 : w.cell? ⟨g, 1, none⟩ = some (.int .i64 (p : Int)) := h.cell 1
  have f1 := h.frozen 1
  by_cases hlt : p < bs.length
  · obtain ⟨x, hx⟩ : ∃ x, Hid (x = bs[p]) := ⟨_, Lib.hid rfl⟩
    have e : byteOf (bs.drop p) = (x.toNat, 1, 0) := by rw [List.drop_eq_getElem_cons hlt, hx.out]; rfl
    rw [e]
    obtain ⟨ad, rfl, ha⟩ := hr.at_ hlt
    rw [← hx.out] at ha
    have hbl : lo ≤ ad.block ∧ ad.block < hi := by
      obtain ⟨ad', e', h1, h2, _⟩ := hr (by omega)
      injection e' with e'
      subst e'
      exact ⟨h1, h2⟩
    have hxb := byte_lt x
    have hd : ∀ n : Nat, ∀ w1, w1 = (w.drewN n).setCell ⟨g, 1, none⟩ (.int .i64 ((p : Int) + 1)) → w1.cell? ⟨g, 0, none⟩ = some (.slice (some ad) bs.length c) ∧ w1.cell? ⟨g, 1, none⟩ = some (.int .i64 ((p : Int) + 1)) ∧ w1.cell? (ad.add p) = some (.int .u8 (x.toNat : Int)) := fun n w1 hw1 => by
      subst hw1
      refine ⟨?_, ?_, ?_⟩
      · rw [World.cell?_setCell_other _ _ _ _ (by simp)]; exact c0
      · exact World.cell?_setCell_same (w.drewN n) _ _ c1
      · rw [World.cell?_setCell_other _ _ _ _ (fun e => by have := congrArg Addr.block e; rw [add_block] at this; simp at this; omega)]
        exact ha
    have HD := Lib.hid hd
    clear hd hbl
    go_enter Try.func12, Try.ntmps12
    go_wp2
    go_quiet (fail)
    go_wp2
    generalize hw1 : (w.drewN nq).setCell ⟨g, 1, none⟩ (.int .i64 ((p : Int) + 1)) = w1
    obtain ⟨d0, d1, d2⟩ := HD.out nq w1 hw1.symm
    have HW := Lib.hid hw1
    clear hw1 c0 c1 ha
    go_quiet (fail)
    go_wp2
    go_ret2
    refine ⟨rfl, AtIs.behind ?_ _⟩
    rw [← HW.out]
    exact atIs_drewN _ (by go_num)
  · have e : byteOf (bs.drop p) = (0, 0, 2) := by rw [List.drop_of_length_le (by omega)]; rfl
    rw [e]
    have hpe : (((p : Nat) : Int) == (bs.length : Int)) = true := by simp; omega
    go_enter Try.func12, Try.ntmps12
    go_wp2
    go_quiet (fail)
    go_wp2
    go_ret2
    exact ⟨rfl, AtIs.none_ c1 _⟩

end Go.Proofs.Ytnlohijpcnoamaa
namespace Go.Proofs.Ytnlohijpcnoamaa
open Go.RowKit
open Go.Lib (byteCells byteCells_length)

theorem numS_eq (bs : List UInt8) (p : Nat) : numS bs p 0 = (((uint (bs.drop p)).1 : Int), p + (uint (bs.drop p)).2.1, (uint (bs.drop p)).2.2) := if_pos rfl
theorem numS_err {bs : List UInt8} {p : Nat} {y : Int} (h : y ≠ 0) : numS bs p y = (0, p, y) := if_neg h
theorem numS_le {bs : List UInt8} {p : Nat} {y : Int} (h : p ≤ bs.length) : (numS bs p y).2.1 ≤ bs.length := by
  by_cases hy : y = 0
  · subst hy; rw [numS_eq]; exact uint_drop_len h
  · rw [numS_err hy]; exact h
theorem numS_zero {bs : List UInt8} {p : Nat} (h : (numS bs p 0).2.2 ≠ 0) : (numS bs p 0).1 = 0 := by
  rw [numS_eq] at h ⊢
  have := (uint_err h).1
  simp only [this]; rfl

/-- A dot's numbers, one behind the other. -/
def setAt (j : Nat) (t : DotA) (v : Int) : DotA := match j with | 0 => (v, t.2.1, t.2.2) | 1 => (t.1, v, t.2.2) | _ => (t.1, t.2.1, v)
def seq3 (bs : List UInt8) (p : Nat) : Nat → DotA × Nat × Int
  | 0 => ((0, 0, 0), p, 0)
  | j + 1 => (setAt j (seq3 bs p j).1 (numS bs (seq3 bs p j).2.1 (seq3 bs p j).2.2).1, (numS bs (seq3 bs p j).2.1 (seq3 bs p j).2.2).2.1, (numS bs (seq3 bs p j).2.1 (seq3 bs p j).2.2).2.2)
theorem seq3_dot (bs : List UInt8) (p : Nat) : seq3 bs p 3 = dotS bs p 0 := rfl
theorem seq3_keep {bs : List UInt8} {p : Nat} {j : Nat} (h : (seq3 bs p j).2.2 ≠ 0) : (seq3 bs p (j + 1)).2.2 = (seq3 bs p j).2.2 := by
  show (numS bs (seq3 bs p j).2.1 (seq3 bs p j).2.2).2.2 = _
  rw [numS_err h]
theorem seq3_err {bs : List UInt8} {p : Nat} {j : Nat} (hj : j ≤ 3) (h : (seq3 bs p j).2.2 ≠ 0) : (dotS bs p 0).2.2 = (seq3 bs p j).2.2 := by
  rw [← seq3_dot]
  obtain ⟨i, hi⟩ : ∃ i, 3 = j + i := ⟨3 - j, by omega⟩
  rw [hi]
  clear hi hj
  induction i with
  | zero => rfl
  | succ i ih =>
    have h2 : (seq3 bs p (j + i)).2.2 ≠ 0 := by rw [ih]; exact h
    exact (seq3_keep h2).trans ih
theorem dotS_err {bs : List UInt8} {p : Nat} {y : Int} (h : y ≠ 0) : (dotS bs p y).2.2 = y := by
  unfold dotS
  simp only [numS_err h]
theorem dotsS_err {bs : List UInt8} {p : Nat} {y : Int} {k n : Nat} (hk : k ≤ n) (h : (dotsS bs k p y).2.2 ≠ 0) : (dotsS bs n p y).2.2 = (dotsS bs k p y).2.2 := by
  obtain ⟨i, rfl⟩ : ∃ i, n = k + i := ⟨n - k, by omega⟩
  clear hk
  induction i with
  | zero => rfl
  | succ i ih =>
    have e : (dotsS bs (k + (i + 1)) p y).2.2 = (dotS bs (dotsS bs (k + i) p y).2.1 (dotsS bs (k + i) p y).2.2).2.2 := rfl
    rw [e, dotS_err (by rw [ih]; exact h), ih]
def arr3 (t : DotA) : Array Value := #[.int .i64 t.1, .int .i64 t.2.1, .int .i64 t.2.2]
theorem arr3_set {j : Nat} (hj : j < 3) (t : DotA) (v : Int) : (arr3 t).setIfInBounds j (.int .i64 v) = arr3 (setAt j t v) := by
  rcases j with _ | _ | _ | j
  · rfl
  · rfl
  · rfl
  · omega
theorem arr3_at {j : Nat} (hj : j < 3) (t : DotA) : ∃ x : Int, (arr3 t)[j]? = some (.int .i64 x) := by
  rcases j with _ | _ | _ | j
  · exact ⟨_, rfl⟩
  · exact ⟨_, rfl⟩
  · exact ⟨_, rfl⟩
  · omega
/-- What a list comes to. -/
def listS (bs : List UInt8) (p : Nat) : List DotA × Nat × Int := dotsS bs (lenS bs 64 p 0).1.toNat (lenS bs 64 p 0).2.1 (lenS bs 64 p 0).2.2

theorem Kept.at_ {g o s : Nat} {a b c : World} {x : Int} (h : Kept g s a b) (h2 : AtIs b c g o x) : Kept g s a c := by
  obtain ⟨k, rfl⟩ := h2
  exact ⟨h.os, h.tape, h.output, by simpa [World.setCell] using h.size, fun b hb h1 h2 => (Below.heap_setCell _ _ _ _ (by exact h1)).trans (h.block b hb h1 h2)⟩
theorem Kept.thru {g : Nat} {w wr wa wj : World} (h : Kept g g w wr) (hb : Below wr.heap.size wr wa) (h2 : Kept g wr.heap.size wa wj) : Kept g g w wj :=
  ⟨(h2.os.trans hb.os).trans h.os, (h2.tape.trans hb.tape).trans h.tape, (h2.output.trans hb.output).trans h.output, Nat.le_trans h.size (Nat.le_trans hb.size h2.size), fun b hw h3 _ => by
    have h4 := h.size
    have h5 := hb.size
    exact ((h2.block b (by omega) h3 (by omega)).trans (hb.block b (by omega))).trans (h.block b hw h3 h3)⟩
theorem Kept.rdA {g s hi : Nat} {w w' : World} {A : Option Addr} {bs : List UInt8} (h : Kept g s w w') (hr : RdA w 0 hi A bs) (hg : hi ≤ g) (hs : hi ≤ s) (hw : hi ≤ w.heap.size) : RdA w' 0 hi A bs :=
  hr.keep fun q _ hq => World.cell?_of_block (h.block _ (by omega) (by omega) (by omega))

def ListPost (g : Nat) (A : Option Addr) (c : Nat) (bs : List UInt8) (r : List DotA × Nat × Int) (w : World) (e : Ending) (w' : World) : Prop :=
  Kept g g w w' ∧ ((r.2.2 = 0 ∧ ∃ v, e = .returned (.tuple #[v, .int .i64 0]) ∧ OwnD 55 w' w.heap.size v r.1 ∧ XRd w' g A c bs r.2.1) ∨
  (r.2.2 ≠ 0 ∧ e = .returned (.tuple #[.slice none 0 0, .int .i64 r.2.2]) ∧ ∃ q, XRd w' g A c bs q))

set_option maxRecDepth 100000 in
set_option maxHeartbeats 6400000 in
theorem refList_any (w : World) (g : Nat) (A : Option Addr) (c : Nat) (bs : List UInt8) (hi p : Nat) (h : XRd w g A c bs p) (hr : RdA w 0 hi A bs) (hg : hi ≤ g) :
    Calls Try.prog 53 #[.pointer (some ⟨g, 0, none⟩)] w (ListPost g A c bs (listS bs p) w) := by
  have hgw := h.lt
  have hhw : hi ≤ w.heap.size := by omega
  have hU := xuint_any g A c bs p 0 hi w h hr
  obtain ⟨a, ha⟩ : ∃ a, Hid (a = numS bs p 0) := ⟨_, Lib.hid rfl⟩
  have hU2 : Calls Try.prog 66 #[.pointer (some ⟨g, 0, none⟩)] w (XReads (.int .i64 a.1) a.2.2 a.2.1 g w) := by
    rw [ha.out, numS_eq]; exact hU
  have HU := Lib.hid hU2
  have HX := Lib.hid h
  have hale : a.2.1 ≤ bs.length := by rw [ha.out]; exact numS_le h.le
  have HLE := Lib.hid hale
  have ha0 : 0 ≤ a.1 := by rw [ha.out, numS_eq]; exact Int.natCast_nonneg _
  have HRD := Lib.hid (fun w' (hk : Kept g g w w') => hk.rdA hr hg hg hhw)
  clear hU hU2 hr h hale
  by_cases he : a.2.2 = 0
  · have t0 : (a.2.2 != 0) = false := by simpa using he
    by_cases hbig : a.1 > 64
    · have HL : Hid ((listS bs p).2.2 = 4) := Lib.hid (by
        have e : lenS bs 64 p 0 = (0, a.2.1, 4) := by unfold lenS; rw [← ha.out, if_pos hbig]
        unfold listS; rw [e]; rfl)
      go_enter Try.func53, Try.ntmps53
      go_wp2_with fail
      (with_reducible refine HU.out.mono ?_); rintro e w1 ⟨rfl, hat⟩
      have HK := Lib.hid ((Kept.refl g g w).at_ hat)
      have HX1 := Lib.hid (HX.out.moved hat HLE.out)
      clear hat
      go_wp2
      go_ret2
      exact ⟨HK.out, .inr ⟨by rw [HL.out]; decide, by rw [HL.out]; rfl, _, HX1.out⟩⟩
    · obtain ⟨n, hn⟩ : ∃ n : Nat, Hid (a.1 = n) := ⟨a.1.toNat, Lib.hid (by omega)⟩
      have hn64 : n ≤ 64 := by have := hn.out; omega
      obtain ⟨p1, hp1⟩ : ∃ p1, Hid (p1 = a.2.1) := ⟨_, Lib.hid rfl⟩
      have HL : Hid (listS bs p = dotsS bs n p1 0) := Lib.hid (by
        have e : lenS bs 64 p 0 = a := by unfold lenS; rw [← ha.out, if_neg hbig]
        unfold listS; rw [e, hn.out, he, hp1.out, Int.toNat_natCast])
      rw [HL.out]
      rw [hn.out, he] at HU
      clear hbig ha0 t0 he
      go_enter Try.func53, Try.ntmps53
      go_wp2_with fail
      (with_reducible refine HU.out.mono ?_); rintro e w1 ⟨rfl, hat⟩
      have HK1 := Lib.hid ((Kept.refl g g w).at_ hat)
      have HX1 := Lib.hid (show XRd w1 g A c bs p1 from by rw [hp1.out]; exact HX.out.moved hat HLE.out)
      clear hat
      go_wp2
      go_loopw [22, 6] (fun i x wr => ∃ (k : Nat), (k ≤ n ∧ i = .int .i64 k) ∧ Hid ((dotsS bs k p1 0).2.2 = 0) ∧ Hid (OwnD 55 wr w.heap.size x (dotsS bs k p1 0).1) ∧ Hid (XRd wr g A c bs (dotsS bs k p1 0).2.1) ∧ Hid (Kept g g w wr)) (fun i _ _ => n - (intOf i).toNat)
      case atStart => exact ⟨0, ⟨Nat.zero_le _, rfl⟩, Lib.hid rfl, Lib.hid (ownD_nil _ _ _), HX1, HK1⟩
      case round =>
        obtain ⟨k, ⟨hk, rfl⟩, HE, HO, HX2, HK⟩ := hrel
        obtain ⟨wo, hwo⟩ : ∃ wo : World, wo = wr := ⟨_, rfl⟩
        subst hwo
        by_cases hlt : k < n
        · obtain ⟨q, hq⟩ : ∃ q, Hid (q = dotsS bs k p1 0) := ⟨_, Lib.hid rfl⟩
          rw [← hq.out] at HE HO HX2
          have hql : q.1.length = k := by rw [hq.out, dotsS_length]
          obtain ⟨W1, hW1⟩ : ∃ W1, Hid (W1 = wo.alloc (.cells #[.int .i64 0, .int .i64 0, .int .i64 0] 98)) := ⟨_, Lib.hid rfl⟩
          have hb1 : Below wo.heap.size wo W1 := by rw [hW1.out]; exact below_alloc (Below.refl _ _)
          have hz1 : wo.heap.size < W1.heap.size := by rw [hW1.out]; simp
          have hgr := HX2.out.lt
          have hwr := HK.out.size
          have HROW : Hid (W1.heap[wo.heap.size]? = some (.cells (arr3 (seq3 bs q.2.1 0).1) 98 (0, 0))) := Lib.hid (by rw [hW1.out]; exact heap_alloc_new wo _)
          have HX3 : Hid (XRd W1 g A c bs (seq3 bs q.2.1 0).2.1) := Lib.hid (HX2.out.keep (hb1.block g hgr))
          have HB1 := Lib.hid hb1
          have HSTEP : Hid (dotsS bs (k + 1) p1 0 = (q.1 ++ [(dotS bs q.2.1 0).1], (dotS bs q.2.1 0).2.1, (dotS bs q.2.1 0).2.2)) := Lib.hid (by
            show (let r := dotsS bs k p1 0; let d := dotS bs r.2.1 r.2.2; (r.1 ++ [d.1], d.2.1, d.2.2)) = _
            rw [← hq.out]
            dsimp only
            rw [HE.out])
          have hWe := hW1.out.symm
          clear hb1
          go_upto_region 10 with fail
          clear hWe
          go_wp2
          obtain ⟨wa, hwa⟩ : ∃ wa : World, wa = W1 := ⟨_, rfl⟩
          subst hwa
          go_loopw [24] (fun i wr => ∃ (j : Nat), (j ≤ 3 ∧ i = .int .i64 j) ∧ Hid ((seq3 bs q.2.1 j).2.2 = 0) ∧ Hid (XRd wr g A c bs (seq3 bs q.2.1 j).2.1) ∧ Hid (wr.heap[wo.heap.size]? = some (.cells (arr3 (seq3 bs q.2.1 j).1) 98 (0, 0))) ∧ Hid (Kept g wo.heap.size wa wr)) (fun i _ => 3 - (intOf i).toNat)
          case atStart => exact ⟨0, ⟨by omega, rfl⟩, Lib.hid rfl, HX3, HROW, Lib.hid (Kept.refl _ _ _)⟩
          case round =>
            obtain ⟨j, ⟨hj, rfl⟩, HE3, HXj, HRj, HKj⟩ := hrel
            have HKW := Lib.hid (HK.out.thru HB1.out HKj.out)
            have hneg : wo.heap.size ≠ g := by omega
            by_cases hj3 : j < 3
            · obtain ⟨s, hs⟩ : ∃ s, Hid (s = seq3 bs q.2.1 j) := ⟨_, Lib.hid rfl⟩
              rw [← hs.out] at HE3 HXj HRj
              have hU := xuint_any g A c bs s.2.1 0 hi wr HXj.out (HRD.out wr HKW.out)
              obtain ⟨b, hb⟩ : ∃ b, Hid (b = numS bs s.2.1 0) := ⟨_, Lib.hid rfl⟩
              have hU2 : Calls Try.prog 66 #[.pointer (some ⟨g, 0, none⟩)] wr (XReads (.int .i64 b.1) b.2.2 b.2.1 g wr) := by
                rw [hb.out, numS_eq]; exact hU
              have hble : b.2.1 ≤ bs.length := by rw [hb.out]; exact numS_le HXj.out.le
              have HBLE := Lib.hid hble
              have HNX : Hid (seq3 bs q.2.1 (j + 1) = (setAt j s.1 b.1, b.2.1, b.2.2)) := Lib.hid (by
                show (setAt j (seq3 bs q.2.1 j).1 (numS bs (seq3 bs q.2.1 j).2.1 (seq3 bs q.2.1 j).2.2).1, (numS bs (seq3 bs q.2.1 j).2.1 (seq3 bs q.2.1 j).2.2).2.1, (numS bs (seq3 bs q.2.1 j).2.1 (seq3 bs q.2.1 j).2.2).2.2) = _
                rw [← hs.out, HE3.out, ← hb.out])
              have hmk : ((j : Int) < 3) := by omega
              clear hU hble
              by_cases hbe : b.2.2 = 0
              · have HBE := Lib.hid hbe
                rw [hbe] at hU2
                have HU2 := Lib.hid hU2
                clear hU2 hbe
                go_wp2_with fail
                (with_reducible refine HU2.out.mono ?_); rintro e w5 ⟨rfl, hat⟩
                have row5 := (hat.block hneg).trans HRj.out
                obtain ⟨x0, hx0⟩ := arr3_at hj3 s.1
                have c5 : w5.cell? ⟨wo.heap.size, j, none⟩ = some (.int .i64 x0) := (cell_of_row w5 _ j _ _ (0, 0) row5).trans hx0
                have f5 : w5.frozen? ⟨wo.heap.size, j, none⟩ = false := frozen_of_row w5 _ j _ _ row5
                have HR5 : Hid ((w5.setCell ⟨wo.heap.size, j, none⟩ (.int .i64 b.1)).heap[wo.heap.size]? = some (.cells (arr3 (setAt j s.1 b.1)) 98 (0, 0))) := Lib.hid ((Joins.block_setCell row5 (i := j) (.int .i64 b.1)).trans (by rw [arr3_set hj3]))
                have HX5 : Hid (XRd (w5.setCell ⟨wo.heap.size, j, none⟩ (.int .i64 b.1)) g A c bs b.2.1) := Lib.hid ((HXj.out.moved hat HBLE.out).keep (Below.heap_setCell _ _ _ _ (by show g ≠ wo.heap.size; omega)))
                have HK5 : Hid (Kept g wo.heap.size wa (w5.setCell ⟨wo.heap.size, j, none⟩ (.int .i64 b.1))) := Lib.hid ((HKj.out.at_ hat).put (.inr rfl))
                clear hat row5 hx0
                go_wp2
                go_roundw
                case rel => exact ⟨j + 1, ⟨by omega, by go_num⟩, Lib.hid (by rw [HNX.out]; exact HBE.out), Lib.hid (by rw [HNX.out]; exact HX5.out), Lib.hid (by rw [HNX.out]; exact HR5.out), HK5⟩
                case measure => simp [intOf]; omega
              · have HBE := Lib.hid hbe
                have t1 : (b.2.2 != 0) = true := by simpa using hbe
                have HU2 := Lib.hid hU2
                have HERR : Hid ((dotsS bs n p1 0).2.2 = b.2.2) := Lib.hid (by
                  have e1 : (seq3 bs q.2.1 (j + 1)).2.2 = b.2.2 := by rw [HNX.out]
                  have e2 := seq3_err (bs := bs) (p := q.2.1) (j := j + 1) (by omega) (by rw [e1]; exact hbe)
                  have e3 : (dotsS bs (k + 1) p1 0).2.2 = b.2.2 := by rw [HSTEP.out]; exact e2.trans e1
                  rw [dotsS_err (k := k + 1) (n := n) (by omega) (by rw [e3]; exact hbe), e3])
                clear hU2 hbe
                go_wp2_with fail
                (with_reducible refine HU2.out.mono ?_); rintro e w5 ⟨rfl, hat⟩
                have HX5 := Lib.hid (HXj.out.moved hat HBLE.out)
                have HK5 := Lib.hid (HKW.out.at_ hat)
                clear hat
                go_wp2
                go_ret2
                exact ⟨HK5.out, .inr ⟨by rw [HERR.out]; exact HBE.out, by rw [HERR.out]; rfl, _, HX5.out⟩⟩
            · obtain rfl : j = 3 := by omega
              rw [seq3_dot] at HE3 HXj HRj
              obtain ⟨d, hd⟩ : ∃ d, Hid (d = dotS bs q.2.1 0) := ⟨_, Lib.hid rfl⟩
              rw [← hd.out] at HE3 HXj HRj HSTEP
              obtain ⟨⟨x1, x2, x3⟩, p2, y2⟩ := d
              have row3 : wr.heap[wo.heap.size]? = some (.cells #[.int .i64 x1, .int .i64 x2, .int .i64 x3] 98 (0, 0)) := HRj.out
              have c0 : wr.cell? ⟨wo.heap.size, 0, none⟩ = some (.int .i64 x1) := cell_of_row wr _ 0 _ _ (0, 0) row3
              have c1 : wr.cell? ⟨wo.heap.size, 1, none⟩ = some (.int .i64 x2) := cell_of_row wr _ 1 _ _ (0, 0) row3
              have c2 : wr.cell? ⟨wo.heap.size, 2, none⟩ = some (.int .i64 x3) := cell_of_row wr _ 2 _ _ (0, 0) row3
              have hlt6 := World.ownsRow.lt HO.out
              have hzj := HKj.out.size
              have HO1 : Hid (OwnD 55 wr w.heap.size u6 q.1) := Lib.hid (HO.out.stay1 (fun b e => by
                have h1 := hlt6 b e
                exact (HKj.out.block b (by omega) (by omega) (by omega)).trans (HB1.out.block b h1.2)))
              have HLT6 := Lib.hid hlt6
              have hol40 : q.1.length ≤ 1099511627776 := by omega
              have hbz : w.heap.size ≤ wr.heap.size := by omega
              have hmk : ¬ (((3 : Nat) : Int) < 3) := by omega
              clear row3 hlt6 hj3
              go_wp2_with (at_builtin; go_must (refine wpList_append_dot (v := u6) Try.underlying23 infoDot _ rfl (.tmp 39) (.tmp 47) rfl (x1, x2, x3) (by rfl) (by rfl) HO1.out hol40 hbz ?_))
              intro v5 w5 ho5 hg5 ht5
              have HO5 := Lib.hid ho5
              have HX5 : Hid (XRd w5 g A c bs p2) := Lib.hid (HXj.out.keep (hg5.block g HXj.out.lt (fun e => by have := (HLT6.out g e.symm).1; omega)))
              have HK5 : Hid (Kept g g w w5) := Lib.hid (HKW.out.grown hg5 (fun b e => (HLT6.out b e).1))
              clear ho5 hg5 ht5
              go_wp2
              go_roundw
              case rel => exact ⟨k + 1, ⟨by omega, by go_num⟩, Lib.hid (by rw [HSTEP.out]; exact HE3.out), Lib.hid (by rw [HSTEP.out]; exact HO5.out), Lib.hid (by rw [HSTEP.out]; exact HX5.out), HK5⟩
              case measure => simp [intOf]; omega
        · obtain rfl : k = n := by omega
          go_wp2
          go_ret2
          exact ⟨HK.out, .inl ⟨HE.out, _, rfl, HO.out, HX2.out⟩⟩
  · have t0 : (a.2.2 != 0) = true := by simpa using he
    have HL : Hid ((listS bs p).2.2 = a.2.2) := Lib.hid (by
      have e1 : a.1 = 0 := by rw [ha.out] at he ⊢; exact numS_zero he
      have e : lenS bs 64 p 0 = a := by unfold lenS; rw [← ha.out, if_neg (by omega)]
      unfold listS; rw [e, e1]; rfl)
    have HE := Lib.hid he
    clear he
    go_enter Try.func53, Try.ntmps53
    go_wp2_with fail
    (with_reducible refine HU.out.mono ?_); rintro e w1 ⟨rfl, hat⟩
    have HK := Lib.hid ((Kept.refl g g w).at_ hat)
    have HX1 := Lib.hid (HX.out.moved hat HLE.out)
    clear hat
    go_wp2
    go_ret2
    exact ⟨HK.out, .inr ⟨by rw [HL.out]; exact HE.out, by rw [HL.out]; rfl, _, HX1.out⟩⟩
end Go.Proofs.Ytnlohijpcnoamaa
namespace Go.Proofs.Ytnlohijpcnoamaa
open Go.RowKit
open Go.Lib (byteCells byteCells_length)

theorem listS_short (bs : List UInt8) (p : Nat) : (listS bs p).1.length ≤ 64 := by unfold listS; rw [dotsS_length]; exact lenS_short _ _ _
theorem readS_two {bs : List UInt8} {p : Nat} (h : (listS bs p).2.2 = 0) : readS bs p 0 = ((listS bs p).1, (listS bs (listS bs p).2.1).1, (listS bs (listS bs p).2.1).2.1, (listS bs (listS bs p).2.1).2.2) := by
  have e : ∀ y, y = 0 → (let m := lenS bs 64 p 0; let ms := dotsS bs m.1.toNat m.2.1 m.2.2; let n := lenS bs 64 ms.2.1 y; let ds := dotsS bs n.1.toNat n.2.1 n.2.2; (ms.1, ds.1, ds.2.1, ds.2.2)) = ((listS bs p).1, (listS bs (listS bs p).2.1).1, (listS bs (listS bs p).2.1).2.1, (listS bs (listS bs p).2.1).2.2) := fun y hy => by subst hy; rfl
  exact e _ h
theorem readS_err {bs : List UInt8} {p : Nat} (h : (listS bs p).2.2 ≠ 0) : (readS bs p 0).2.2.2 = (listS bs p).2.2 := by
  obtain ⟨l, hl⟩ : ∃ l, l = listS bs p := ⟨_, rfl⟩
  have e : (readS bs p 0).2.2.2 = (let n := lenS bs 64 l.2.1 l.2.2; (dotsS bs n.1.toNat n.2.1 n.2.2).2.2) := by rw [hl]; rfl
  rw [← hl] at h ⊢
  have e2 : lenS bs 64 l.2.1 l.2.2 = (0, l.2.1, l.2.2) := by unfold lenS; rw [numS_err h, if_neg (show ¬ ((0 : Int) > 64) by decide)]
  rw [e, e2]
  rfl

/-- What the document's decode comes to. -/
def RefDec (g : Nat) (A : Option Addr) (c : Nat) (bs : List UInt8) (pe : Option Nat) (r : List DotA × List DotA × Nat × Int) (w : World) (e : Ending) (w' : World) : Prop :=
  Kept g g w w' ∧ ((r.2.2.2 = 0 ∧ OkC r.1 r.2.1 ∧ ∃ (A1 A2 : Option Addr) (n1 n2 c1 c2 : Nat), e = .returned (.tuple #[.agg #[.slice A1 n1 c1, .slice A2 n2 c2], .int .i64 0]) ∧ OwnD 53 w' w.heap.size (.slice A1 n1 c1) r.1 ∧ OwnD 55 w' w.heap.size (.slice A2 n2 c2) r.2.1 ∧ XRd w' g A c bs r.2.2.1) ∨
  (∃ y : Int, y ≠ 0 ∧ ((r.2.2.2 ≠ 0 ∧ y = r.2.2.2) ∨ (r.2.2.2 = 0 ∧ ¬ OkC r.1 r.2.1 ∧ y = 30)) ∧ e = .returned (.tuple #[.agg #[.slice none 0 0, .slice none 0 0], .int .i64 y]) ∧ ∃ q, XRd w' g A c bs q ∧ ∀ p, pe = some p → q = p))

set_option maxRecDepth 100000 in
set_option maxHeartbeats 6400000 in
theorem refRead_any (w : World) (g : Nat) (A : Option Addr) (c : Nat) (bs : List UInt8) (hi p : Nat) (h : XRd w g A c bs p) (hr : RdA w 0 hi A bs) (hg : hi ≤ g) :
    Calls Try.prog 34 #[.pointer (some ⟨g, 0, none⟩)] w (RefDec g A c bs none (readS bs p 0) w) := by
  have hgw := h.lt
  obtain ⟨W0, hW0⟩ : ∃ W0, Hid (W0 = w.alloc (.cells #[.slice none 0 0, .slice none 0 0] 25)) := ⟨_, Lib.hid rfl⟩
  have hb0 : Below w.heap.size w W0 := by rw [hW0.out]; exact (Below.refl _ _).alloc (Nat.le_refl _) _
  have hz0 : w.heap.size < W0.heap.size := by rw [hW0.out]; simp
  have row0 : W0.heap[w.heap.size]? = some (.cells #[.slice none 0 0, .slice none 0 0] 25 (0, 0)) := by rw [hW0.out]; exact heap_alloc_new w _
  have hr0 : RdA W0 0 hi A bs := hr.keep fun q _ hq => hb0.cell (by omega)
  have HL1 := Lib.hid (refList_any W0 g A c bs hi p (h.keep (hb0.block g hgw)) hr0 hg)
  have HB0 := Lib.hid hb0
  have HROW0 := Lib.hid row0
  have HRD := Lib.hid (fun w' (hk : Kept g g W0 w') => hk.rdA hr0 hg hg (by omega))
  have HS1 := Lib.hid (listS_short bs p)
  have HTWO := Lib.hid (fun h => @readS_two bs p h)
  have HERR := Lib.hid (fun h => @readS_err bs p h)
  obtain ⟨r, hr'⟩ : ∃ r, Hid (r = readS bs p 0) := ⟨_, Lib.hid rfl⟩
  obtain ⟨m, hm⟩ : ∃ m, Hid (m = listS bs p) := ⟨_, Lib.hid rfl⟩
  rw [← hm.out] at HL1 HS1 HTWO HERR
  rw [← hr'.out] at HTWO HERR ⊢
  have hWe := hW0.out.symm
  clear h hr hb0 row0 hr0
  go_enter Try.func34, Try.ntmps34
  go_upto_region 1 with fail
  clear hWe
  go_wp2_with fail
  (with_reducible refine HL1.out.mono ?_); rintro e w1 ⟨k1, (⟨hy1, v4, rfl, o1, x1⟩ | ⟨hy1, rfl, q1, x1⟩)⟩
  case inr =>
    have t0 : (m.2.2 != 0) = true := by simpa using hy1
    have row1 := (k1.block _ hz0 (by omega) (by omega)).trans HROW0.out
    have q0 : w1.cell? ⟨w.heap.size, 0, none⟩ = some (.slice none 0 0) := cell_of_row w1 _ 0 _ _ (0, 0) row1
    have q1' : w1.cell? ⟨w.heap.size, 1, none⟩ = some (.slice none 0 0) := cell_of_row w1 _ 1 _ _ (0, 0) row1
    have f0 : w1.frozen? ⟨w.heap.size, 0, none⟩ = false := frozen_of_row w1 _ 0 _ _ row1
    have f1 : w1.frozen? ⟨w.heap.size, 1, none⟩ = false := frozen_of_row w1 _ 1 _ _ row1
    have HRf := Lib.hid (Joins.block_setCell (Joins.block_setCell row1 (i := 0) (.slice none 0 0)) (i := 1) (.slice none 0 0))
    have HX1 := Lib.hid x1
    have HK1 : Hid (Kept g g w w1) := Lib.hid ((Kept.of HB0.out).trans k1)
    have HY1 := Lib.hid hy1
    have hgn : g ≠ w.heap.size := by omega
    clear k1 row1 x1 hy1 HL1
    go_wp2
    have p0 := cell_of_row _ _ 0 _ _ (0, 0) HRf.out
    have p1 := cell_of_row _ _ 1 _ _ (0, 0) HRf.out
    simp at p0 p1
    refine bodyPost_ret (v := .tuple #[.agg #[.slice none 0 0, .slice none 0 0], .int .i64 m.2.2]) (by simp [results, Try.results34, go_sem, p0, p1]) rfl ?_
    have e3 := HERR.out HY1.out
    refine ⟨(HK1.out.put (.inl (Nat.le_refl _))).put (.inl (Nat.le_refl _)), Or.inr ⟨m.2.2, HY1.out, .inl ⟨by rw [e3]; exact HY1.out, e3.symm⟩, rfl, q1, HX1.out.keep ((Below.heap_setCell _ _ _ _ hgn).trans (Below.heap_setCell _ _ _ _ hgn)), fun p h => by cases h⟩⟩
  have HK01 := Lib.hid k1
  have HO1 := Lib.hid o1
  have HX1 := Lib.hid x1
  have t0 : (m.2.2 != 0) = false := by simpa using hy1
  have HL2 := Lib.hid (refList_any w1 g A c bs hi m.2.1 x1 (HRD.out w1 k1) hg)
  have HS2 := Lib.hid (listS_short bs m.2.1)
  have htwo := HTWO.out hy1
  obtain ⟨m2, hm2⟩ : ∃ m2, Hid (m2 = listS bs m.2.1) := ⟨_, Lib.hid rfl⟩
  rw [← hm2.out] at HL2 HS2 htwo
  have HR := Lib.hid htwo
  have hz1 := k1.size
  obtain ⟨A4, c4, rfl⟩ := ownD_slice o1
  obtain ⟨n4, hn4⟩ : ∃ n, Hid (n = m.1.length) := ⟨_, Lib.hid rfl⟩
  rw [← hn4.out] at HO1 ⊢
  clear k1 o1 x1 hy1 htwo HL1
  go_wp2_with fail
  (with_reducible refine HL2.out.mono ?_); rintro e w2 ⟨k2, (⟨hy2, v6, rfl, o2, x2⟩ | ⟨hy2, rfl, q2, x2⟩)⟩
  case inr =>
    have t1 : (m2.2.2 != 0) = true := by simpa using hy2
    have row1 := (k2.block _ (by omega) (by omega) (by omega)).trans ((HK01.out.block _ hz0 (by omega) (by omega)).trans HROW0.out)
    have q0 : w2.cell? ⟨w.heap.size, 0, none⟩ = some (.slice none 0 0) := cell_of_row w2 _ 0 _ _ (0, 0) row1
    have q1' : w2.cell? ⟨w.heap.size, 1, none⟩ = some (.slice none 0 0) := cell_of_row w2 _ 1 _ _ (0, 0) row1
    have f0 : w2.frozen? ⟨w.heap.size, 0, none⟩ = false := frozen_of_row w2 _ 0 _ _ row1
    have f1 : w2.frozen? ⟨w.heap.size, 1, none⟩ = false := frozen_of_row w2 _ 1 _ _ row1
    have HRf := Lib.hid (Joins.block_setCell (Joins.block_setCell row1 (i := 0) (.slice none 0 0)) (i := 1) (.slice none 0 0))
    have HX2 := Lib.hid x2
    have HK2 : Hid (Kept g g w w2) := Lib.hid ((Kept.of HB0.out).trans (HK01.out.trans k2))
    have HY2 := Lib.hid hy2
    have hgn : g ≠ w.heap.size := by omega
    clear k2 row1 x2 hy2 HL2
    go_wp2
    have p0 := cell_of_row _ _ 0 _ _ (0, 0) HRf.out
    have p1 := cell_of_row _ _ 1 _ _ (0, 0) HRf.out
    simp at p0 p1
    refine bodyPost_ret (v := .tuple #[.agg #[.slice none 0 0, .slice none 0 0], .int .i64 m2.2.2]) (by simp [results, Try.results34, go_sem, p0, p1]) rfl ?_
    refine ⟨(HK2.out.put (.inl (Nat.le_refl _))).put (.inl (Nat.le_refl _)), Or.inr ⟨m2.2.2, HY2.out, .inl ⟨by rw [HR.out]; exact HY2.out, by rw [HR.out]⟩, rfl, q2, HX2.out.keep ((Below.heap_setCell _ _ _ _ hgn).trans (Below.heap_setCell _ _ _ _ hgn)), fun p h => by cases h⟩⟩
  have t1 : (m2.2.2 != 0) = false := by simpa using hy2
  obtain ⟨A6, c6, rfl⟩ := ownD_slice o2
  obtain ⟨n6, hn6⟩ : ∃ n, Hid (n = m2.1.length) := ⟨_, Lib.hid rfl⟩
  rw [← hn6.out] at o2 ⊢
  obtain ⟨W3, hW3⟩ : ∃ W3, Hid (W3 = w2.alloc (.cells #[.slice none 0 0, .slice A6 n6 c6] 25)) := ⟨_, Lib.hid rfl⟩
  have hb3 : Below w2.heap.size w2 W3 := by rw [hW3.out]; exact (Below.refl _ _).alloc (Nat.le_refl _) _
  have hz3 : w2.heap.size < W3.heap.size := by rw [hW3.out]; simp
  have hz2 := k2.size
  have row3 : W3.heap[w2.heap.size]? = some (.cells #[.slice none 0 0, .slice A6 n6 c6] 25 (0, 0)) := by rw [hW3.out]; exact heap_alloc_new w2 _
  have hl4 := World.ownsRow.lt HO1.out
  have HO13 : Hid (OwnD 55 W3 W0.heap.size (.slice A4 n4 c4) m.1) := Lib.hid ((HO1.out.stay1 (fun b e => by
    have := hl4 b e
    exact k2.block b this.2 (by omega) (by omega))).below hb3)
  have HO23 := Lib.hid (o2.below hb3)
  have HX3 := Lib.hid (x2.keep (hb3.block g x2.lt))
  have HROW3 := Lib.hid row3
  have HR03 : Hid (W3.heap[w.heap.size]? = some (.cells #[.slice none 0 0, .slice none 0 0] 25 (0, 0))) := Lib.hid ((hb3.block _ (by omega)).trans ((k2.block _ (by omega) (by omega) (by omega)).trans ((HK01.out.block _ hz0 (by omega) (by omega)).trans HROW0.out)))
  have HK3 : Hid (Kept g g w W3) := Lib.hid (((Kept.of HB0.out).trans (HK01.out.trans k2)).trans ⟨hb3.os, hb3.tape, hb3.output, hb3.size, fun b hb _ _ => hb3.block b hb⟩)
  have HL4 := Lib.hid hl4
  have hn464 : n4 ≤ 64 := by rw [hn4.out]; exact HS1.out
  have HL6 := Lib.hid (World.ownsRow.lt o2)
  have HY2 := Lib.hid hy2
  have hWe := hW3.out.symm
  have hg3 : g < w2.heap.size := by omega
  clear hb3 row3 o2 x2 k2 hy2 hl4 HL2
  go_upto_region 8 with fail
  clear hWe
  go_wp2
  obtain ⟨wa, hwa⟩ : ∃ wa : World, wa = W3 := ⟨_, rfl⟩
  subst hwa
  go_loopw [32] (fun i wr => ∃ (k : Nat) (A1 : Option Addr) (nn cc : Nat), (k ≤ n4 ∧ i = .int .i64 k) ∧ Hid (wr.heap[w2.heap.size]? = some (.cells #[.slice A1 nn cc, .slice A6 n6 c6] 25 (0, 0))) ∧ Hid (OwnD 53 wr wa.heap.size (.slice A1 nn cc) (m.1.take k)) ∧ Hid (Kept w2.heap.size w2.heap.size wa wr)) (fun i _ => n4 - (intOf i).toNat)
  case atStart => exact ⟨0, none, 0, 0, ⟨Nat.zero_le _, rfl⟩, HROW3, Lib.hid (ownD_nil _ _ _), Lib.hid (Kept.refl _ _ _)⟩
  case round =>
    obtain ⟨k, A1, nn, cc, ⟨hk, rfl⟩, HRW, HOW, HK⟩ := hrel
    have hzr := HK.out.size
    by_cases hlt : k < n4
    · obtain ⟨x, hdk⟩ : ∃ x, m.1[k]? = some x := ⟨m.1[k]'(by have := hn4.out; omega), List.getElem?_eq_getElem _⟩
      obtain ⟨x1, x2, x3⟩ := x
      have ho4 : OwnD 55 wr W0.heap.size (.slice A4 n4 c4) m.1 := HO13.out.stay1 (fun b e => by
        have := HL4.out b e
        exact HK.out.block b (by omega) (by omega) (by omega))
      obtain ⟨A4', c4', e4, hc4, hx4⟩ := ho4.rd
      have e5 : A4' = A4 := by injection e4 with e; exact e.symm
      subst e5
      clear e4
      obtain ⟨ad, rfl, hadlt, hda⟩ := hx4 k _ hdk
      obtain ⟨d0, d1, d2⟩ := hda
      have HTK : Hid (m.1.take (k + 1) = m.1.take k ++ [(x1, x2, x3)]) := Lib.hid (by rw [List.take_add_one, hdk]; rfl)
      obtain ⟨W5, hW5⟩ : ∃ W5, Hid (W5 = wr.alloc (.cells #[.int .i64 x1, .int .i64 x2, .int .i64 x3] 55)) := ⟨_, Lib.hid rfl⟩
      have hb5 : Below wr.heap.size wr W5 := by rw [hW5.out]; exact (Below.refl _ _).alloc (Nat.le_refl _) _
      have hz5 : wr.heap.size < W5.heap.size := by rw [hW5.out]; simp
      have g0 : W5.cell? ⟨wr.heap.size, 0, none⟩ = some (.int .i64 x1) := by rw [hW5.out]; exact box_cell _ _ _ 0
      have g1 : W5.cell? ⟨wr.heap.size, 1, none⟩ = some (.int .i64 x2) := by rw [hW5.out]; exact box_cell _ _ _ 1
      have g2 : W5.cell? ⟨wr.heap.size, 2, none⟩ = some (.int .i64 x3) := by rw [hW5.out]; exact box_cell _ _ _ 2
      have row5 := (hb5.block w2.heap.size (by omega)).trans HRW.out
      have c7 : W5.cell? ⟨w2.heap.size, 0, none⟩ = some (.slice A1 nn cc) := cell_of_row W5 _ 0 _ _ (0, 0) row5
      have HO5 := Lib.hid (HOW.out.below hb5)
      have HR5 := Lib.hid row5
      have HK5 : Hid (Kept w2.heap.size w2.heap.size wa W5) := Lib.hid (HK.out.trans ⟨hb5.os, hb5.tape, hb5.output, hb5.size, fun b hb _ _ => hb5.block b hb⟩)
      have HLW := Lib.hid (World.ownsRow.lt HOW.out)
      have hol40 : (m.1.take k).length ≤ 1099511627776 := by have := HS1.out; rw [List.length_take]; omega
      have hbz : wa.heap.size ≤ W5.heap.size := by omega
      have hWe := hW5.out.symm
      clear hb5 row5 ho4 hx4 hdk hc4 hadlt
      go_upto_region 11 with fail
      clear hWe d0 d1 d2
      go_wp2_with (at_builtin; go_must (refine wpList_append_dot (v := .slice A1 nn cc) Try.underlying22 infoMark _ rfl (.tmp 37) (.tmp 39) rfl (x1, x2, x3) (by rfl) (by rfl) HO5.out hol40 hbz ?_))
      intro v6 w6 ho6 hg6 ht6
      have hne6 : ∀ b, _root_.Go.Value.ownBlock (.slice A1 nn cc) = some b → wa.heap.size ≤ b := fun b e => (HLW.out b e).1
      have row6 := (hg6.block w2.heap.size (by omega) (fun e => by have := hne6 _ e.symm; omega)).trans HR5.out
      have c8 : w6.cell? ⟨w2.heap.size, 0, none⟩ = some (.slice A1 nn cc) := cell_of_row w6 _ 0 _ _ (0, 0) row6
      have f8 : w6.frozen? ⟨w2.heap.size, 0, none⟩ = false := frozen_of_row w6 _ 0 _ _ row6
      obtain ⟨A7, c7', rfl⟩ := ownD_slice ho6
      obtain ⟨n7, hn7⟩ : ∃ n, Hid (n = (m.1.take k ++ [(x1, x2, x3)]).length) := ⟨_, Lib.hid rfl⟩
      rw [← hn7.out] at ho6 ⊢
      have hl6 := World.ownsRow.lt ho6
      have HO6 : Hid (OwnD 53 (w6.setCell ⟨w2.heap.size, 0, none⟩ (.slice A7 n7 c7')) wa.heap.size (.slice A7 n7 c7') (m.1.take (k + 1))) := Lib.hid (by
        rw [HTK.out]
        exact ho6.stay1 (fun b e => Below.heap_setCell _ _ _ _ (by have := (hl6 b e).1; show b ≠ w2.heap.size; omega)))
      have HR6 := Lib.hid (Joins.block_setCell row6 (i := 0) (.slice A7 n7 c7'))
      have HK6 : Hid (Kept w2.heap.size w2.heap.size wa (w6.setCell ⟨w2.heap.size, 0, none⟩ (.slice A7 n7 c7'))) := Lib.hid ((HK5.out.grown hg6 hne6).put (.inr rfl))
      clear ho6 hg6 ht6 hne6 row6 hl6 c7
      go_wp2
      go_roundw
      case rel => exact ⟨k + 1, A7, n7, c7', ⟨by omega, by go_num⟩, HR6, HO6, HK6⟩
      case measure => simp [intOf]; omega
    · obtain rfl : k = n4 := by omega
      have c0 : wr.cell? ⟨w2.heap.size, 0, none⟩ = some (.slice A1 nn cc) := cell_of_row wr _ 0 _ _ (0, 0) HRW.out
      have c1 : wr.cell? ⟨w2.heap.size, 1, none⟩ = some (.slice A6 n6 c6) := cell_of_row wr _ 1 _ _ (0, 0) HRW.out
      have ho : OwnD 53 wr wa.heap.size (.slice A1 nn cc) m.1 := by have := HOW.out; rw [hn4.out, List.take_length] at this; exact this
      have ho2 : OwnD 55 wr w1.heap.size (.slice A6 n6 c6) m2.1 := HO23.out.stay1 (fun b e => by
        have := HL6.out b e
        exact HK.out.block b (by omega) (by omega) (by omega))
      have HKw : Hid (Kept g g w wr) := Lib.hid ⟨HK.out.os.trans HK3.out.os, HK.out.tape.trans HK3.out.tape, HK.out.output.trans HK3.out.output, by have := HK3.out.size; omega, fun b hb h1 h2 => (HK.out.block b (by omega) (by omega) (by omega)).trans (HK3.out.block b hb h1 h2)⟩
      have HXw := Lib.hid (HX3.out.keep (HK.out.block g (by omega) (by omega) (by omega)))
      have HR0w := Lib.hid ((HK.out.block w.heap.size (by omega) (by omega) (by omega)).trans HR03.out)
      have HCAN := Lib.hid (can_ref (.agg #[.slice A1 nn cc, .slice A6 n6 c6]) m.1 m2.1 wr (ho.rdC ho2) (by have := HS1.out; omega) (by have := HS2.out; omega))
      have HOA := Lib.hid ho
      have HOB := Lib.hid ho2
      clear ho ho2 HOW HRW
      go_wp2_with fail
      (with_reducible refine HCAN.out.mono ?_); rintro e w7 ⟨b, rfl, hbi, hb7⟩
      have row7 := (hb7.block w.heap.size (by omega)).trans HR0w.out
      have q0 : w7.cell? ⟨w.heap.size, 0, none⟩ = some (.slice none 0 0) := cell_of_row w7 _ 0 _ _ (0, 0) row7
      have q1' : w7.cell? ⟨w.heap.size, 1, none⟩ = some (.slice none 0 0) := cell_of_row w7 _ 1 _ _ (0, 0) row7
      have f0 : w7.frozen? ⟨w.heap.size, 0, none⟩ = false := frozen_of_row w7 _ 0 _ _ row7
      have f1 : w7.frozen? ⟨w.heap.size, 1, none⟩ = false := frozen_of_row w7 _ 1 _ _ row7
      have HK7 : Hid (Kept g g w w7) := Lib.hid (HKw.out.trans ⟨hb7.os, hb7.tape, hb7.output, hb7.size, fun b hb _ _ => hb7.block b hb⟩)
      have HX7 := Lib.hid (HXw.out.keep (hb7.block g (by omega)))
      have HO7 := Lib.hid (HOA.out.below hb7)
      have HO8 := Lib.hid (HOB.out.below hb7)
      have e0 : w7.cell? ⟨w2.heap.size, 0, none⟩ = some (.slice A1 nn cc) := (hb7.cell (p := ⟨_, _, none⟩) (show w2.heap.size < wr.heap.size by omega)).trans c0
      have e1 : w7.cell? ⟨w2.heap.size, 1, none⟩ = some (.slice A6 n6 c6) := (hb7.cell (p := ⟨_, _, none⟩) (show w2.heap.size < wr.heap.size by omega)).trans c1
      have hgn : g ≠ w.heap.size := by omega
      have HROW7 := Lib.hid row7
      clear row7 hb7 c0 c1
      cases b with
      | false =>
        have HN : Hid (¬ OkC m.1 m2.1) := Lib.hid (fun h => by have := hbi.2 h; cases this)
        have HRf := Lib.hid (Joins.block_setCell (Joins.block_setCell HROW7.out (i := 0) (.slice none 0 0)) (i := 1) (.slice none 0 0))
        clear hbi
        go_wp2
        have p0 := cell_of_row _ _ 0 _ _ (0, 0) HRf.out
        have p1 := cell_of_row _ _ 1 _ _ (0, 0) HRf.out
        simp at p0 p1
        refine bodyPost_ret (v := .tuple #[.agg #[.slice none 0 0, .slice none 0 0], .int .i64 30]) (by simp [results, Try.results34, go_sem, p0, p1]) rfl ?_
        refine ⟨(HK7.out.put (.inl (Nat.le_refl _))).put (.inl (Nat.le_refl _)), Or.inr ⟨30, by decide, .inr ⟨by rw [HR.out]; exact HY2.out, by rw [HR.out]; exact HN.out, rfl⟩, rfl, _, HX7.out.keep ((Below.heap_setCell _ _ _ _ hgn).trans (Below.heap_setCell _ _ _ _ hgn)), fun p h => by cases h⟩⟩
      | true =>
        have HOK := Lib.hid (hbi.1 rfl)
        have HRf := Lib.hid (Joins.block_setCell (Joins.block_setCell HROW7.out (i := 0) (.slice A1 nn cc)) (i := 1) (.slice A6 n6 c6))
        clear hbi
        go_wp2
        have p0 := cell_of_row _ _ 0 _ _ (0, 0) HRf.out
        have p1 := cell_of_row _ _ 1 _ _ (0, 0) HRf.out
        simp at p0 p1
        refine bodyPost_ret (v := .tuple #[.agg #[.slice A1 nn cc, .slice A6 n6 c6], .int .i64 0]) (by simp [results, Try.results34, go_sem, p0, p1]) rfl ?_
        refine ⟨(HK7.out.put (.inl (Nat.le_refl _))).put (.inl (Nat.le_refl _)), Or.inl ⟨by rw [HR.out]; exact HY2.out, by rw [HR.out]; exact HOK.out, A1, A6, nn, n6, cc, c6, rfl, ?_, ?_, ?_⟩⟩
        · rw [HR.out]
          exact (HO7.out.stay (fun b h1 h2 => (Below.heap_setCell _ _ _ _ (by show b ≠ w.heap.size; omega)).trans (Below.heap_setCell _ _ _ _ (by show b ≠ w.heap.size; omega)))).base_le (by omega)
        · rw [HR.out]
          exact (HO8.out.stay (fun b h1 h2 => (Below.heap_setCell _ _ _ _ (by show b ≠ w.heap.size; omega)).trans (Below.heap_setCell _ _ _ _ (by show b ≠ w.heap.size; omega)))).base_le (by omega)
        · rw [HR.out]
          exact HX7.out.keep ((Below.heap_setCell _ _ _ _ hgn).trans (Below.heap_setCell _ _ _ _ hgn))
end Go.Proofs.Ytnlohijpcnoamaa
namespace Go.Proofs.Ytnlohijpcnoamaa
open Go.RowKit
open Go.Lib (byteCells byteCells_length)

set_option maxRecDepth 100000 in
set_option maxHeartbeats 6400000 in
theorem refDecode_any (w : World) (g : Nat) (A : Option Addr) (c : Nat) (bs : List UInt8) (hi p : Nat) (h : XRd w g A c bs p) (hr : RdA w 0 hi A bs) (hg : hi ≤ g) :
    Calls Try.prog 14 #[.pointer (some ⟨g, 0, none⟩)] w (RefDec g A c bs (some p) (readS bs p 0) w) := by
  have hgw := h.lt
  obtain ⟨W0, hW0⟩ : ∃ W0, Hid (W0 = w.alloc (.cells #[.slice none 0 0, .slice none 0 0] 25)) := ⟨_, Lib.hid rfl⟩
  have hb0 : Below w.heap.size w W0 := by rw [hW0.out]; exact (Below.refl _ _).alloc (Nat.le_refl _) _
  have hz0 : w.heap.size < W0.heap.size := by rw [hW0.out]; simp
  have row0 : W0.heap[w.heap.size]? = some (.cells #[.slice none 0 0, .slice none 0 0] 25 (0, 0)) := by rw [hW0.out]; exact heap_alloc_new w _
  have hx0 := h.keep (hb0.block g hgw)
  have HL1 := Lib.hid (refRead_any W0 g A c bs hi p hx0 (hr.keep fun q _ hq => hb0.cell (by omega)) hg)
  have HB0 := Lib.hid hb0
  have HROW0 := Lib.hid row0
  have s1 : W0.cell? ⟨g, 1, none⟩ = some (.int .i64 (p : Int)) := hx0.cell 1
  have HLE := Lib.hid h.le
  obtain ⟨r, hr'⟩ : ∃ r, Hid (r = readS bs p 0) := ⟨_, Lib.hid rfl⟩
  rw [← hr'.out] at HL1 ⊢
  have hWe := hW0.out.symm
  clear h hr hb0 row0 hx0
  go_enter Try.func14, Try.ntmps14
  go_upto_region 1 with fail
  clear hWe
  go_wp2_with fail
  (with_reducible refine HL1.out.mono ?_); rintro e w1 ⟨k1, (⟨hy, hok, A1, A2, n1, n2, c1, c2, rfl, o1, o2, x1⟩ | ⟨y, hy, hyr, rfl, q, x1, _⟩)⟩
  · have hz1 := k1.size
    obtain ⟨W2, hW2⟩ : ∃ W2, Hid (W2 = w1.alloc (.cells #[.slice A1 n1 c1, .slice A2 n2 c2] 25)) := ⟨_, Lib.hid rfl⟩
    have hb2 : Below w1.heap.size w1 W2 := by rw [hW2.out]; exact (Below.refl _ _).alloc (Nat.le_refl _) _
    have hz2 : w1.heap.size < W2.heap.size := by rw [hW2.out]; simp
    have e0 : W2.cell? ⟨w1.heap.size, 0, none⟩ = some (.slice A1 n1 c1) := by rw [hW2.out]; exact box_cell _ _ _ 0
    have e1 : W2.cell? ⟨w1.heap.size, 1, none⟩ = some (.slice A2 n2 c2) := by rw [hW2.out]; exact box_cell _ _ _ 1
    have row2 := (hb2.block w.heap.size (by omega)).trans ((k1.block _ hz0 (by omega) (by omega)).trans HROW0.out)
    have q0 : W2.cell? ⟨w.heap.size, 0, none⟩ = some (.slice none 0 0) := cell_of_row W2 _ 0 _ _ (0, 0) row2
    have q1' : W2.cell? ⟨w.heap.size, 1, none⟩ = some (.slice none 0 0) := cell_of_row W2 _ 1 _ _ (0, 0) row2
    have f0 : W2.frozen? ⟨w.heap.size, 0, none⟩ = false := frozen_of_row W2 _ 0 _ _ row2
    have f1 : W2.frozen? ⟨w.heap.size, 1, none⟩ = false := frozen_of_row W2 _ 1 _ _ row2
    have HRf := Lib.hid (Joins.block_setCell (Joins.block_setCell row2 (i := 0) (.slice A1 n1 c1)) (i := 1) (.slice A2 n2 c2))
    have HK2 : Hid (Kept g g w W2) := Lib.hid (((Kept.of HB0.out).trans k1).trans ⟨hb2.os, hb2.tape, hb2.output, hb2.size, fun b hb _ _ => hb2.block b hb⟩)
    have HX2 := Lib.hid (x1.keep (hb2.block g x1.lt))
    have HO1 := Lib.hid (o1.below hb2)
    have HO2 := Lib.hid (o2.below hb2)
    have HOK := Lib.hid hok
    have HY := Lib.hid hy
    have hgn : g ≠ w.heap.size := by omega
    have hWe := hW2.out.symm
    clear hb2 row2 k1 o1 o2 x1 hok hy HL1 s1
    go_upto_region 3 with fail
    clear hWe
    go_wp2
    have p0 := cell_of_row _ _ 0 _ _ (0, 0) HRf.out
    have p1 := cell_of_row _ _ 1 _ _ (0, 0) HRf.out
    simp at p0 p1
    refine bodyPost_ret (v := .tuple #[.agg #[.slice A1 n1 c1, .slice A2 n2 c2], .int .i64 0]) (by simp [results, Try.results14, go_sem, p0, p1]) rfl ?_
    refine ⟨(HK2.out.put (.inl (Nat.le_refl _))).put (.inl (Nat.le_refl _)), Or.inl ⟨HY.out, HOK.out, A1, A2, n1, n2, c1, c2, rfl, ?_, ?_, ?_⟩⟩
    · exact (HO1.out.stay (fun b h1 h2 => (Below.heap_setCell _ _ _ _ (by show b ≠ w.heap.size; omega)).trans (Below.heap_setCell _ _ _ _ (by show b ≠ w.heap.size; omega)))).base_le (by omega)
    · exact (HO2.out.stay (fun b h1 h2 => (Below.heap_setCell _ _ _ _ (by show b ≠ w.heap.size; omega)).trans (Below.heap_setCell _ _ _ _ (by show b ≠ w.heap.size; omega)))).base_le (by omega)
    · exact HX2.out.keep ((Below.heap_setCell _ _ _ _ hgn).trans (Below.heap_setCell _ _ _ _ hgn))
  · have t1 : (y != 0) = true := by simpa using hy
    have hz1 := k1.size
    obtain ⟨W2, hW2⟩ : ∃ W2, Hid (W2 = (w1.alloc (.cells #[.slice none 0 0, .slice none 0 0] 25)).setCell ⟨g, 1, none⟩ (.int .i64 (p : Int))) := ⟨_, Lib.hid rfl⟩
    obtain ⟨W1, hW1⟩ : ∃ W1, Hid (W1 = w1.alloc (.cells #[.slice none 0 0, .slice none 0 0] 25)) := ⟨_, Lib.hid rfl⟩
    have hb1 : Below w1.heap.size w1 W1 := by rw [hW1.out]; exact (Below.refl _ _).alloc (Nat.le_refl _) _
    rw [← hW1.out] at hW2
    have x1' := x1.keep (hb1.block g x1.lt)
    have u1 : W1.cell? ⟨g, 1, none⟩ = some (.int .i64 (q : Int)) := x1'.cell 1
    have z1 : W1.frozen? ⟨g, 1, none⟩ = false := x1'.frozen 1
    have HX2 : Hid (XRd W2 g A c bs p) := Lib.hid (x1'.moved (show AtIs W1 W2 g 1 (p : Int) from ⟨0, by rw [hW2.out]; rfl⟩) HLE.out)
    have HK1 : Hid (Kept g g w W1) := Lib.hid (((Kept.of HB0.out).trans k1).trans ⟨hb1.os, hb1.tape, hb1.output, hb1.size, fun b hb _ _ => hb1.block b hb⟩)
    have HK2 : Hid (Kept g g w W2) := Lib.hid (by rw [hW2.out]; exact HK1.out.put (.inr rfl))
    have hgn : g ≠ w.heap.size := by omega
    have row2 : W2.heap[w.heap.size]? = some (.cells #[.slice none 0 0, .slice none 0 0] 25 (0, 0)) := by
      rw [hW2.out]
      exact (Below.heap_setCell _ _ _ _ (by show w.heap.size ≠ g; omega)).trans ((hb1.block w.heap.size (by omega)).trans ((k1.block _ hz0 (by omega) (by omega)).trans HROW0.out))
    have q0 : W2.cell? ⟨w.heap.size, 0, none⟩ = some (.slice none 0 0) := cell_of_row W2 _ 0 _ _ (0, 0) row2
    have q1' : W2.cell? ⟨w.heap.size, 1, none⟩ = some (.slice none 0 0) := cell_of_row W2 _ 1 _ _ (0, 0) row2
    have f0 : W2.frozen? ⟨w.heap.size, 0, none⟩ = false := frozen_of_row W2 _ 0 _ _ row2
    have f1 : W2.frozen? ⟨w.heap.size, 1, none⟩ = false := frozen_of_row W2 _ 1 _ _ row2
    have HRf := Lib.hid (Joins.block_setCell (Joins.block_setCell row2 (i := 0) (.slice none 0 0)) (i := 1) (.slice none 0 0))
    have HYR := Lib.hid hyr
    have HY := Lib.hid hy
    clear hb1 row2 k1 x1 x1' hyr hy HL1 s1
    go_upto_region 3 with fail
    rw [← hW1.out]
    have hWe2 := hW2.out.symm
    go_upto_region 5 with fail
    clear hWe2
    go_wp2
    have p0 := cell_of_row _ _ 0 _ _ (0, 0) HRf.out
    have p1 := cell_of_row _ _ 1 _ _ (0, 0) HRf.out
    simp at p0 p1
    refine bodyPost_ret (v := .tuple #[.agg #[.slice none 0 0, .slice none 0 0], .int .i64 y]) (by simp [results, Try.results14, go_sem, p0, p1]) rfl ?_
    refine ⟨(HK2.out.put (.inl (Nat.le_refl _))).put (.inl (Nat.le_refl _)), Or.inr ⟨y, HY.out, HYR.out, rfl, p, HX2.out.keep ((Below.heap_setCell _ _ _ _ hgn).trans (Below.heap_setCell _ _ _ _ hgn)), fun p' h => Option.some.inj h⟩⟩
end Go.Proofs.Ytnlohijpcnoamaa
namespace Go.Proofs.Ytnlohijpcnoamaa
open Go.RowKit
open Go.Lib (byteCells byteCells_length byteCells_append strCells strCells_eq)

theorem nums_dotN3 (d : DotA) : nums (dotN d) = num d.1.toNat ++ num d.2.1.toNat ++ num d.2.2.toNat := by simp [nums, dotN]
theorem num_short (n : Nat) : (num n).length ≤ 1024 := by have := num_length n; omega
theorem refPut_own {base : Nat} {v : Value} {bs : List UInt8} {n : Int} {w : World} (h : Own w base v bs) (hb : base ≤ w.heap.size) (hl : bs.length ≤ 1099511627776) (hn : n ≤ 9223372036854775807) :
    Calls Try.prog 27 #[v, .int .i64 n] w fun e w' => ∃ v', e = .returned v' ∧ Own w' base v' (bs ++ num n.toNat) ∧ Below w.heap.size w w' :=
  (refPut_any v bs n w (h.rd.mono (Nat.zero_le _) (Nat.le_refl _)) hl hn).mono fun _ _ ⟨v', e, ho, hb'⟩ => ⟨v', e, ho.base_le hb, hb'⟩

set_option maxRecDepth 100000 in
set_option maxHeartbeats 6400000 in
theorem refEncode_any (bv v : Value) (bs : List UInt8) (ms ds : List DotA) (w : World) (hb : Rd w 0 w.heap.size bv bs) (hbl : bs.length ≤ 1048576) (h : RdC w v ms ds) (hlm : ms.length ≤ 1099511627776) (hld : ds.length ≤ 1099511627776) :
    Calls Try.prog 8 #[bv, v] w (EncPost bs ms ds w) := by
  obtain ⟨mv, dv, rfl, hm, hd⟩ := h
  obtain ⟨W, hW⟩ : ∃ W, Hid (W = w.alloc (.cells #[mv, dv] 25)) := ⟨_, Lib.hid rfl⟩
  have hb0 : Below w.heap.size w W := by rw [hW.out]; exact (Below.refl _ _).alloc (Nat.le_refl _) _
  have hbc : BoxC W w.heap.size mv dv := by rw [hW.out]; exact ⟨box_cell _ _ _ 0, box_cell _ _ _ 1⟩
  have hlt0 : w.heap.size < W.heap.size := by rw [hW.out]; simp
  have HM := Lib.hid (hm.below hb0)
  have HD := Lib.hid (hd.below hb0)
  have HB := Lib.hid hb0
  have HBS := Lib.hid (hb.below hb0 (Nat.le_refl _))
  have HCAN := Lib.hid (can_ref (.agg #[mv, dv]) ms ds W ⟨mv, dv, rfl, HM.out, HD.out⟩ hlm hld)
  have hWe := hW.out.symm
  have b0 := hbc.1
  have b1 := hbc.2
  clear hb0 hbc hW hb hm hd
  by_cases hok : OkC ms ds
  · have HOK := Lib.hid hok
    have HMM := Lib.hid (fun (j : Nat) (d : DotA) (hj : ms[j]? = some d) => may_small (hok.2.2.1.1 j d hj))
    have HMD := Lib.hid (fun (j : Nat) (d : DotA) (hj : ds[j]? = some d) => may_small (hok.2.2.2.1 j d hj).1)
    have hl1 := hok.1
    have hl2 := hok.2.1
    clear hok hlm hld
    obtain ⟨A, c, rfl, hc, hx⟩ := HM.out
    obtain ⟨A1, c1, rfl, hc1, hx1⟩ := HD.out
    have HX := Lib.hid hx
    have HX1 := Lib.hid hx1
    obtain ⟨n, hn⟩ : ∃ n, Hid (n = ms.length) := ⟨_, Lib.hid rfl⟩
    obtain ⟨n1, hn1⟩ : ∃ n1, Hid (n1 = ds.length) := ⟨_, Lib.hid rfl⟩
    rw [← hn.out] at hl1 hc HCAN hWe b0 HM ⊢
    rw [← hn1.out] at hl2 hc1 HCAN hWe b1 HD ⊢
    clear hx hx1 HM HD
    go_enter Try.func8, Try.ntmps8
    go_wp2_with fail
    clear hWe
    (with_reducible refine HCAN.out.mono ?_); rintro e w1 ⟨b, rfl, hbi, hb1⟩
    cases hbi.2 HOK.out
    have c0 : w1.cell? ⟨w.heap.size, 0, none⟩ = some (.slice A n c) := (hb1.cell (p := ⟨w.heap.size, 0, none⟩) hlt0).trans b0
    have HB1 := Lib.hid hb1
    have hs1 := hb1.size
    have HP1 := Lib.hid (refPut_any bv bs (n : Int) w1 ((HBS.out.below hb1 (Nat.le_of_lt hlt0)).mono (Nat.le_refl _) (by omega)) (by omega) (by omega))
    clear hbi hb1
    go_wp2_with fail
    (with_reducible refine HP1.out.mono ?_); rintro e w2 ⟨v2, rfl, hown2, hb2⟩
    have HO2 : Hid (Own w2 W.heap.size v2 (bs ++ num n ++ nums (dotsN (ms.take 0)))) := Lib.hid (by simpa [nums, dotsN] using hown2.base_le hs1)
    have HB2 : Hid (Below W.heap.size W w2) := Lib.hid (below_next HB1.out hb2)
    have e0 : w2.cell? ⟨w.heap.size, 0, none⟩ = some (.slice A n c) := (HB2.out.cell (p := ⟨w.heap.size, 0, none⟩) hlt0).trans b0
    clear hown2 hb2 c0 HP1
    go_wp2
    go_loopw [21, 0] (fun i x wr => ∃ (k : Nat), k ≤ n ∧ i = .int .i64 k ∧ Hid (Own wr W.heap.size x (bs ++ num n ++ nums (dotsN (ms.take k)))) ∧ Below W.heap.size W wr) (fun i _ _ => n - (intOf i).toNat)
    case atStart => exact ⟨0, Nat.zero_le _, rfl, HO2, HB2.out⟩
    case round =>
      obtain ⟨k, hk, rfl, HO, hb⟩ := hrel
      have HBB := Lib.hid hb
      have hbs := hb.size
      have hxr := HX.out.below hb (Nat.le_refl _)
      by_cases hlt : k < n
      · obtain ⟨x, hdk⟩ : ∃ x, ms[k]? = some x := ⟨ms[k]'(by have := hn.out; omega), List.getElem?_eq_getElem _⟩
        obtain ⟨ad, rfl, hadlt, hda⟩ := hxr k x hdk
        obtain ⟨d0, d1, d2⟩ := hda
        have HT := Lib.hid (dotsN_take hdk)
        obtain ⟨m0, m1, m2⟩ := HMM.out k x hdk
        clear hdk hxr hb
        obtain ⟨W2, hW2⟩ : ∃ W2, Hid (W2 = wr.alloc (.cells #[.int .i64 x.1, .int .i64 x.2.1, .int .i64 x.2.2] 53)) := ⟨_, Lib.hid rfl⟩
        have hbA : Below wr.heap.size wr W2 := by rw [hW2.out]; exact (Below.refl _ _).alloc (Nat.le_refl _) _
        have hzW2 : wr.heap.size < W2.heap.size := by rw [hW2.out]; simp
        have hbox : ∀ w', Below W2.heap.size W2 w' → w'.cell? ⟨wr.heap.size, 0, none⟩ = some (.int .i64 x.1) ∧ w'.cell? ⟨wr.heap.size, 1, none⟩ = some (.int .i64 x.2.1) ∧ w'.cell? ⟨wr.heap.size, 2, none⟩ = some (.int .i64 x.2.2) := fun w' hb => by
          refine ⟨(hb.cell (p := ⟨_, _, none⟩) hzW2).trans ?_, (hb.cell (p := ⟨_, _, none⟩) hzW2).trans ?_, (hb.cell (p := ⟨_, _, none⟩) hzW2).trans ?_⟩ <;> rw [hW2.out]
          · exact box_cell _ _ _ 0
          · exact box_cell _ _ _ 1
          · exact box_cell _ _ _ 2
        obtain ⟨g0, g1, g2⟩ := hbox W2 (Below.refl _ _)
        have HBOX := Lib.hid hbox
        have HB3 := Lib.hid (HBB.out.trans (hbA.mono hbs))
        obtain ⟨ws, hws⟩ : ∃ ws, Hid (ws = bs ++ num n ++ nums (dotsN (ms.take k))) := ⟨_, Lib.hid rfl⟩
        have hol : ws.length ≤ 1073741824 := by
          have := num_length n
          have := dotsN_short k (ds := ms) (by rw [← hn.out]; exact hl1)
          rw [hws.out, List.length_append, List.length_append]; omega
        rw [← hws.out] at HO
        have HOW := Lib.hid (HO.out.below hbA)
        have hWs : W.heap.size ≤ W2.heap.size := by omega
        have q0 := num_short x.1.toNat
        have q1 := num_short x.2.1.toNat
        have HQ := Lib.hid (And.intro q0 q1)
        have HP1 := Lib.hid (fun w' (hb : Below W2.heap.size W2 w') => refPut_own (n := x.1) (HOW.out.below hb) (Nat.le_trans hWs hb.size) (by omega) m0)
        have HMS := Lib.hid (And.intro m1 m2)
        have hWe2 := hW2.out.symm
        clear hbA m0 m1 m2 hbox q0 q1
        go_upto_region 7 with fail
        clear hWe2
        go_region_law
          (first
            | (go_simp; go_at_call 27
               refine Calls.mono (HP3.out _ ?_) ?_
               · (repeat' (first | assumption | exact Below.refl _ _ | refine below_alloc ?_ | refine below_drew ?_))
               rintro e w7 ⟨v7, rfl, ho7, hb7⟩
               have HO7 := Lib.hid ho7
               have HB7 := Lib.hid (below_next HB6.out hb7)
               clear ho7 hb7)
            | (go_simp; go_at_call 27
               refine Calls.mono (HP2.out _ ?_) ?_
               · (repeat' (first | assumption | exact Below.refl _ _ | refine below_alloc ?_ | refine below_drew ?_))
               rintro e w6 ⟨v6, rfl, ho6, hb6⟩
               have HB6 := Lib.hid (below_next HB5.out hb6)
               obtain ⟨i0, i1, i2⟩ := HBOX.out w6 HB6.out
               have HP3 := Lib.hid (fun w' (hb : Below w6.heap.size w6 w') => refPut_own (n := x.2.2) (ho6.below hb) (Nat.le_trans hWs (Nat.le_trans HB6.out.size hb.size)) (by have := HQ.out; simp only [List.length_append]; omega) HMS.out.2)
               clear ho6 hb6)
            | (go_simp; go_at_call 27
               refine Calls.mono (HP1.out _ ?_) ?_
               · (repeat' (first | assumption | exact Below.refl _ _ | refine below_alloc ?_ | refine below_drew ?_))
               rintro e w5 ⟨v5, rfl, ho5, hb5⟩
               have HB5 := Lib.hid (show Below W2.heap.size W2 w5 from by first | exact hb5 | exact (Below.refl _ _).drew.trans hb5)
               obtain ⟨h0, h1, h2⟩ := HBOX.out w5 HB5.out
               have HP2 := Lib.hid (fun w' (hb : Below w5.heap.size w5 w') => refPut_own (n := x.2.1) (ho5.below hb) (Nat.le_trans hWs (Nat.le_trans HB5.out.size hb.size)) (by have := HQ.out; simp only [List.length_append]; omega) HMS.out.1)
               clear ho5 hb5)
            | fail)
        all_goals
          go_wp2
          go_roundw
          case rel => exact ⟨k + 1, by omega, by go_num, Lib.hid (by rw [HT.out, nums_dotN3, ← List.append_assoc, ← List.append_assoc, ← List.append_assoc, ← hws.out]; exact HO7.out), HB3.out.trans (HB7.out.mono hWs)⟩
          case measure => simp [intOf]; omega
      · have hkn : k = n := by omega
        obtain ⟨us, hus⟩ : ∃ us, Hid (us = bs ++ num n ++ nums (dotsN ms)) := ⟨_, Lib.hid rfl⟩
        have HO3 : Hid (Own wr W.heap.size u0 us) := Lib.hid (by have := HO.out; rw [hkn, hn.out, List.take_length] at this; rw [hus.out, hn.out]; exact this)
        have e1 : wr.cell? ⟨w.heap.size, 1, none⟩ = some (.slice A1 n1 c1) := (hb.cell (p := ⟨w.heap.size, 1, none⟩) hlt0).trans b1
        have hol : us.length ≤ 1073741824 := by
          have := num_length n
          have := dotsN_short ms.length (ds := ms) (by rw [← hn.out]; exact hl1)
          rw [List.take_length] at this
          rw [hus.out, List.length_append, List.length_append]; omega
        have HP1 := Lib.hid (refPut_own (n := (n1 : Int)) HO3.out hbs (by omega) (by omega))
        clear hxr hb HO hkn
        go_wp2_with fail
        clear hlt
        (with_reducible refine HP1.out.mono ?_); rintro e w3 ⟨v3, rfl, hown3, hb3⟩
        have HO4 : Hid (Own w3 W.heap.size v3 (us ++ num n1 ++ nums (dotsN (ds.take 0)))) := Lib.hid (by simpa [nums, dotsN] using hown3)
        have HB4 : Hid (Below W.heap.size W w3) := Lib.hid (below_next HBB.out hb3)
        have f1 : w3.cell? ⟨w.heap.size, 1, none⟩ = some (.slice A1 n1 c1) := (HB4.out.cell (p := ⟨w.heap.size, 1, none⟩) hlt0).trans b1
        clear hown3 hb3 e1 HP1
        go_wp2
        obtain ⟨wa, hwa⟩ : ∃ wa : World, wa = w3 := ⟨_, rfl⟩
        subst hwa
        go_loopw [44, 0] (fun i x wr => ∃ (k : Nat), k ≤ n1 ∧ i = .int .i64 k ∧ Hid (Own wr W.heap.size x (us ++ num n1 ++ nums (dotsN (ds.take k)))) ∧ Below W.heap.size W wr) (fun i _ _ => n1 - (intOf i).toNat)
        case atStart => exact ⟨0, Nat.zero_le _, rfl, HO4, HB4.out⟩
        case round =>
          obtain ⟨k, hk, rfl, HO, hb⟩ := hrel
          have HBB := Lib.hid hb
          have hbs := hb.size
          have hxr := HX1.out.below hb (Nat.le_refl _)
          by_cases hlt : k < n1
          · obtain ⟨x, hdk⟩ : ∃ x, ds[k]? = some x := ⟨ds[k]'(by have := hn1.out; omega), List.getElem?_eq_getElem _⟩
            obtain ⟨ad, rfl, hadlt, hda⟩ := hxr k x hdk
            obtain ⟨d0, d1, d2⟩ := hda
            have HT := Lib.hid (dotsN_take hdk)
            obtain ⟨m0, m1, m2⟩ := HMD.out k x hdk
            clear hdk hxr hb
            obtain ⟨W2, hW2⟩ : ∃ W2, Hid (W2 = wr.alloc (.cells #[.int .i64 x.1, .int .i64 x.2.1, .int .i64 x.2.2] 55)) := ⟨_, Lib.hid rfl⟩
            have hbA : Below wr.heap.size wr W2 := by rw [hW2.out]; exact (Below.refl _ _).alloc (Nat.le_refl _) _
            have hzW2 : wr.heap.size < W2.heap.size := by rw [hW2.out]; simp
            have hbox : ∀ w', Below W2.heap.size W2 w' → w'.cell? ⟨wr.heap.size, 0, none⟩ = some (.int .i64 x.1) ∧ w'.cell? ⟨wr.heap.size, 1, none⟩ = some (.int .i64 x.2.1) ∧ w'.cell? ⟨wr.heap.size, 2, none⟩ = some (.int .i64 x.2.2) := fun w' hb => by
              refine ⟨(hb.cell (p := ⟨_, _, none⟩) hzW2).trans ?_, (hb.cell (p := ⟨_, _, none⟩) hzW2).trans ?_, (hb.cell (p := ⟨_, _, none⟩) hzW2).trans ?_⟩ <;> rw [hW2.out]
              · exact box_cell _ _ _ 0
              · exact box_cell _ _ _ 1
              · exact box_cell _ _ _ 2
            obtain ⟨g0, g1, g2⟩ := hbox W2 (Below.refl _ _)
            have HBOX := Lib.hid hbox
            have HB3 := Lib.hid (HBB.out.trans (hbA.mono hbs))
            obtain ⟨ws, hws⟩ : ∃ ws, Hid (ws = us ++ num n1 ++ nums (dotsN (ds.take k))) := ⟨_, Lib.hid rfl⟩
            have hol2 : ws.length ≤ 2147483648 := by
              have := num_length n1
              have := dotsN_short k (ds := ds) (by rw [← hn1.out]; exact hl2)
              rw [hws.out, List.length_append, List.length_append]; omega
            rw [← hws.out] at HO
            have HOW := Lib.hid (HO.out.below hbA)
            have hWs : W.heap.size ≤ W2.heap.size := by omega
            have q0 := num_short x.1.toNat
            have q1 := num_short x.2.1.toNat
            have HQ := Lib.hid (And.intro q0 q1)
            have HP1 := Lib.hid (fun w' (hb : Below W2.heap.size W2 w') => refPut_own (n := x.1) (HOW.out.below hb) (Nat.le_trans hWs hb.size) (by omega) m0)
            have HMS := Lib.hid (And.intro m1 m2)
            have hWe2 := hW2.out.symm
            clear hbA m0 m1 m2 hbox q0 q1
            go_upto_region 13 with fail
            clear hWe2
            go_region_law
              (first
                | (go_simp; go_at_call 27
                   refine Calls.mono (HP3.out _ ?_) ?_
                   · (repeat' (first | assumption | exact Below.refl _ _ | refine below_alloc ?_ | refine below_drew ?_))
                   rintro e w7 ⟨v7, rfl, ho7, hb7⟩
                   have HO7 := Lib.hid ho7
                   have HB7 := Lib.hid (below_next HB6.out hb7)
                   clear ho7 hb7)
                | (go_simp; go_at_call 27
                   refine Calls.mono (HP2.out _ ?_) ?_
                   · (repeat' (first | assumption | exact Below.refl _ _ | refine below_alloc ?_ | refine below_drew ?_))
                   rintro e w6 ⟨v6, rfl, ho6, hb6⟩
                   have HB6 := Lib.hid (below_next HB5.out hb6)
                   obtain ⟨i0, i1, i2⟩ := HBOX.out w6 HB6.out
                   have HP3 := Lib.hid (fun w' (hb : Below w6.heap.size w6 w') => refPut_own (n := x.2.2) (ho6.below hb) (Nat.le_trans hWs (Nat.le_trans HB6.out.size hb.size)) (by have := HQ.out; simp only [List.length_append]; omega) HMS.out.2)
                   clear ho6 hb6)
                | (go_simp; go_at_call 27
                   refine Calls.mono (HP1.out _ ?_) ?_
                   · (repeat' (first | assumption | exact Below.refl _ _ | refine below_alloc ?_ | refine below_drew ?_))
                   rintro e w5 ⟨v5, rfl, ho5, hb5⟩
                   have HB5 := Lib.hid (show Below W2.heap.size W2 w5 from by first | exact hb5 | exact (Below.refl _ _).drew.trans hb5)
                   obtain ⟨h0, h1, h2⟩ := HBOX.out w5 HB5.out
                   have HP2 := Lib.hid (fun w' (hb : Below w5.heap.size w5 w') => refPut_own (n := x.2.1) (ho5.below hb) (Nat.le_trans hWs (Nat.le_trans HB5.out.size hb.size)) (by have := HQ.out; simp only [List.length_append]; omega) HMS.out.1)
                   clear ho5 hb5)
                | fail)
            all_goals
              go_wp2
              go_roundw
              case rel => exact ⟨k + 1, by omega, by go_num, Lib.hid (by rw [HT.out, nums_dotN3, ← List.append_assoc, ← List.append_assoc, ← List.append_assoc, ← hws.out]; exact HO7.out), HB3.out.trans (HB7.out.mono hWs)⟩
              case measure => simp [intOf]; omega
          · have hkn2 : k = n1 := by omega
            have HO6 : Hid (Own wr W.heap.size u0 (bs ++ codeC ms ds)) := Lib.hid (by
              have := HO.out
              rw [hkn2, hn1.out, List.take_length, hus.out, hn.out] at this
              rw [codeC, ← List.append_assoc, ← List.append_assoc, ← List.append_assoc]; exact this)
            clear hxr hb HO hkn2
            go_wp2
            go_ret2
            exact .inl ⟨HOK.out, _, rfl, HO6.out.base_le (Nat.le_of_lt hlt0), HB.out.trans (HBB.out.mono (Nat.le_of_lt hlt0))⟩
  · have HOK := Lib.hid hok
    go_enter Try.func8, Try.ntmps8
    go_wp2_with fail
    clear hWe
    (with_reducible refine HCAN.out.mono ?_); rintro e w1 ⟨b, rfl, hbi, hb1⟩
    cases b with
    | true => exact absurd (hbi.1 rfl) HOK.out
    | false =>
      have HB1 := Lib.hid (HB.out.trans (hb1.mono (Nat.le_of_lt hlt0)))
      clear hbi hb1
      go_wp2
      go_ret2
      exact .inr ⟨HOK.out, rfl, HB1.out⟩
end Go.Proofs.Ytnlohijpcnoamaa
namespace Go.Proofs.Ytnlohijpcnoamaa
open Go.RowKit Go.Sort Go.BigFrame

/-- What an encoding answers: the bytes, the error. -/
def EncRel (bs : List UInt8) (ms ds : List DotA) (xs : List UInt8) (er : Int) : Prop := (OkC ms ds ∧ xs = bs ++ codeC ms ds ∧ er = 0) ∨ (¬ OkC ms ds ∧ xs = [] ∧ er = 30)
theorem encRel_eq {bs : List UInt8} {ms ds : List DotA} {xs ys : List UInt8} {e f : Int} (h : EncRel bs ms ds xs e) (h1 : EncRel bs ms ds ys f) : ys = xs ∧ f = e := by
  rcases h with ⟨a, b, c⟩ | ⟨a, b, c⟩ <;> rcases h1 with ⟨a', b', c'⟩ | ⟨a', b', c'⟩
  · exact ⟨by rw [b, b'], by rw [c, c']⟩
  · exact absurd a a'
  · exact absurd a' a
  · exact ⟨by rw [b, b'], by rw [c, c']⟩
theorem encPost_rel {bs : List UInt8} {ms ds : List DotA} {w w' : World} {e : Ending} (h : EncPost bs ms ds w e w') :
    ∃ v xs er, e = .returned (.tuple #[v, .int .i64 er]) ∧ Own w' w.heap.size v xs ∧ EncRel bs ms ds xs er ∧ Below w.heap.size w w' := by
  rcases h with ⟨hok, v, rfl, ho, hb⟩ | ⟨hno, rfl, hb⟩
  · exact ⟨v, _, 0, rfl, ho, .inl ⟨hok, rfl, rfl⟩, hb⟩
  · exact ⟨_, [], 30, rfl, own_nil _ _, .inr ⟨hno, rfl, rfl⟩, hb⟩
/-- What a decoding answers: marks, dots, the error, and where the reader is then. -/
def DecRel (p : Nat) (r : List DotA × List DotA × Nat × Int) (ms ds : List DotA) (er : Int) (q : Nat) : Prop :=
  (r.2.2.2 = 0 ∧ OkC r.1 r.2.1 ∧ ms = r.1 ∧ ds = r.2.1 ∧ er = 0 ∧ q = r.2.2.1) ∨ (((r.2.2.2 ≠ 0 ∧ er = r.2.2.2) ∨ (r.2.2.2 = 0 ∧ ¬ OkC r.1 r.2.1 ∧ er = 30)) ∧ ms = [] ∧ ds = [] ∧ q = p)
theorem decRel_eq {p : Nat} {r : List DotA × List DotA × Nat × Int} {ms ds ms' ds' : List DotA} {e e' : Int} {q q' : Nat} (h : DecRel p r ms ds e q) (h1 : DecRel p r ms' ds' e' q') : ms' = ms ∧ ds' = ds ∧ e' = e ∧ q' = q := by
  rcases h with ⟨a1, a2, a3, a4, a5, a6⟩ | ⟨a1, a2, a3, a4⟩ <;> rcases h1 with ⟨b1, b2, b3, b4, b5, b6⟩ | ⟨b1, b2, b3, b4⟩
  · exact ⟨by rw [a3, b3], by rw [a4, b4], by rw [a5, b5], by rw [a6, b6]⟩
  · rcases b1 with ⟨b, _⟩ | ⟨_, b, _⟩
    · exact absurd a1 b
    · exact absurd a2 b
  · rcases a1 with ⟨a, _⟩ | ⟨_, a, _⟩
    · exact absurd b1 a
    · exact absurd b2 a
  · refine ⟨by rw [a2, b2], by rw [a3, b3], ?_, by rw [a4, b4]⟩
    rcases a1 with ⟨a, x⟩ | ⟨a, _, x⟩ <;> rcases b1 with ⟨b, y⟩ | ⟨b, _, y⟩
    · rw [x, y]
    · exact absurd b a
    · exact absurd a b
    · rw [x, y]
theorem decRel_short {p : Nat} {bs : List UInt8} {ms ds : List DotA} {er : Int} {q : Nat} (h : DecRel p (readS bs p 0) ms ds er q) : ms.length ≤ 64 ∧ ds.length ≤ 64 := by
  rcases h with ⟨_, _, h1, h2, _⟩ | ⟨_, h1, h2, _⟩
  · rw [h1, h2]; exact readS_short bs p 0
  · subst h1 h2; simp
theorem decPost_rel {g : Nat} {A : Option Addr} {c p : Nat} {bs : List UInt8} {r : List DotA × List DotA × Nat × Int} {w w' : World} {e : Ending} (h : DecPost g A c bs r w e w') (hr : Rdr w g A c bs p) :
    ∃ (A1 A2 : Option Addr) (n1 n2 c1 c2 : Nat) (ms ds : List DotA) (er : Int) (q : Nat), e = .returned (.tuple #[.agg #[.slice A1 n1 c1, .slice A2 n2 c2], .int .i64 er]) ∧ OwnD 53 w' w.heap.size (.slice A1 n1 c1) ms ∧ OwnD 55 w' w.heap.size (.slice A2 n2 c2) ds ∧ DecRel p r ms ds er q ∧ Rdr w' g A c bs q ∧ Kept g g w w' := by
  rcases h with ⟨h1, h2, A1, A2, n1, n2, c1, c2, rfl, o1, o2, hx, hk⟩ | ⟨y, _, hy, rfl, hb⟩
  · exact ⟨A1, A2, n1, n2, c1, c2, _, _, 0, _, rfl, o1, o2, .inl ⟨h1, h2, rfl, rfl, rfl, rfl⟩, hx, hk⟩
  · exact ⟨none, none, 0, 0, 0, 0, [], [], y, p, rfl, ownD_nil _ _ _, ownD_nil _ _ _, .inr ⟨hy, rfl, rfl, rfl⟩, hr.keep (hb.block g hr.lt), Kept.of hb⟩
theorem refDec_rel {g : Nat} {A : Option Addr} {c p : Nat} {bs : List UInt8} {r : List DotA × List DotA × Nat × Int} {w w' : World} {e : Ending} (h : RefDec g A c bs (some p) r w e w') :
    ∃ (A1 A2 : Option Addr) (n1 n2 c1 c2 : Nat) (ms ds : List DotA) (er : Int) (q : Nat), e = .returned (.tuple #[.agg #[.slice A1 n1 c1, .slice A2 n2 c2], .int .i64 er]) ∧ OwnD 53 w' w.heap.size (.slice A1 n1 c1) ms ∧ OwnD 55 w' w.heap.size (.slice A2 n2 c2) ds ∧ DecRel p r ms ds er q ∧ XRd w' g A c bs q ∧ Kept g g w w' := by
  obtain ⟨hk, ⟨h1, h2, A1, A2, n1, n2, c1, c2, rfl, o1, o2, hx⟩ | ⟨y, _, hy, rfl, q, hx, hq⟩⟩ := h
  · exact ⟨A1, A2, n1, n2, c1, c2, _, _, 0, _, rfl, o1, o2, .inl ⟨h1, h2, rfl, rfl, rfl, rfl⟩, hx, hk⟩
  · have e := hq p rfl
    subst e
    exact ⟨none, none, 0, 0, 0, 0, [], [], y, q, rfl, ownD_nil _ _ _, ownD_nil _ _ _, .inr ⟨hy, rfl, rfl, rfl⟩, hx, hk⟩

theorem rounds_any (x : Int) : ∃ n : Nat, wrap64 ((IntKind.u64.wrap x).tmod 3) = (n : Int) ∧ n ≤ 2 := by
  have h : 0 ≤ IntKind.u64.wrap x := by
    unfold IntKind.wrap
    simp [IntKind.signed, IntKind.bits]
    omega
  refine ⟨((IntKind.u64.wrap x).tmod 3).toNat, ?_, ?_⟩
  · rw [Int.tmod_eq_emod_of_nonneg h]
    unfold wrap64
    omega
  · rw [Int.tmod_eq_emod_of_nonneg h]
    omega
theorem Kept.atS {g o s : Nat} {a b c : World} {x : Int} (h : Kept g s a b) (h2 : AtIs b c s o x) : Kept g s a c := by
  obtain ⟨k, rfl⟩ := h2
  exact ⟨h.os, h.tape, h.output, by simpa [World.setCell] using h.size, fun b hb h1 h2 => (Below.heap_setCell _ _ _ _ (by exact h2)).trans (h.block b hb h1 h2)⟩
theorem Kept.weak {g s : Nat} {a b : World} (h : Kept g g a b) : Kept g s a b := ⟨h.os, h.tape, h.output, h.size, fun k hk h1 _ => h.block k hk h1 h1⟩
theorem Kept.weakS {g s : Nat} {a b : World} (h : Kept s s a b) : Kept g s a b := ⟨h.os, h.tape, h.output, h.size, fun k hk _ h1 => h.block k hk h1 h1⟩
theorem Kept.on {g s : Nat} {a b c : World} (h : Kept g s a b) (hb : Below b.heap.size b c) : Kept g s a c := h.trans (Kept.of hb)
theorem Kept.grownG {g s : Nat} {a b c : World} (h : Kept g s a b) (hg : b.grownBy c (some g)) : Kept g s a c :=
  ⟨hg.os.trans h.os, hg.tape.trans h.tape, hg.output.trans h.output, Nat.le_trans h.size hg.size, fun k hk h1 h2 => (hg.block k (Nat.lt_of_lt_of_le hk h.size) (by simpa using h1)).trans (h.block k hk h1 h2)⟩

set_option maxRecDepth 100000 in
set_option maxHeartbeats 12800000 in
theorem causalCodes_walk (vc vb : Value) (at_ : Int) (cm cd : List DotA) (bs : List UInt8) (w : World) (hc : RdC w vc cm cd) (hb : Rd w 0 w.heap.size vb bs)
    (l1 : cm.length ≤ 1048576) (l2 : cd.length ≤ 1048576) (l3 : bs.length ≤ 1048576) :
    Calls Try.prog 3 #[vc, vb, .int .i64 at_] w fun e w' => e = .returned (.bool true) ∧ Below w.heap.size w w' := by
  obtain ⟨B, cb, rfl, hcb, hbx⟩ := hb
  obtain ⟨mv, dv, rfl, hm, hd⟩ := hc
  obtain ⟨nb, hnb⟩ : ∃ n, Hid (n = bs.length) := ⟨_, Lib.hid rfl⟩
  have HBX := Lib.hid hbx
  rw [← hnb.out] at hcb l3 ⊢
  obtain ⟨W, hW⟩ : ∃ W, Hid (W = w.alloc (.cells #[mv, dv] 25)) := ⟨_, Lib.hid rfl⟩
  have hb0 : Below w.heap.size w W := by rw [hW.out]; exact below_alloc (Below.refl _ _)
  have hlt0 : w.heap.size < W.heap.size := by rw [hW.out]; simp
  have hbk : BK W w.heap.size mv dv cm cd := ⟨hlt0, by rw [hW.out]; exact box_cell _ _ _ 0, by rw [hW.out]; exact box_cell _ _ _ 1, mv, dv, rfl, hm.below hb0, hd.below hb0⟩
  have HBK := Lib.hid hbk
  have HB0 := Lib.hid hb0
  have HRB := Lib.hid (fun w' (h : Below w.heap.size w w') => (show Rd w' 0 w.heap.size (.slice B nb cb) bs from ⟨B, cb, by rw [hnb.out], by rw [← hnb.out]; exact hcb, hbx.keep fun p _ hp => h.cell hp⟩))
  have HCL := Lib.hid (clone_any (.slice B nb cb) bs W ((HRB.out W hb0).mono (Nat.le_refl _) (by omega)) (by rw [← hnb.out]; omega))
  have hWe := hW.out.symm
  clear hbx hm hd hb0 hbk
  go_enter Try.func3, Try.ntmps3
  go_wp2_with fail
  clear hWe
  (with_reducible refine HCL.out.mono ?_); rintro e w1 ⟨v7, rfl, hown7, hb1⟩
  have HB1 := Lib.hid (below_next HB0.out hb1)
  have hbk1 := HBK.out.below hb1
  have HO7 := Lib.hid hown7
  have q0 := hbk1.c0
  have q1 := hbk1.c1
  have HCX := Lib.hid (context_any (.agg #[mv, dv]) cm cd w1 hbk1.rd (by omega) (by omega))
  have HBK1 := Lib.hid hbk1
  have hs1 := hb1.size
  clear hown7 hb1 hbk1 HCL
  go_wp2_with fail
  (with_reducible refine HCX.out.mono ?_); rintro e w2 ⟨mv2, dv2, rfl, hm2, hd2, hb2⟩
  have HB2 := Lib.hid (below_next HB1.out hb2)
  have HBK2 := Lib.hid (HBK1.out.below hb2)
  have ho72 := HO7.out.below hb2
  have HO72 := Lib.hid ho72
  have HEN := Lib.hid (encode_any v7 (.agg #[mv2, dv2]) bs cm cd w2 (ho72.rd.mono (Nat.zero_le _) (Nat.le_refl _)) (by rw [← hnb.out]; omega) (hm2.rdC hd2) (by omega) (by omega))
  clear hm2 hd2 hb2 ho72 q0 q1 HCX
  go_wp2_with fail
  (with_reducible refine HEN.out.mono ?_); rintro e w3 hp
  obtain ⟨v8, xs, er, rfl, ho8, hrel, hb3⟩ := encPost_rel hp
  have HB3 := Lib.hid (below_next HB2.out hb3)
  have hbk3 := HBK2.out.below hb3
  have q0 := hbk3.c0
  have q1 := hbk3.c1
  have HBK3 := Lib.hid hbk3
  have HO73 := Lib.hid (HO72.out.below hb3)
  have HO8 := Lib.hid ho8
  have HREL := Lib.hid hrel
  have HEN2 := Lib.hid (refEncode_any (.slice B nb cb) (.agg #[mv, dv]) bs cm cd w3 ((HRB.out w3 HB3.out).mono (Nat.le_refl _) HB3.out.size) (by rw [← hnb.out]; omega) hbk3.rd (by omega) (by omega))
  clear hp ho8 hrel hb3 hbk3 HEN
  go_wp2_with fail
  (with_reducible refine HEN2.out.mono ?_); rintro e w4 hp
  obtain ⟨v10, ys, f, rfl, ho10, hrel, hb4⟩ := encPost_rel hp
  obtain ⟨rfl, rfl⟩ := encRel_eq HREL.out hrel
  have HB4 := Lib.hid (below_next HB3.out hb4)
  have ho84 := HO8.out.below hb4
  have ho74 := HO73.out.below hb4
  have hxl : ys.length ≤ 140737488355328 := by
    rcases hrel with ⟨hok, hx, _⟩ | ⟨_, hx, _⟩
    · have := codeC_short hok
      rw [hx, List.length_append, ← hnb.out]; omega
    · rw [hx]; simp
  have HEQ := Lib.hid (equal_same v8 v10 ys _ _ _ _ w4 ho84.rd ho10.rd hxl)
  have HO74 := Lib.hid ho74
  have tf : (f != f) = false := by simp
  clear hp ho10 hrel hb4 ho84 ho74 q0 q1 HEN2 hxl
  go_wp2_with fail
  (with_reducible refine HEQ.out.mono ?_); rintro e w5 ⟨rfl, j5, rfl⟩
  have HB5 := Lib.hid (below_drewN HB4.out j5)
  have HEQ2 := Lib.hid (equal_same v7 (.slice B nb cb) bs _ _ _ _ (w4.drewN j5) (HO74.out.rd.drewN j5) (HRB.out _ HB5.out) (by rw [← hnb.out]; omega))
  go_wp2_with fail
  (with_reducible refine HEQ2.out.mono ?_); rintro e w6 ⟨rfl, j6, rfl⟩
  have HB6 := Lib.hid (below_drewN HB5.out j6)
  obtain ⟨W6, hW6⟩ : ∃ W6, Hid (W6 = (w4.drewN j5).drewN j6) := ⟨_, Lib.hid rfl⟩
  rw [← hW6.out] at HB6
  have HOV := Lib.hid (over_any (.slice B nb cb) bs W6 ((HRB.out _ HB6.out).mono (Nat.le_refl _) HB6.out.size) (by rw [← hnb.out]; omega))
  have hWe6 := hW6.out.symm
  go_wp2_with fail
  clear hWe6
  (with_reducible refine HOV.out.mono ?_); rintro e w7 ⟨g, D, cD, rfl, hg, hrd, hrx, hb7⟩
  obtain ⟨W7, hW7⟩ : ∃ W7, Hid (W7 = w7.alloc (.cells #[.slice B nb cb, .int .i64 0] 37)) := ⟨_, Lib.hid rfl⟩
  have hbW7 : Below w7.heap.size w7 W7 := by rw [hW7.out]; exact below_alloc (Below.refl _ _)
  have HB7 := Lib.hid (below_next HB6.out (below_next hb7 hbW7))
  have hgl := hrd.lt
  have hzW7 : w7.heap.size < W7.heap.size := by rw [hW7.out]; simp
  have hsb6 := HB6.out.size
  have hsb7 := hb7.size
  have HR7 : Hid (Rdr W7 g D cD bs 0) := Lib.hid (hrd.keep (hbW7.block g hgl))
  have HX7 : Hid (XRd W7 w7.heap.size B cb bs 0) := Lib.hid ⟨by rw [hW7.out, ← hnb.out]; exact heap_alloc_new w7 _, Nat.zero_le _, by rw [← hnb.out]; exact hcb, by rw [← hnb.out]; omega⟩
  have HRD := Lib.hid (fun w' (hk : Kept g w7.heap.size W7 w') => (show RdA w' W6.heap.size g D bs from hrx.keep fun q h1 h2 => World.cell?_of_block ((hk.block q.block (by omega) (by omega) (by omega)).trans (hbW7.block _ (by omega)))))
  have HRX := Lib.hid (fun w' (hk : Kept g w7.heap.size W7 w') => (show RdA w' 0 w.heap.size B bs from HBX.out.keep fun q _ h2 => World.cell?_of_block ((hk.block q.block (by omega) (by omega) (by omega)).trans (HB7.out.block _ h2))))
  have hWe := hW7.out.symm
  clear hrd hrx hb7 hbW7 HOV HEQ HEQ2 HBK3 HBK2 HBK1 HBK HO7 HO72 HO73 HO74 HO8
  go_upto_region 7 with fail
  clear hWe tf
  obtain ⟨nn, hnn⟩ := rounds_any at_
  have HN := Lib.hid hnn.1
  have hn2 := hnn.2
  clear hnn
  go_wp2
  rw [HN.out]
  obtain ⟨gx, hgx⟩ : ∃ gx, Hid (gx = w7.heap.size) := ⟨_, Lib.hid rfl⟩
  rw [← hgx.out] at HX7 HRD HRX hzW7 hsb7 hgl ⊢
  obtain ⟨wa, hwa⟩ : ∃ wa : World, wa = W7 := ⟨_, rfl⟩
  subst hwa
  go_loopw [55] (fun i wr => ∃ (j p : Nat), (j ≤ nn ∧ i = .int .i64 j) ∧ Hid (Rdr wr g D cD bs p) ∧ Hid (XRd wr gx B cb bs p) ∧ Hid (Kept g gx wa wr)) (fun i _ => nn - (intOf i).toNat)
  case atStart => exact ⟨0, 0, ⟨Nat.zero_le _, rfl⟩, HR7, HX7, Lib.hid (Kept.refl _ _ _)⟩
  case round =>
    obtain ⟨j, p, ⟨hj, rfl⟩, HR, HX, HK⟩ := hrel
    have hzr := HK.out.size
    have hgne : g ≠ gx := by omega
    by_cases hlt : j < nn
    · have HBY := Lib.hid (byte_made g D cD bs p W6.heap.size g wr HR.out (HRD.out wr HK.out) (by omega) (.inl (Nat.le_refl _)))
      have HBL := Lib.hid (byteOf_len HR.out.le)
      obtain ⟨b, hb⟩ : ∃ b, Hid (b = byteOf (bs.drop p)) := ⟨_, Lib.hid rfl⟩
      have hxb := fun w' (hx : XRd w' gx B cb bs p) (hk : Kept g gx wa w') => xbyte_any gx B cb bs p 0 w.heap.size w' hx (HRX.out w' hk) (.inl (by omega))
      rw [← hb.out] at HBY HBL hxb
      have HXB := Lib.hid hxb
      clear hxb
      go_wp2_with fail
      (with_reducible refine HBY.out.mono ?_); rintro e w8 hp
      obtain rfl := hp.ending
      have HR8 := Lib.hid hp.rdr
      have hx8 := HX.out.keep (hp.grown.block gx HX.out.lt (by simpa using hgne.symm))
      have hk8 := HK.out.grownG hp.grown
      have HX8 := Lib.hid hx8
      have HK8 := Lib.hid hk8
      have HB8 := Lib.hid (HXB.out w8 hx8 hk8)
      clear hp hx8 hk8
      go_wp2_with fail
      (with_reducible refine HB8.out.mono ?_); rintro e w9 ⟨rfl, hat⟩
      have HX9 := Lib.hid (HX8.out.moved hat HBL.out)
      have HK9 := Lib.hid (HK8.out.atS hat)
      have HR9 := Lib.hid (HR8.out.keep (hat.block hgne))
      clear hat
      go_wp2
      go_roundw
      case rel => exact ⟨j + 1, _, ⟨by omega, by go_num⟩, HR9, HX9, HK9⟩
      case measure => simp [intOf]; omega
    · have HDC := Lib.hid (decode_any wr g D cD bs p HR.out ((HRD.out wr HK.out).mono (Nat.zero_le _) (by omega)))
      have HRp := Lib.hid HR.out
      go_wp2_with fail
      (with_reducible refine HDC.out.mono ?_); rintro e w8 hp
      obtain ⟨A1, A2, n1, n2, c1, c2, ms, ds, er2, q, rfl, o1, o2, hrel, hr8, hk8⟩ := decPost_rel hp HRp.out
      obtain ⟨W8, hW8⟩ : ∃ W8, Hid (W8 = w8.alloc (.cells #[.slice A1 n1 c1, .slice A2 n2 c2] 25)) := ⟨_, Lib.hid rfl⟩
      have hb8 : Below w8.heap.size w8 W8 := by rw [hW8.out]; exact below_alloc (Below.refl _ _)
      have hbk8 : BK W8 w8.heap.size (.slice A1 n1 c1) (.slice A2 n2 c2) ms ds := by rw [hW8.out]; exact BK.made _ o1 o2
      have hz8 := hk8.size
      have HK8 : Hid (Kept g gx wa W8) := Lib.hid ((HK.out.trans hk8.weak).on hb8)
      have hx8 := HX.out.keep ((hb8.block gx (by omega)).trans (hk8.block gx (by omega) hgne.symm hgne.symm))
      have HR8 := Lib.hid (hr8.keep (hb8.block g (by omega)))
      have HREL2 := Lib.hid hrel
      have HO1 := Lib.hid (o1.below hb8)
      have HO2 := Lib.hid (o2.below hb8)
      have HK80 := Lib.hid (And.intro hbk8.c0 hbk8.c1)
      have hlt8 := hbk8.lt
      have HDX := Lib.hid (refDecode_any W8 gx B cb bs w.heap.size p hx8 (HRX.out W8 HK8.out) (by omega))
      have hWe := hW8.out.symm
      clear hp o1 o2 hrel hr8 hk8 hb8 hx8 hbk8 HDC
      go_upto_region 13 with fail
      clear hWe
      go_wp2_with fail
      (with_reducible refine HDX.out.mono ?_); rintro e w9 hp
      obtain ⟨A3, A4, n3, n4, c3, c4, ms', ds', er3, q3, rfl, o1, o2, hrel, hx9, hk9⟩ := refDec_rel hp
      obtain ⟨rfl, rfl, rfl, rfl⟩ := decRel_eq HREL2.out hrel
      have hsh := decRel_short hrel
      obtain ⟨W9, hW9⟩ : ∃ W9, Hid (W9 = w9.alloc (.cells #[.slice A3 n3 c3, .slice A4 n4 c4] 25)) := ⟨_, Lib.hid rfl⟩
      have hb9 : Below w9.heap.size w9 W9 := by rw [hW9.out]; exact below_alloc (Below.refl _ _)
      have hbk9 : BK W9 w9.heap.size (.slice A3 n3 c3) (.slice A4 n4 c4) ms' ds' := by rw [hW9.out]; exact BK.made _ o1 o2
      have hz9 := hk9.size
      have HK9 : Hid (Kept g gx wa W9) := Lib.hid ((HK8.out.trans hk9.weakS).on hb9)
      have hne8 : w8.heap.size ≠ gx := by omega
      have hsame : W9.heap[w8.heap.size]? = W8.heap[w8.heap.size]? := (hb9.block _ (by omega)).trans (hk9.block _ hlt8 hne8 hne8)
      have k0 : W9.cell? ⟨w8.heap.size, 0, none⟩ = some (.slice A1 n1 c1) := (World.cell?_of_block (w := W8) hsame).trans HK80.out.1
      have k1 : W9.cell? ⟨w8.heap.size, 1, none⟩ = some (.slice A2 n2 c2) := (World.cell?_of_block (w := W8) hsame).trans HK80.out.2
      have k2 := hbk9.c0
      have k3 := hbk9.c1
      have oa : OwnD 53 W9 wr.heap.size (.slice A1 n1 c1) ms' := (HO1.out.stay (fun b h1 h2 => hk9.block b h2 (by omega) (by omega))).below hb9
      have ob : OwnD 55 W9 wr.heap.size (.slice A2 n2 c2) ds' := (HO2.out.stay (fun b h1 h2 => hk9.block b h2 (by omega) (by omega))).below hb9
      have hx9' := hx9.keep (hb9.block gx hx9.lt)
      have x1 : W9.cell? ⟨gx, 1, none⟩ = some (.int .i64 (q3 : Int)) := hx9'.cell 1
      have hr9 := HR8.out.keep ((hb9.block g (by omega)).trans (hk9.block g (by omega) hgne hgne))
      have hgW9 : g < W9.heap.size := hr9.lt
      have HSM := Lib.hid (fun w' (hb : Below W9.heap.size W9 w') => same3K_any (.slice A1 n1 c1) (.slice A2 n2 c2) (.slice A3 n3 c3) (.slice A4 n4 c4) er3 ms' ds' w' ((oa.rdC ob).below hb) (hbk9.rd.below hb) (by omega) (by omega))
      have HAT := Lib.hid (fun w' (hb : Below W9.heap.size W9 w') => at_made g D cD bs q3 w' (hr9.keep (hb.block g hgW9)))
      have HXC := Lib.hid (fun w' (hb : Below W9.heap.size W9 w') => ((hb.cell (p := ⟨gx, 1, none⟩) hx9'.lt).trans x1 : w'.cell? ⟨gx, 1, none⟩ = some (.int .i64 (q3 : Int))))
      have HBEL : Hid (Below w.heap.size w W9) := Lib.hid (HB7.out.trans ⟨HK9.out.os, HK9.out.tape, HK9.out.output, HK9.out.size, fun b hb => HK9.out.block b (by omega) (by omega) (by omega)⟩)
      have tq : ((q3 : Int) == (q3 : Int)) = true := by simp
      have hWe := hW9.out.symm
      clear hp o1 o2 hrel hx9 hk9 hb9 hbk9 hsame oa ob hx9' hr9 HDX
      go_upto_region 14 with fail
      clear hWe
      go_region_law
        (first
          | (go_simp; go_at_call 15
             refine Calls.mono (HSM.out _ ?_) ?_
             · (repeat' (first | assumption | exact HB10.out | exact Below.refl _ _ | refine below_alloc ?_ | refine below_drew ?_))
             rintro e w10 ⟨rfl, hb10⟩
             have HB10 : Hid (Below W9.heap.size W9 w10) := Lib.hid (by first | exact hb10 | exact ((Below.refl _ _).drew).trans hb10)
             have x1 := HXC.out w10 HB10.out
             clear hb10)
          | (go_simp; go_at_call 16
             refine Calls.mono (HAT.out _ ?_) ?_
             · (repeat' (first | assumption | exact HB10.out | exact Below.refl _ _ | refine below_alloc ?_ | refine below_drew ?_))
             rintro e w11 ⟨rfl, j11, rfl⟩)
          | fail)
      all_goals
        go_wp2
        go_ret
        exact ⟨rfl, HBEL.out.trans ((below_drewN HB10.out _).mono HBEL.out.size)⟩
end Go.Proofs.Ytnlohijpcnoamaa
