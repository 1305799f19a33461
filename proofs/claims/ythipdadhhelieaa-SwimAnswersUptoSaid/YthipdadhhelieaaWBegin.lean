/- A ping begins. -/
import Derived.Test.YthipdadhhelieaaWNext
import Derived.StillTailTactics
namespace Go.Proofs.Ythipdadhhelieaa
open Go.RowKit Go.Sort Go.BigFrame

/-- append of cells that lie somewhere, onto a row of the call's own, whatever its elements. -/
theorem step_append_gen {ST T : TypeId} (ht : Try.prog.underlying ST = some (.slice T)) {z : Value} {size bytes : Nat} (hT : (Try.prog.info? T).map (fun i => (i.zero, i.size, i.bytes)) = some (some z, size, bytes)) (hzs : z.cells.size = size ∧ 0 < size ∧ bytes ≤ 65536)
    {ops : Array Oper} {o : Oper} {a : Act} {K : Act → World → Prop} {Q : Exit → Act → World → Prop} {E : Prop} (w : World) (hgd : o.guard = none) (s x : Operand)
    (ho : o.op = .call { callee := .builtin .append, args := #[s, x], argTypes := #[ST, ST] })
    {base : Nat} {v : Value} {n : Nat} {xs : List Value} {ad : Addr} {m c : Nat} (hs : a.eval s = v) (hx : a.eval x = .slice (some ad) m c) (hown : w.ownsRow base T size v n xs) (news : List Value) (h1 : news.length = m * size ∧ ∀ u ∈ news, u.oneCell' = true)
    (h63 : n + m ≤ 65536 ∧ 0 < n + m) (hnews : ∀ j u, news[j]? = some u → w.cell? (ad.add j) = some u) (hbase : base ≤ w.heap.size)
    (h : ∀ g1 c1 w', w'.ownsRow base T size (.slice (some ⟨g1, 0, none⟩) (n + m) c1) (n + m) (xs ++ news) → w.grownBy w' v.ownBlock → ((Value.slice (some ⟨g1, 0, none⟩) (n + m) c1).ownBlock = v.ownBlock ∨ g1 = w.heap.size) → K (a.put o.dst (.slice (some ⟨g1, 0, none⟩) (n + m) c1)) w') :
    if Region.wanted o (yielded ops a.tmps) = true then Oper.wp Try.prog o a w K Q else E := by
  have hw : Region.wanted o (yielded ops a.tmps) = true := by simp [Region.wanted, hgd]
  rw [if_pos hw]
  obtain ⟨i, hi, hz0, hz1, hz2⟩ := info_parts hT
  obtain ⟨hzs, hsz, hby⟩ := hzs
  obtain ⟨hl, h1⟩ := h1
  obtain ⟨h63, hm⟩ := h63
  have hbb : (n + m) * bytes ≤ 65536 * 65536 := Nat.mul_le_mul h63 hby
  obtain ⟨v', w', hrun, h2, h3, _, h5⟩ := run_append_own_at (P := Try.prog) w base ST o.type T i z size bytes ht hi hz0 hz1 hz2 hzs hsz v n xs hown ad m c news hl hnews h1 (by simp only [maxLen]; omega) (by omega) hbase
  unfold Oper.wp execOp
  simp only [ho, resolve, invoke, builtin, Sem.run_bind, Sem.run_pure, Result.andThen_ok, List.map_toArray, List.map_cons, List.map_nil, hs, hx, hrun]
  rcases h2.2 with ⟨rfl, h0⟩ | ⟨g1, c1, cur, rfl, _⟩
  · omega
  · refine h g1 c1 w' h2 h3 ?_
    rcases h5 with h5 | h5
    · exact .inl h5
    · exact .inr (by injection h5)

theorem infoPing : (Try.prog.info? 67).map (fun i => (i.zero, i.size, i.bytes)) = some (some (.agg #[.int .i64 0, .int .i64 0, .int .i64 0, .bool false]), 4, 32) := by kernel_rfl

theorem Below.of_grown {w w' : World} {B : Nat} {row : Option Nat} (h : w.grownBy w' row) (hr : row = none) (hB : B ≤ w.heap.size) : RowKit.Below B w w' :=
  ⟨h.os, h.tape, h.output, h.size, fun b hb => h.block b (Nat.lt_of_lt_of_le hb hB) (by rw [hr]; simp)⟩
/-- The table behind its first ping, the open pings in this slice. -/
def T3 (o : Value) : TabA := ⟨0, 0, ((0, 0, 1), 0), ((1, 0, 1), 0), noSt, noSt, noSt, noSt, noSt, noSt, o, (1, 1, 0, false)⟩
def msgCells : Array Value := #[.int .i64 6, .int .i64 0, .int .i64 1, .int .i64 1, .string .empty, .slice none 0 0, .slice none 0 0, .slice none 0 0, .int .i64 (-1), .int .i64 0, .int .i64 (-1), .int .i64 0, .int .i64 0, .int .i64 0, .slice none 0 0, .slice none 0 0, .slice none 0 0]

set_option maxRecDepth 100000 in
set_option maxHeartbeats 3200000 in
theorem begin_two (g : Nat) (w : World) (h : TabAt w g T2) :
    Calls Try.prog 48 #[.pointer (some ⟨g, 0, none⟩)] w fun e w' => ∃ b o, w.heap.size ≤ b ∧ e = .returned (.slice (some ⟨b, 0, none⟩) 1 1) ∧ w'.heap[b]? = some (.cells msgCells 56 (0, 0)) ∧ TabAt w' g (T3 o) ∧ Turns g w.heap.size w w' := by
  have HT := Lib.hid h
  have c36 : w.cell? ⟨g, 36, none⟩ = some (.int .i64 0) := h.cell 36
  have H1 := fun w' (hT : TabAt w' g T2) => Lib.hid (next_two g w' hT)
  have HTn : ∀ n, TabAt (w.drewN n) g T2 := fun n => HT.out
  clear h
  go_enter Try.func48, Try.ntmps48
  go_wp2_with fail
  go_quiet (fail)
  go_upto_region 3 with ((go_at_call 67); (with_reducible refine (H1 _ (HTn _)).out.mono ?_); rintro e w1 ⟨rfl, hb1⟩)
  have HB1 : Hid (Below w.heap.size w w1) := Lib.hid ((below_drewN (Below.refl _ _) nq).trans hb1)
  have HT1 : Hid (TabAt w1 g T2) := Lib.hid (HT.out.below HB1.out HT.out.lt)
  have e36 : w1.cell? ⟨g, 36, none⟩ = some (.int .i64 0) := HT1.out.cell 36
  have e1 : w1.cell? ⟨g, 1, none⟩ = some (.int .i64 0) := HT1.out.cell 1
  have f35 := HT1.out.frozen 35
  have f36 := HT1.out.frozen 36
  have f37 := HT1.out.frozen 37
  have f38 := HT1.out.frozen 38
  have x35 : w1.cell? ⟨g, 35, none⟩ = some (.int .i64 (-1)) := HT1.out.cell 35
  have x37 : w1.cell? ⟨g, 37, none⟩ = some (.int .i64 0) := HT1.out.cell 37
  have x38 : w1.cell? ⟨g, 38, none⟩ = some (.bool false) := HT1.out.cell 38
  clear hb1 c36 H1
  go_wp2_with fail
  go_still_tail 15, (by kernel_rfl)
  go_upto_region 6 with fail
  have HT2 : Hid (TabAt (((((w1.setCell ⟨g, 35, none⟩ (.int .i64 1)).setCell ⟨g, 36, none⟩ (.int .i64 1)).setCell ⟨g, 37, none⟩ (.int .i64 0)).setCell ⟨g, 38, none⟩ (.bool false)).drew) g (T3 (.slice none 0 0))) := Lib.hid (heap_set4 w1 g 35 T2.cells _ (.int .i64 1) (.int .i64 1) (.int .i64 0) (.bool false) HT1.out)
  have HG2 : Hid (Turns g w.heap.size w (((((w1.setCell ⟨g, 35, none⟩ (.int .i64 1)).setCell ⟨g, 36, none⟩ (.int .i64 1)).setCell ⟨g, 37, none⟩ (.int .i64 0)).setCell ⟨g, 38, none⟩ (.bool false)).drew)) := Lib.hid (((((Turns.of HB1.out).set _ _).set _ _).set _ _).set _ _).drew
  obtain ⟨w2, hw2⟩ : ∃ w2, w2 = (((((w1.setCell ⟨g, 35, none⟩ (.int .i64 1)).setCell ⟨g, 36, none⟩ (.int .i64 1)).setCell ⟨g, 37, none⟩ (.int .i64 0)).setCell ⟨g, 38, none⟩ (.bool false)).drew) := ⟨_, rfl⟩
  rw [← hw2] at HT2 HG2 ⊢
  clear hw2 e36 e1 f35 f36 f37 f38 x35 x37 x38
  obtain ⟨v0, hv0⟩ : ∃ v0, Hid (v0 = Value.slice none 0 0) := ⟨_, Lib.hid rfl⟩
  have c34 : w2.cell? ⟨g, 34, none⟩ = some v0 := by rw [hv0.out]; exact HT2.out.cell 34
  have HOW : ∀ w' : World, Hid (w'.ownsRow w2.heap.size 67 4 v0 0 []) := fun w' => Lib.hid (by rw [hv0.out]; exact World.ownsRow_nil _ _ _ 4)
  have c35 : w2.cell? ⟨g, 35, none⟩ = some (.int .i64 1) := HT2.out.cell 35
  have c36 : w2.cell? ⟨g, 36, none⟩ = some (.int .i64 1) := HT2.out.cell 36
  have c37 : w2.cell? ⟨g, 37, none⟩ = some (.int .i64 0) := HT2.out.cell 37
  have c38 : w2.cell? ⟨g, 38, none⟩ = some (.bool false) := HT2.out.cell 38
  have hlt := HT2.out.lt
  have hz4 : (Value.agg #[.int .i64 0, .int .i64 0, .int .i64 0, .bool false]).cells.size = 4 ∧ 0 < 4 ∧ 32 ≤ 65536 := ⟨rfl, by decide, by decide⟩
  have hone : ([.int .i64 1, .int .i64 1, .int .i64 0, .bool false] : List Value).length = 1 * 4 ∧ ∀ u ∈ ([.int .i64 1, .int .i64 1, .int .i64 0, .bool false] : List Value), u.oneCell' = true := ⟨rfl, by intro u hu; simp at hu; rcases hu with rfl | rfl | rfl <;> rfl⟩
  have hn0 : ∀ j u, ([.int .i64 1, .int .i64 1, .int .i64 0, .bool false] : List Value)[j]? = some u → (w2.alloc (.cells #[.int .i64 1, .int .i64 1, .int .i64 0, .bool false] 67)).cell? ((⟨w2.heap.size, 0, none⟩ : Addr).add j) = some u := by
    intro j u hj
    rw [Addr.add_mid, box_cell]
    simpa using hj
  have hbA : Below w2.heap.size w2 (w2.alloc (.cells #[.int .i64 1, .int .i64 1, .int .i64 0, .bool false] 67)) := (Below.refl _ _).alloc (Nat.le_refl _) _
  have HBA := Lib.hid hbA
  have HNB : Hid (v0.ownBlock = none) := Lib.hid (by rw [hv0.out]; rfl)
  clear hbA
  go_region_law (first
    | (refine step_append_gen Try.underlying65 infoPing hz4 _ (by rfl) (.tmp 58) (.tmp 63) (by rfl) (by rfl) (by rfl) (HOW _).out [.int .i64 1, .int .i64 1, .int .i64 0, .bool false] hone ⟨by decide, by decide⟩ ?_ ?_ ?_
       · exact hn0
       · exact HBA.out.size
       intro g1 c1 w6 ho6 hg6 hd6
       have ht6 : TabAt w6 g (T3 (.slice none 0 0)) := HT2.out.keep ((hg6.block g (Nat.lt_of_lt_of_le hlt HBA.out.size) (by rw [HNB.out]; simp)).trans (HBA.out.block g hlt))
       have f34 := ht6.frozen 34
       have i34 : w6.cell? ⟨g, 34, none⟩ = some (.slice none 0 0) := ht6.cell 34
       have HT6 := Lib.hid ht6
       have hq6 : RowKit.Below w2.heap.size w2 w6 := ⟨hg6.os, hg6.tape, hg6.output, Nat.le_trans HBA.out.size hg6.size, fun b hb => (hg6.block b (Nat.lt_of_lt_of_le hb HBA.out.size) (by rw [HNB.out]; simp)).trans (HBA.out.block b hb)⟩
       have hG6 : Turns g w.heap.size w w6 := HG2.out.trans ((Turns.of hq6).mono HG2.out.size)
       have HG6 := Lib.hid hG6
       clear ht6 ho6 hd6 hG6 hq6 hg6)
    | fail)
  all_goals
    have HT7 : Hid (TabAt (w6.setCell ⟨g, 34, none⟩ (.slice (some ⟨g1, 0, none⟩) 1 c1)) g (T3 (.slice (some ⟨g1, 0, none⟩) 1 c1))) := Lib.hid (Joins.block_setCell HT6.out (i := 34) _)
    have HG7 : Hid (Turns g w.heap.size w (w6.setCell ⟨g, 34, none⟩ (.slice (some ⟨g1, 0, none⟩) 1 c1))) := Lib.hid (HG6.out.set _ _)
    clear c34 c35 c36 c37 c38 hn0 f34 i34 hlt hone hz4 HOW HBA HNB
    obtain ⟨w7, hw7⟩ : ∃ w7, w7 = w6.setCell ⟨g, 34, none⟩ (.slice (some ⟨g1, 0, none⟩) 1 c1) := ⟨_, rfl⟩
    go_upto_region 7 with fail
    rw [← hw7] at HT7 HG7 ⊢
    clear hw7
    have c0 : w7.cell? ⟨g, 0, none⟩ = some (.int .i64 0) := HT7.out.cell 0
    have c36 : w7.cell? ⟨g, 36, none⟩ = some (.int .i64 1) := HT7.out.cell 36
    go_still_tail 11, (by kernel_rfl)
    go_wp2
    go_ret
    refine ⟨w7.heap.size, _, HG7.out.size, rfl, ?_, HT7.out.below (w' := w7.alloc (.cells msgCells 56)) ((Below.refl _ _).alloc (Nat.le_refl _) _) HT7.out.lt, ?_⟩
    · exact heap_alloc_new w7 (.cells msgCells 56)
    · exact (HG7.out.trans ((Turns.of (w := w7.alloc (.cells msgCells 56)) ((Below.refl w7.heap.size w7).alloc (Nat.le_refl _) _)).mono HG7.out.size)).drew
end Go.Proofs.Ythipdadhhelieaa
