/- Tick, and a program that is awake. -/
import Derived.Test.YthipdadhhelieaaWAwake
namespace Go.Proofs.Ythipdadhhelieaa
open Go.RowKit Go.Sort Go.BigFrame

theorem wpList_append_gen {ST T : TypeId} (ht : Try.prog.underlying ST = some (.slice T)) {z : Value} {size bytes : Nat} (hT : (Try.prog.info? T).map (fun i => (i.zero, i.size, i.bytes)) = some (some z, size, bytes)) (hzs : z.cells.size = size ∧ 0 < size ∧ bytes ≤ 65536)
    {ops : Array Oper} {rest : List Oper} {o : Oper} {a : Act} {Q : Exit → Act → World → Prop} (w : World) (hgd : o.guard = none) (s x : Operand)
    (ho : o.op = .call { callee := .builtin .append, args := #[s, x], argTypes := #[ST, ST] })
    {base : Nat} {v : Value} {n : Nat} {xs : List Value} {ad : Addr} {m c : Nat} (hs : a.eval s = v) (hx : a.eval x = .slice (some ad) m c) (hown : w.ownsRow base T size v n xs) (news : List Value) (h1 : news.length = m * size ∧ ∀ u ∈ news, u.oneCell' = true)
    (h63 : n + m ≤ 65536 ∧ 0 < n + m) (hnews : ∀ j u, news[j]? = some u → w.cell? (ad.add j) = some u) (hbase : base ≤ w.heap.size)
    (h : ∀ g1 c1 w', w'.ownsRow base T size (.slice (some ⟨g1, 0, none⟩) (n + m) c1) (n + m) (xs ++ news) → w.grownBy w' v.ownBlock → ((Value.slice (some ⟨g1, 0, none⟩) (n + m) c1).ownBlock = v.ownBlock ∨ g1 = w.heap.size) → wpList Try.prog ops Q rest (a.put o.dst (.slice (some ⟨g1, 0, none⟩) (n + m) c1)) w') :
    wpList Try.prog ops Q (o :: rest) a w := by
  refine wpList_plain hgd fun K hK => ?_
  obtain ⟨i, hi, hz0, hz1, hz2⟩ := info_parts hT
  obtain ⟨hzs, hsz, hby⟩ := hzs
  obtain ⟨hl, h1⟩ := h1
  obtain ⟨h63, hm⟩ := h63
  have hbb : (n + m) * bytes ≤ 65536 * 65536 := Nat.mul_le_mul h63 hby
  obtain ⟨v', w', hrun, h2, h3, _, h5⟩ := run_append_own_at (P := Try.prog) w base ST o.type T i z size bytes ht hi hz0 hz1 hz2 hzs hsz v n xs hown ad m c news hl hnews h1 (by simp only [maxLen]; omega) (by omega) hbase
  unfold Oper.wp execOp
  simp only [ho, resolve, invoke, builtin, Sem.run_bind, Sem.run_pure, Result.andThen_ok, List.map_toArray, List.map_cons, List.map_nil, hs, hx, hrun]
  rcases h2.2 with ⟨rfl, h0⟩ | ⟨g1, c1, cur, rfl, _⟩
  · omega
  · refine hK _ _ (h g1 c1 w' h2 h3 ?_)
    rcases h5 with h5 | h5
    · exact .inl h5
    · exact .inr (by injection h5)


theorem infoMsg : (Try.prog.info? 56).map (fun i => (i.zero, i.size, i.bytes)) = some (some (.agg #[.int .i64 0, .int .i64 0, .int .i64 0, .int .i64 0, .string .empty, .slice none 0 0, .slice none 0 0, .slice none 0 0, .int .i64 0, .int .i64 0, .int .i64 0, .int .i64 0, .int .i64 0, .int .i64 0, .slice none 0 0, .slice none 0 0, .slice none 0 0]), 17, 240) := by kernel_rfl
theorem msg_one : msgCells.toList.length = 1 * 17 ∧ ∀ u ∈ msgCells.toList, u.oneCell' = true := ⟨rfl, List.all_eq_true.1 (show msgCells.toList.all (fun u => u.oneCell') = true from rfl)⟩

set_option maxRecDepth 100000 in
set_option maxHeartbeats 1600000 in
theorem tick_one (g : Nat) (w : World) (h : TabAt w g T2) :
    Calls Try.prog 18 #[.pointer (some ⟨g, 0, none⟩), .int .i64 0] w fun e w' => ∃ b c A k o, e = .returned (.tuple #[.slice (some ⟨b, 0, none⟩) 1 c, .slice A 0 k]) ∧ w'.cell? ⟨b, 2, none⟩ = some (.int .i64 1) ∧ TabAt w' g (T3 o) ∧ Turns g w.heap.size w w' := by
  have H0 : Hid (Calls Try.prog 40 #[.pointer (some ⟨g, 0, none⟩)] w fun e w' => e = .returned (.bool true) ∧ w = w') := Lib.hid (made_any g T2 0 (by decide) rfl w h)
  have H1 : Hid (Calls Try.prog 41 #[.pointer (some ⟨g, 0, none⟩), .int .i64 0] w fun e w' => e = .returned (.tuple #[]) ∧ TabAt w' g T2 ∧ Turns g w.heap.size w w') := Lib.hid (pass_any g T2 0 w h)
  have hst : ∀ k, k < 8 → (T2.nd k).1.2.2 ≠ 2 := by
    intro k hk
    rcases (by omega : k = 0 ∨ k = 1 ∨ k = 2 ∨ k = 3 ∨ k = 4 ∨ k = 5 ∨ k = 6 ∨ k = 7) with rfl | rfl | rfl | rfl | rfl | rfl | rfl | rfl <;> decide
  have H2 := fun w' (hT : TabAt w' g T2) => Lib.hid (bury_none g T2 hst w' hT)
  have H3 := fun w' (hT : TabAt w' g T2) => Lib.hid (wait_none g T2 rfl w' hT)
  have H4 := fun w' (hT : TabAt w' g T2) => Lib.hid (begin_two g w' hT)
  have HL := Lib.hid h.lt
  clear h hst
  go_enter Try.func18, Try.ntmps18
  go_wp2_with (first
    | (go_at_call 40
       (with_reducible refine H0.out.mono ?_); rintro e w1 ⟨rfl, rfl⟩)
    | (go_at_call 41
       (with_reducible refine H1.out.mono ?_); rintro e w1 ⟨rfl, ht1, hg1⟩
       have HT1 := Lib.hid ht1
       have HG1 := Lib.hid hg1
       clear ht1 hg1)
    | (go_at_call 46
       (with_reducible refine (H2 _ HT1.out).out.mono ?_); rintro e w2 ⟨rfl, hb2⟩
       have HT2 := Lib.hid (HT1.out.below hb2 HT1.out.lt)
       have HG2 : Hid (Turns g w.heap.size w w2) := Lib.hid (HG1.out.trans ((Turns.of hb2).mono HG1.out.size))
       clear hb2)
    | (go_at_call 47
       (with_reducible refine (H3 _ HT2.out).out.mono ?_); rintro e w3 ⟨rfl, ht3, hg3⟩
       have HT3 := Lib.hid ht3
       have HG3 : Hid (Turns g w.heap.size w w3) := Lib.hid (HG2.out.trans (hg3.mono HG2.out.size))
       clear ht3 hg3)
    | (go_at_call 48
       (with_reducible refine (H4 _ HT3.out).out.mono ?_); rintro e w4 ⟨b4, o4, hb4, rfl, hr4, ht4, hg4⟩
       have HT4 := Lib.hid ht4
       have HR4 := Lib.hid hr4
       have HG4 : Hid (Turns g w.heap.size w w4) := Lib.hid (HG3.out.trans (hg4.mono HG3.out.size))
       have hn4 : ∀ j u, msgCells.toList[j]? = some u → w4.cell? ((⟨b4, 0, none⟩ : Addr).add j) = some u := by
         intro j u hj
         rw [Addr.add_mid, cell_of_row w4 b4 (0 + j) _ _ (0, 0) HR4.out]
         simpa using hj
       clear ht4 hr4 hg4 hb4)
    | (at_builtin; go_must (refine wpList_append_gen Try.underlying34 infoMsg ⟨rfl, by decide, by decide⟩ _ rfl (.tmp 22) (.tmp 24) rfl (by rfl) (by rfl) (World.ownsRow_nil w4 w4.heap.size _ 17) msgCells.toList msg_one ⟨by decide, by decide⟩ hn4 (Nat.le_refl _) ?_)))
  intro g5 c5 w5 ho5 hg5 hd5
  have hT5 : TabAt w5 g (T3 o4) := HT4.out.keep (hg5.block g HT4.out.lt (by simp [_root_.Go.Value.ownBlock]))
  have hq5 : Turns g w.heap.size w w5 := HG4.out.trans ((Turns.of (Below.of_grown hg5 (by rfl) (Nat.le_refl _))).mono HG4.out.size)
  have hc5 : w5.cell? ⟨g5, 2, none⟩ = some (.int .i64 1) := by
    have := World.ownsRow.cells ho5 (g := g5) rfl 2 (.int .i64 1) rfl
    rw [Addr.add_mid] at this
    exact this
  have hl5 := (World.ownsRow.lt ho5 g5 rfl).2
  have HT5 := Lib.hid hT5
  have HG5 := Lib.hid hq5
  have HC5 := Lib.hid hc5
  have HN5 : Hid (RdDA w5 w5.heap.size none []) := Lib.hid (fun j d hd => by simp at hd)
  have hz5 : w5.heap.size ≤ w5.heap.size := Nat.le_refl _
  clear hg5 hd5 ho5 hT5 hq5 hc5 hn4
  go_wp2_with (at_builtin; go_must (refine wpList_append_dots Try.underlying31 infoPeer _ rfl (.tmp 26) (.tmp 27) rfl (by rfl) (ownD_nil 38 w5 w5.heap.size) (by rfl) (by rfl) HN5.out (by decide) hz5 ?_))
  intro v6 w6 ho6 hg6 _
  obtain ⟨A6, c6, hv6⟩ := ownD_slice ho6
  have hv6 : v6 = .slice A6 0 c6 := hv6
  subst hv6
  go_wp2
  go_ret2
  exact ⟨g5, c5, A6, c6, o4, rfl, (World.cell?_of_block (hg6.block g5 hl5 (by simp [_root_.Go.Value.ownBlock]))).trans HC5.out, HT5.out.keep (hg6.block g HT5.out.lt (by simp [_root_.Go.Value.ownBlock])), HG5.out.trans ((Turns.of (Below.of_grown hg6 (by rfl) (Nat.le_refl _))).mono HG5.out.size)⟩

set_option maxRecDepth 100000 in
theorem status_one (g : Nat) (o : Value) (w : World) (h : TabAt w g (T3 o)) :
    Calls Try.prog 28 #[.pointer (some ⟨g, 0, none⟩), .int .i64 1] w fun e w' => e = .returned (.int .i64 1) ∧ w = w' := by
  have H0 : Hid (Calls Try.prog 40 #[.pointer (some ⟨g, 0, none⟩)] w fun e w' => e = .returned (.bool true) ∧ w = w') := Lib.hid (made_any g (T3 o) 0 (by decide) rfl w h)
  have H1 : Hid (Calls Try.prog 38 #[.int .i64 1] w fun e w' => e = .returned (.bool true) ∧ w = w') := Lib.hid (isNode_any 1 w)
  have c8 : w.cell? ⟨g, 8, none⟩ = some (.int .i64 1) := h.cell 8
  clear h
  go_enter Try.func28, Try.ntmps28
  go_wp2_with (first
    | (go_at_call 40
       (with_reducible refine H0.out.mono ?_); rintro e w1 ⟨rfl, rfl⟩)
    | (go_at_call 38
       (with_reducible refine H1.out.mono ?_); rintro e w1 ⟨rfl, rfl⟩))
  go_ret
  exact ⟨rfl, rfl⟩

set_option maxRecDepth 100000 in
set_option maxHeartbeats 1600000 in
/-- A program that is awake is told so. -/
theorem awake_any (w : World) : Calls Try.prog 13 #[] w fun e w' => e = .returned (.bool true) ∧ Below w.heap.size w w' := by
  have H0 := Lib.hid (new_zero w)
  have H1 := fun g b w' h hr hb => Lib.hid (hear_one g b w' h hr hb)
  have H2 := fun g w' h => Lib.hid (tick_one g w' h)
  have H3 := fun g o w' h => Lib.hid (status_one g o w' h)
  go_enter Try.func13, Try.ntmps13
  go_wp2_with (first
    | (go_at_call 11
       (with_reducible refine H0.out.mono ?_); rintro e w1 ⟨g, hgl, rfl, ht1, hb1⟩
       obtain ⟨V, hV⟩ : ∃ V, Hid (V = w1.alloc (.cells #[.int .i64 1, .int .i64 0, .int .i64 1] 38)) := ⟨_, Lib.hid rfl⟩
       have hbV : Below w1.heap.size w1 V := by rw [hV.out]; exact (Below.refl _ _).alloc (Nat.le_refl _) _
       have HTV := Lib.hid (ht1.below hbV ht1.lt)
       have HRV : Hid (V.heap[w1.heap.size]? = some (.cells #[.int .i64 1, .int .i64 0, .int .i64 1] 38 (0, 0))) := Lib.hid (by rw [hV.out]; exact heap_alloc_new w1 _)
       have HNE : Hid (w1.heap.size ≠ g) := Lib.hid (by have := ht1.lt; omega)
       have HBV : Hid (Below w.heap.size w V) := Lib.hid (hb1.trans (hbV.mono hb1.size))
       have HGL := Lib.hid hgl
       have hWe := hV.out.symm
       clear ht1 hb1 hbV hgl)
    | (go_at_call 15
       (try rw [hWe])
       (with_reducible refine (H1 _ _ _ HTV.out HRV.out HNE.out).out.mono ?_); rintro e w2 ⟨A2, c2, rfl, ht2, hg2⟩
       have HT2 := Lib.hid ht2
       have HB2 : Hid (Below w.heap.size w w2) := Lib.hid (((Turns.of HBV.out).trans (hg2.mono HBV.out.size)).below HGL.out)
       clear ht2 hg2 hWe)
    | (go_at_call 18
       (with_reducible refine (H2 _ _ HT2.out).out.mono ?_); rintro e w3 ⟨b3, c3, A3, k3, o3, rfl, hc3, ht3, hg3⟩
       have HT3 := Lib.hid ht3
       have HB3 : Hid (Below w.heap.size w w3) := Lib.hid (((Turns.of HB2.out).trans (hg3.mono HB2.out.size)).below HGL.out)
       clear ht3 hg3)
    | (go_at_call 28
       (with_reducible refine (H3 _ _ _ HT3.out).out.mono ?_); rintro e w4 ⟨rfl, rfl⟩))
  go_ret
  exact ⟨rfl, HB3.out⟩
end Go.Proofs.Ythipdadhhelieaa
