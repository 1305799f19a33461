/- turn; askOthers; bury. -/
import Derived.Test.YthipdadhhelieaaPRow
namespace Go.Proofs.Ythipdadhhelieaa
open Go.RowKit Go.Sort Go.BigFrame

set_option maxRecDepth 100000 in
set_option maxHeartbeats 800000 in
theorem turn_any (g : Nat) (t : TabA) (k : Nat) (hk : k < 8) (st : Int) (w : World) (h : TabAt w g t) :
    Calls Try.prog 65 #[.pointer (some ⟨g, 0, none⟩), .int .i64 (k : Int), .int .i64 st] w fun e w' => ∃ b, w.heap.size ≤ b ∧ e = .returned (.slice (some ⟨b, 0, none⟩) 1 1) ∧ OwnD 38 w' w.heap.size (.slice (some ⟨b, 0, none⟩) 1 1) [((k : Int), (t.nd k).1.2.1, st)] ∧ TabAt w' g (t.setNd k (((k : Int), (t.nd k).1.2.1, st), t.now)) ∧ Turns g w.heap.size w w' := by
  obtain ⟨c0, c1, c2, c3⟩ := h.node hk
  have b0 : (0 : Int) ≤ (k : Int) := by omega
  have b1 : (k : Int) < 8 := by omega
  generalize hs : t.nd k = s at c0 c1 c2 c3 ⊢
  have H1 := Lib.hid (tell_any g t k hk ((k : Int), s.1.2.1, st) rfl w h)
  clear h hs
  go_enter Try.func65, Try.ntmps65
  go_wp2_with ((go_at_call 64); (with_reducible refine H1.out.mono ?_); rintro e w1 ⟨b, hb, rfl, ho, ht, hg⟩)
  go_ret
  exact ⟨b, hb, rfl, ho, ht, hg⟩

set_option maxRecDepth 100000 in
set_option maxHeartbeats 3200000 in
/-- askOthers: some messages. -/
theorem askOthers_any (g : Nat) (t : TabA) (p : PingA) (w : World) (h : TabAt w g t) :
    Calls Try.prog 66 #[.pointer (some ⟨g, 0, none⟩), pingV p] w fun e w' => ∃ v n, e = .returned v ∧ OwnM w' w.heap.size v n ∧ n ≤ 2 ∧ Below w.heap.size w w' := by
  obtain ⟨W, hW⟩ : ∃ W, Hid (W = w.alloc (.cells #[.int .i64 p.1, .int .i64 p.2.1, .int .i64 p.2.2.1, .bool p.2.2.2] 67)) := ⟨_, Lib.hid rfl⟩
  have hB : Below w.heap.size w W := by rw [hW.out]; exact (Below.refl _ _).alloc (Nat.le_refl _) _
  have hT := h.below hB h.lt
  have hrow : W.heap[w.heap.size]? = some (.cells #[.int .i64 p.1, .int .i64 p.2.1, .int .i64 p.2.2.1, .bool p.2.2.2] 67 (0, 0)) := by rw [hW.out]; exact heap_alloc_new w _
  have HT := Lib.hid hT
  have HN := Lib.hid (nodes_at hT)
  have HB := Lib.hid hB
  have HR := Lib.hid hrow
  have hi : (Try.prog.info? 64).map (·.size) = some t.nodes.length := by rw [nodes_len]; kernel_rfl
  have hix := fun (k : Nat) (hk : k < 8) w' => index_any t hk w'
  obtain ⟨L, hL⟩ : ∃ L, L = t.nodes := ⟨_, rfl⟩
  rw [← hL] at HN hi
  rw [← hL] at hix
  have HIX := Lib.hid hix
  have HLT : Hid (w.heap.size < W.heap.size) := Lib.hid (Array.getElem?_eq_some_iff.1 hrow).1
  have HM0 : Hid (OwnM W W.heap.size (.slice none 0 0) 0) := Lib.hid (ownM_nil _ _)
  clear hL h hix hB hT hrow
  go_enter Try.func66, Try.ntmps66
  go_upto_region 1 with fail
  rw [← hW.out]
  go_wp2_with (with_reducible refine wpList_load_mid rfl 64 (.tmp 10) rfl g 2 rfl L _ HN.out Try.underlying64 rfl hi ?_)
  go_loopw [12, 5] (fun i x wr => ∃ (k n : Nat) (A : Option Addr) (c : Nat), k ≤ 8 ∧ i = .int .i64 k ∧ x = .slice A n c ∧ n ≤ 2 ∧ Hid (OwnM wr W.heap.size (.slice A n c) n) ∧ Below W.heap.size W wr) (fun i _ _ => 8 - (intOf i).toNat)
  case atStart => exact ⟨0, 0, none, 0, Nat.zero_le _, rfl, rfl, by omega, HM0, Below.refl _ _⟩
  case round =>
    obtain ⟨k, n, A, c, hk, rfl, rfl, hn2, HM, hb⟩ := hrel
    by_cases hlt : k < 8
    · have ix := HIX.out k hlt
      obtain ⟨s, hs⟩ : ∃ s, s = t.nd k := ⟨_, rfl⟩
      rw [← hs] at ix
      obtain ⟨V, hV⟩ : ∃ V, Hid (V = wr.alloc (.cells #[.int .i64 s.1.1, .int .i64 s.1.2.1, .int .i64 s.1.2.2, .int .i64 s.2] 63)) := ⟨_, Lib.hid rfl⟩
      have hbv : Below W.heap.size W V := by rw [hV.out]; exact hb.alloc hb.size _
      have HBV := Lib.hid hbv
      have v2 : V.cell? ⟨wr.heap.size, 2, none⟩ = some (.int .i64 s.1.2.2) := by rw [hV.out]; exact box_cell _ _ _ 2
      have HTV := HT.out.below hbv HT.out.lt
      have g0 : V.cell? ⟨g, 0, none⟩ = some (.int .i64 t.self) := HTV.cell 0
      have hrv : V.heap[w.heap.size]? = _ := (hbv.block _ HLT.out).trans HR.out
      have p0 := cell_of_row _ _ 0 _ _ (0, 0) hrv
      have p1 := cell_of_row _ _ 1 _ _ (0, 0) hrv
      have HMV : Hid (OwnM V W.heap.size (.slice A n c) n) := Lib.hid (by
        obtain ⟨xs, h1, h2⟩ := HM.out
        rw [hV.out]
        exact ⟨xs, h1.alloc _, h2⟩)
      have HZV : Hid (W.heap.size ≤ V.heap.size) := Lib.hid hbv.size
      have dd : ((s.1.2.2 == 1) = false) ∨ ((s.1.2.2 == 1) = true ∧ ((k : Int) != t.self) = false ∧ ((k : Int) == t.self) = true) ∨ ((s.1.2.2 == 1) = true ∧ ((k : Int) != t.self) = true ∧ ((k : Int) == t.self) = false ∧ ((k : Int) != p.1) = false ∧ ((k : Int) == p.1) = true) ∨ ((s.1.2.2 == 1) = true ∧ ((k : Int) != t.self) = true ∧ ((k : Int) == t.self) = false ∧ ((k : Int) != p.1) = true ∧ ((k : Int) == p.1) = false ∧ decide ((n : Int) < 2) = false) ∨ ((s.1.2.2 == 1) = true ∧ ((k : Int) != t.self) = true ∧ ((k : Int) == t.self) = false ∧ ((k : Int) != p.1) = true ∧ ((k : Int) == p.1) = false ∧ decide ((n : Int) < 2) = true) := by
        by_cases a1 : s.1.2.2 = 1
        · by_cases a2 : (k : Int) = t.self
          · exact .inr (.inl ⟨by simpa using a1, by simp [a2], by simp [a2]⟩)
          · by_cases a3 : (k : Int) = p.1
            · exact .inr (.inr (.inl ⟨by simpa using a1, by simpa using a2, by simpa using a2, by simp [a3], by simp [a3]⟩))
            · by_cases a4 : n < 2
              · exact .inr (.inr (.inr (.inr ⟨by simpa using a1, by simpa using a2, by simpa using a2, by simpa using a3, by simpa using a3, by simp; omega⟩)))
              · exact .inr (.inr (.inr (.inl ⟨by simpa using a1, by simpa using a2, by simpa using a2, by simpa using a3, by simpa using a3, by simp; omega⟩)))
        · exact .inl (by simpa using a1)
      clear hb hs hbv HTV hrv HM
      rcases dd with d1 | ⟨d1, d2, d3⟩ | ⟨d1, d2, d3, d4, d5⟩ | ⟨d1, d2, d3, d4, d5, d6⟩ | ⟨d1, d2, d3, d4, d5, d6⟩
      · go_upto_region 5 with fail
        rw [← hV.out]
        go_wp2
        go_roundw
        case rel => exact ⟨k + 1, n, A, c, by omega, by go_num, rfl, hn2, HMV, HBV.out⟩
        case measure => simp [intOf]; omega
      · go_upto_region 5 with fail
        rw [← hV.out]
        go_wp2
        go_roundw
        case rel => exact ⟨k + 1, n, A, c, by omega, by go_num, rfl, hn2, HMV, HBV.out⟩
        case measure => simp [intOf]; omega
      · go_upto_region 5 with fail
        rw [← hV.out]
        go_wp2
        go_roundw
        case rel => exact ⟨k + 1, n, A, c, by omega, by go_num, rfl, hn2, HMV, HBV.out⟩
        case measure => simp [intOf]; omega
      · go_upto_region 5 with fail
        rw [← hV.out]
        go_wp2
        go_roundw
        case rel => exact ⟨k + 1, n, A, c, by omega, by go_num, rfl, hn2, HMV, HBV.out⟩
        case measure => simp [intOf]; omega
      · go_upto_region 5 with fail
        rw [← hV.out]
        go_wp2_with fail
        have hn1 : n + 1 ≤ 2 := by have := of_decide_eq_true d6; omega
        obtain ⟨xs, hx1, hx2⟩ := HMV.out
        obtain ⟨news, hnews⟩ : ∃ news : List Value, Hid (news = [.int .i64 6, .int .i64 t.self, .int .i64 (k : Int), .int .i64 p.2.1, .string .empty, .slice none 0 0, .slice none 0 0, .slice none 0 0, .int .i64 p.1, .int .i64 0, .int .i64 (-1), .int .i64 0, .int .i64 0, .int .i64 0, .slice none 0 0, .slice none 0 0, .slice none 0 0]) := ⟨_, Lib.hid rfl⟩
        have HONE : Hid (news.length = 1 * 17 ∧ ∀ u ∈ news, u.oneCell' = true) := Lib.hid (by rw [hnews.out]; exact ⟨rfl, List.all_eq_true.1 (show List.all _ (fun u : Value => u.oneCell') = true from rfl)⟩)
        have hn0 : ∀ j u, news[j]? = some u → (V.alloc (.cells #[.int .i64 6, .int .i64 t.self, .int .i64 (k : Int), .int .i64 p.2.1, .string .empty, .slice none 0 0, .slice none 0 0, .slice none 0 0, .int .i64 p.1, .int .i64 0, .int .i64 (-1), .int .i64 0, .int .i64 0, .int .i64 0, .slice none 0 0, .slice none 0 0, .slice none 0 0] 56)).cell? ((⟨V.heap.size, 0, none⟩ : Addr).add j) = some u := by
          intro j u hj
          rw [Addr.add_mid, box_cell]
          rw [hnews.out] at hj
          simpa using hj
        have hoA : (V.alloc (.cells #[.int .i64 6, .int .i64 t.self, .int .i64 (k : Int), .int .i64 p.2.1, .string .empty, .slice none 0 0, .slice none 0 0, .slice none 0 0, .int .i64 p.1, .int .i64 0, .int .i64 (-1), .int .i64 0, .int .i64 0, .int .i64 0, .slice none 0 0, .slice none 0 0, .slice none 0 0] 56)).ownsRow W.heap.size 56 17 (.slice A n c) n xs := hx1.alloc _
        have HOA := Lib.hid hoA
        have HN0 := Lib.hid hn0
        have HX2 := Lib.hid hx2
        have HBA : Hid (Below W.heap.size W (V.alloc (.cells #[.int .i64 6, .int .i64 t.self, .int .i64 (k : Int), .int .i64 p.2.1, .string .empty, .slice none 0 0, .slice none 0 0, .slice none 0 0, .int .i64 p.1, .int .i64 0, .int .i64 (-1), .int .i64 0, .int .i64 0, .int .i64 0, .slice none 0 0, .slice none 0 0, .slice none 0 0] 56))) := Lib.hid (HBV.out.alloc HBV.out.size _)
        have HZA : Hid (W.heap.size ≤ (V.alloc (.cells #[.int .i64 6, .int .i64 t.self, .int .i64 (k : Int), .int .i64 p.2.1, .string .empty, .slice none 0 0, .slice none 0 0, .slice none 0 0, .int .i64 p.1, .int .i64 0, .int .i64 (-1), .int .i64 0, .int .i64 0, .int .i64 0, .slice none 0 0, .slice none 0 0, .slice none 0 0] 56)).heap.size) := Lib.hid (by simp; have := HZV.out; omega)
        clear hx1 hx2 hn0 hoA
        go_region_law (first
          | (refine step_append_gen Try.underlying34 infoMsg ⟨rfl, by decide, by decide⟩ _ (by rfl) (.tmp 39) (.tmp 50) (by rfl) (by rfl) (by rfl) HOA.out news HONE.out ⟨by omega, by omega⟩ ?_ ?_ ?_
             · exact HN0.out
             · exact HZA.out
             intro g1 c1 w6 ho6 hg6 hd6
             have HM6 : Hid (OwnM w6 W.heap.size (.slice (some ⟨g1, 0, none⟩) (n + 1) c1) (n + 1)) := Lib.hid ⟨_, ho6, fun u hu => by rcases List.mem_append.1 hu with h | h; exact HX2.out u h; exact HONE.out.2 u h⟩
             have HB6 : Hid (Below W.heap.size W w6) := Lib.hid ⟨hg6.os.trans HBA.out.os, hg6.tape.trans HBA.out.tape, hg6.output.trans HBA.out.output, Nat.le_trans HBA.out.size hg6.size, fun b hb => (hg6.block b (Nat.lt_of_lt_of_le hb HBA.out.size) (fun e => by have := (World.ownsRow.lt HOA.out b e.symm).1; omega)).trans (HBA.out.block b hb)⟩
             clear ho6 hg6 hd6)
          | fail)
        all_goals
          go_wp2
          go_roundw
          case rel => exact ⟨k + 1, n + 1, some ⟨g1, 0, none⟩, c1, by omega, by go_num, rfl, hn1, HM6, HB6.out⟩
          case measure => simp [intOf]; omega
    · obtain rfl : k = 8 := by omega
      have HBE : Hid (Below w.heap.size w wr) := Lib.hid (HB.out.trans (hb.mono HB.out.size))
      clear hb
      go_wp2
      go_ret
      obtain ⟨xs, hx1, hx2⟩ := HM.out
      exact ⟨_, n, rfl, ⟨xs, row_base hx1 HB.out.size, hx2⟩, hn2, HBE.out⟩
end Go.Proofs.Ythipdadhhelieaa
