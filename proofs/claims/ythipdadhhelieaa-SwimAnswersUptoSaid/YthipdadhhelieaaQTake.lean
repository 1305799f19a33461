/- A ping that is answered, where it is the only one that is open. -/
import Derived.Test.YthipdadhhelieaaPTick
namespace Go.Proofs.Ythipdadhhelieaa
open Go.RowKit Go.Sort Go.BigFrame

theorem zeroPing (w : World) : (zeroValue 67).run Try.prog w = .ok (.agg #[.int .i64 0, .int .i64 0, .int .i64 0, .bool false]) w := by kernel_rfl
theorem run_clear_ping (w : World) {base b c : Nat} {p : PingA} (h : OwnG w base (.slice (some ⟨b, 0, none⟩) 1 c) [p]) (c' : Nat) :
    ∃ w', (∀ ty, (Builtin.clear_ #[65] ty #[.slice (some ⟨b, 0, none⟩) 1 c']).run Try.prog w = .ok (.tuple #[]) w') ∧ OwnG w' base (.slice (some ⟨b, 0, none⟩) 0 c) [] ∧ w.grownBy w' (some b) := by
  obtain ⟨Z, hZ⟩ : ∃ Z, Z = (Builtin.zeroCells #[.int .i64 0, .int .i64 0, .int .i64 0, .bool false] 1).toList := ⟨_, rfl⟩
  have hZ' : Z = [.int .i64 0, .int .i64 0, .int .i64 0, .bool false] := by rw [hZ]; kernel_rfl
  have hZ1 : ∀ v ∈ Z, v.oneCell' = true := by
    intro v hv'
    rw [hZ'] at hv'
    simp at hv'
    rcases hv' with rfl | rfl <;> rfl
  have hlen : (pcells [p]).length = 4 := rfl
  have hc : ∀ j, j < Z.length → (w.cell? ⟨b, 0 + j, none⟩).isSome = true := fun j hj => by
    have hj4 : j < 4 := by rw [hZ'] at hj; exact hj
    rw [World.ownsRow.cellAt h (0 + j) (by simp; omega)]
    simp only [Option.isSome_iff_exists]
    exact ⟨_, List.getElem?_eq_getElem (by rw [hlen]; omega)⟩
  have hf : ∀ j, j < Z.length → w.frozen? ⟨b, 0 + j, none⟩ = false := fun j _ => World.ownsRow.frozenAt h _
  have hst := run_storeCells_cells (P := Try.prog) b 0 Z 0 w (by simpa using hc) (by simpa using hf) hZ1
  simp only [Nat.add_zero] at hst
  obtain ⟨ys, h1, h2, h3⟩ := row_setCells b Z 0 w h
  refine ⟨w.setCells b 0 Z, ?_, ?_, h3⟩
  · intro ty
    simp [Builtin.clear_, run_underlying Try.underlying65, Value.cells, ← hZ, hst]
  · rcases h1.2 with ⟨e, _⟩ | ⟨g', cap, cur, e, hb, hg, hcc, hcm, hcs, htk⟩
    · cases e
    · injection e with e1 e2 e3
      injection e1 with e1
      injection e1 with e1
      subst e1 e3
      exact ⟨rfl, .inr ⟨b, c, cur, rfl, hb, hg, Nat.zero_le _, hcm, hcs, by simp [pcells]⟩⟩

/-- The message that is taken lies in a block. -/
def MsgAt (w : World) (mb : Nat) (f r : Int) (to : Int) : Prop := w.heap[mb]? = some (.cells #[.int .i64 7, .int .i64 f, .int .i64 to, .int .i64 r, .string .empty, .slice none 0 0, .slice none 0 0, .slice none 0 0, .int .i64 f, .int .i64 0, .int .i64 (-1), .int .i64 0, .int .i64 0, .int .i64 0, .slice none 0 0, .slice none 0 0, .slice none 0 0] 56 (0, 0))
theorem hits_any (p : PingA) (mb : Nat) (f r to : Int) (w : World) (h : MsgAt w mb f r to) (h1 : p.1 = f) (h2 : p.2.1 = r) :
    Calls Try.prog 69 #[pingV p, .pointer (some ⟨mb, 0, none⟩)] w fun e w' => e = .returned (.bool true) ∧ Below w.heap.size w w' := by
  obtain ⟨W, hW⟩ : ∃ W, Hid (W = w.alloc (.cells #[.int .i64 p.1, .int .i64 p.2.1, .int .i64 p.2.2.1, .bool p.2.2.2] 67)) := ⟨_, Lib.hid rfl⟩
  have hB : Below w.heap.size w W := by rw [hW.out]; exact (Below.refl _ _).alloc (Nat.le_refl _) _
  have hm : W.heap[mb]? = _ := (hB.block mb (Array.getElem?_eq_some_iff.1 h).1).trans h
  have c0 : W.cell? ⟨w.heap.size, 0, none⟩ = some (.int .i64 p.1) := by rw [hW.out]; exact box_cell _ _ _ 0
  have c1 : W.cell? ⟨w.heap.size, 1, none⟩ = some (.int .i64 p.2.1) := by rw [hW.out]; exact box_cell _ _ _ 1
  have m8 : W.cell? ⟨mb, 8, none⟩ = some (.int .i64 p.1) := by rw [h1]; exact cell_of_row _ _ 8 _ _ (0, 0) hm
  have m3 : W.cell? ⟨mb, 3, none⟩ = some (.int .i64 p.2.1) := by rw [h2]; exact cell_of_row _ _ 3 _ _ (0, 0) hm
  have HB := Lib.hid hB
  have d1 : (p.1 == p.1) = true := by simp
  have d2 : (p.2.1 == p.2.1) = true := by simp
  clear h hB hm h1 h2
  go_enter Try.func69, Try.ntmps69
  go_upto_region 1 with fail
  rw [← hW.out]
  go_wp2
  go_ret
  exact ⟨rfl, HB.out⟩

abbrev hitV (mb : Nat) : Value := .func (.func 69) #[] #[.pointer (some ⟨mb, 0, none⟩)]
set_option maxRecDepth 100000 in
set_option maxHeartbeats 800000 in
theorem index_hit (base b n c : Nat) (hn : n = 1) (p : PingA) (mb : Nat) (f r to : Int) (w : World) (ho : OwnG w base (.slice (some ⟨b, 0, none⟩) n c) [p]) (h : MsgAt w mb f r to) (h1 : p.1 = f) (h2 : p.2.1 = r) :
    Calls Try.prog 71 #[.slice (some ⟨b, 0, none⟩) n c, hitV mb] w fun e w' => e = .returned (.int .i64 0) ∧ Below w.heap.size w w' := by
  obtain ⟨bb, cc, hv, _, _, e0, e1, e2, e3⟩ := ho.at_ (j := 0) (p := p) rfl
  injection hv with hv1 _ _
  injection hv1 with hv1
  injection hv1 with hv1
  subst hv1
  simp only [Nat.zero_mul, Nat.zero_add] at e0 e1 e2 e3
  have H1 : Hid (Calls Try.prog 69 #[.agg #[.int .i64 p.1, .int .i64 p.2.1, .int .i64 p.2.2.1, .bool p.2.2.2], .pointer (some ⟨mb, 0, none⟩)] w fun e w' => e = .returned (.bool true) ∧ Below w.heap.size w w') := Lib.hid (hits_any p mb f r to w h h1 h2)
  have d1 : decide ((0 : Int) < (n : Int)) = true := by simp; omega
  have d2 : (0 : Int) < (n : Int) := by omega
  clear ho h h1 h2 hn
  go_enter Try.func71, Try.ntmps71
  go_wp2
  go_loop [8] (fun i => i = .int .i64 0) (fun _ => 0)
  case atStart => rfl
  case round =>
    obtain rfl := hrel
    go_wp2_with ((go_at_call 69); (with_reducible refine H1.out.mono ?_); rintro e w1 ⟨rfl, hb1⟩)
    go_ret
    exact ⟨rfl, hb1⟩
set_option maxRecDepth 100000 in
set_option maxHeartbeats 1600000 in
theorem delete_hit (base b c : Nat) (p : PingA) (mb : Nat) (f r to : Int) (w : World) (ho : OwnG w base (.slice (some ⟨b, 0, none⟩) 1 c) [p]) (h : MsgAt w mb f r to) (h1 : p.1 = f) (h2 : p.2.1 = r) :
    Calls Try.prog 68 #[.slice (some ⟨b, 0, none⟩) 1 c, hitV mb] w fun e w' => e = .returned (.slice (some ⟨b, 0, none⟩) 0 c) ∧ OwnG w' base (.slice (some ⟨b, 0, none⟩) 0 c) [] ∧ w.grownBy w' (some b) := by
  have H1 := Lib.hid (index_hit base b 1 c rfl p mb f r to w ho h h1 h2)
  have HO := Lib.hid ho
  have hc1 : 1 ≤ c := by
    rcases ho.2 with ⟨e, _⟩ | ⟨g', cap, cur, e, _, _, hc, _⟩
    · cases e
    · injection e with e1 e2 e3
      subst e3
      exact hc
  clear ho h h1 h2
  go_enter Try.func68, Try.ntmps68
  go_wp2_with ((go_at_call 71); (with_reducible refine H1.out.mono ?_); rintro e w1 ⟨rfl, hb1⟩)
  have HB1 := Lib.hid hb1
  have HO1 : Hid (OwnG w1 base (.slice (some ⟨b, 0, none⟩) 1 c) [p]) := Lib.hid (row_below HO.out hb1)
  clear hb1
  go_loopw [5, 6] (fun i j wr => i = .int .i64 0 ∧ j = .int .i64 1 ∧ Hid (wr = w1)) (fun _ _ _ => 0)
  case atStart => exact ⟨rfl, by first | rfl | go_num, Lib.hid rfl⟩
  case round =>
    obtain ⟨rfl, rfl, hwr⟩ := hrel
    have e := hwr.out
    subst e
    obtain ⟨w6, hrun, ho6, hg6⟩ := run_clear_ping _ HO1.out c
    have HO6 := Lib.hid ho6
    have HG6 := Lib.hid hg6
    clear ho6 hg6 hwr
    go_wp2
    go_ret
    exact ⟨rfl, HO6.out, ⟨HB1.out.os ▸ HG6.out.os, HB1.out.tape ▸ HG6.out.tape, HB1.out.output ▸ HG6.out.output, Nat.le_trans HB1.out.size HG6.out.size, fun j hj hne => (HG6.out.block j (Nat.lt_of_lt_of_le hj HB1.out.size) hne).trans (HB1.out.block j hj)⟩⟩

/-- The cells of an answer to a ping. -/
abbrev pongV (f to r : Int) : Value := .agg #[.int .i64 7, .int .i64 f, .int .i64 to, .int .i64 r, .string .empty, .slice none 0 0, .slice none 0 0, .slice none 0 0, .int .i64 f, .int .i64 0, .int .i64 (-1), .int .i64 0, .int .i64 0, .int .i64 0, .slice none 0 0, .slice none 0 0, .slice none 0 0]
set_option maxRecDepth 100000 in
set_option maxHeartbeats 3200000 in
/-- take: the only open ping is answered. -/
theorem take_hit (g base : Nat) (hgb : g < base) (t : TabA) (p : PingA) (f r to : Int) (h1 : p.1 = f) (h2 : p.2.1 = r) (w : World) (h : TabAt w g t) (ho : OwnG w base t.opened [p]) :
    Calls Try.prog 54 #[.pointer (some ⟨g, 0, none⟩), pongV f to r] w fun e w' => ∃ ov, e = .returned (.slice none 0 0) ∧ TabAt w' g { t with opened := ov } ∧ OwnG w' base ov [] ∧ Moves g t.opened.ownBlock w w' := by
  obtain ⟨W, hW⟩ : ∃ W, Hid (W = w.alloc (.cells #[.int .i64 7, .int .i64 f, .int .i64 to, .int .i64 r, .string .empty, .slice none 0 0, .slice none 0 0, .slice none 0 0, .int .i64 f, .int .i64 0, .int .i64 (-1), .int .i64 0, .int .i64 0, .int .i64 0, .slice none 0 0, .slice none 0 0, .slice none 0 0] 56)) := ⟨_, Lib.hid rfl⟩
  have hB : Below w.heap.size w W := by rw [hW.out]; exact (Below.refl _ _).alloc (Nat.le_refl _) _
  have hT := h.below hB h.lt
  have hm : MsgAt W w.heap.size f r to := by unfold MsgAt; rw [hW.out]; exact heap_alloc_new w _
  have m10 : W.cell? ⟨w.heap.size, 10, none⟩ = some (.int .i64 (-1)) := cell_of_row _ _ 10 _ _ (0, 0) hm
  obtain ⟨b, c, hop⟩ : ∃ b c, t.opened = .slice (some ⟨b, 0, none⟩) 1 c := by
    rcases ho.2 with ⟨_, e⟩ | ⟨b, c, cur, e, _⟩
    · simp at e
    · exact ⟨b, c, e⟩
  have HOP := Lib.hid hop
  have hbg : b ≠ g := by have := (World.ownsRow.lt ho b (by rw [hop]; rfl)).1; omega
  have HBG := Lib.hid hbg
  have hoW : ∀ n, OwnG (W.drewN n) base (.slice (some ⟨b, 0, none⟩) 1 c) [p] := fun n => by rw [← hop]; exact row_below ho (below_drewN hB n)
  have HD := fun n => Lib.hid (delete_hit base b c p w.heap.size f r to (W.drewN n) (hoW n) hm h1 h2)
  have HT := Lib.hid hT
  have HB := Lib.hid hB
  have c34 : ∀ n, (W.drewN n).cell? ⟨g, 34, none⟩ = some (.slice (some ⟨b, 0, none⟩) 1 c) := fun n => by rw [← hop]; exact hT.cell 34
  clear h ho hB hT hm hop hoW hbg
  go_enter Try.func54, Try.ntmps54
  go_upto_region 1 with fail
  rw [← hW.out]
  go_quiet (fail)
  have d34 := c34 nq
  have HDn := HD nq
  obtain ⟨V, hV⟩ : ∃ V, Hid (V = W.drewN nq) := ⟨_, Lib.hid rfl⟩
  rw [← hV.out] at d34 HDn ⊢
  have HTV : Hid (TabAt V g t) := Lib.hid (by rw [hV.out]; exact HT.out)
  have HBV : Hid (Below w.heap.size w V) := Lib.hid (by rw [hV.out]; exact below_drewN HB.out nq)
  clear c34 HD m10
  go_wp2_with ((go_at_call 68); (with_reducible refine HDn.out.mono ?_); rintro e w3 ⟨rfl, ho3, hg3⟩
               have ht3 : TabAt w3 g t := HTV.out.keep (hg3.block g HTV.out.lt (fun e => by injection e with e; exact HBG.out e.symm))
               have f34 := ht3.frozen 34
               have e34 : w3.cell? ⟨g, 34, none⟩ = some (.slice (some ⟨b, 0, none⟩) 1 c) := by rw [← HOP.out]; exact ht3.cell 34
               have HT3 := Lib.hid ht3
               have HO3 := Lib.hid ho3
               have HG3 := Lib.hid hg3
               clear ht3 ho3 hg3)
  go_ret
  refine ⟨.slice (some ⟨b, 0, none⟩) 0 c, rfl, Joins.block_setCell HT3.out (i := 34) _, row_turn HO3.out ((Turns.of (Below.refl _ _)).set _ _) hgb, ?_⟩
  have hm0 : Moves g t.opened.ownBlock w V := Moves.of (Turns.of HBV.out)
  rw [HOP.out] at hm0 ⊢
  exact (hm0.grown HG3.out).set 34 _
end Go.Proofs.Ythipdadhhelieaa
