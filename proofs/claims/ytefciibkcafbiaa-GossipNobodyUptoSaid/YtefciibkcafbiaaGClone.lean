/- slices.Clone of rumours. -/
import Derived.Test.YtefciibkcafbiaaWRow
namespace Go.Proofs.Ytefciibkcafbiaa
open Go.RowKit Go.Sort Go.BigFrame

theorem infoPeer : (Try.prog.info? 39).map (fun i => (i.zero, i.size, i.bytes)) = some (some (.agg #[.int .i64 0, .int .i64 0, .int .i64 0]), 3, 24) := by kernel_rfl
set_option maxRecDepth 100000 in
set_option maxHeartbeats 1600000 in
theorem clone_peers (v : Value) (ps : List PeerA) (w : World) (h : RdD w v ps) (hl : ps.length ≤ 1048576) :
    Calls Try.prog 8 #[v] w fun e w' => ∃ u, e = .returned u ∧ RdD w' u ps ∧ Below w.heap.size w w' := by
  obtain ⟨A, c, rfl, hc, hx⟩ := h
  obtain ⟨n, hn⟩ : ∃ n, Hid (n = ps.length) := ⟨_, Lib.hid rfl⟩
  rw [← hn.out] at hc ⊢
  cases A with
  | none =>
    have he : ∀ u : World, (binOp .eql 29 (.slice none n c) (.slice none 0 0)).run Try.prog u = .ok (.bool true) u := fun u => Lib.run_eql_slice_nil (P := Try.prog) u 29 39 none n c 0 0 Try.underlying29
    have HP : Hid (ps = []) := Lib.hid (by
      cases ps with
      | nil => rfl
      | cons x r => obtain ⟨ad, h0, _⟩ := hx 0 x rfl; cases h0)
    clear hx hc hl
    go_enter Try.func8, Try.ntmps8
    go_wp2
    go_ret
    refine ⟨_, rfl, ?_, Below.refl _ _⟩
    rw [HP.out]
    exact RdD.nil w
  | some ad =>
    have hB : Below w.heap.size w (w.alloc (.cells #[] 39)) := (Below.refl _ _).alloc (Nat.le_refl _) _
    have HO : Hid (OwnD 39 (w.alloc (.cells #[] 39)) w.heap.size (.slice (some ⟨w.heap.size, 0, none⟩) 0 0) []) := Lib.hid ⟨rfl, .inr ⟨w.heap.size, 0, #[], rfl, Nat.le_refl _, heap_alloc_new w _, Nat.le_refl _, by decide, rfl, rfl⟩⟩
    have HX : Hid (RdDA (w.alloc (.cells #[] 39)) w.heap.size (some ad) ps) := Lib.hid (hx.below hB (Nat.le_refl _))
    have HB := Lib.hid hB
    have h63 : ([] : List PeerA).length + ps.length ≤ 1099511627776 := by simp only [List.length_nil]; omega
    have hzz : w.heap.size ≤ (w.alloc (.cells #[] 39)).heap.size := hB.size
    have he : ∀ u : World, (binOp .eql 29 (.slice (some ad) n c) (.slice none 0 0)).run Try.prog u = .ok (.bool false) u := fun u => Lib.run_eql_slice_nil (P := Try.prog) u 29 39 (some ad) n c 0 0 Try.underlying29
    clear hx hB hl
    go_enter Try.func8, Try.ntmps8
    go_wp2_with (at_builtin; go_must (refine wpList_append_dots Try.underlying29 infoPeer _ rfl (.tmp 5) (.tmp 6) rfl (by rfl) HO.out (by rfl) hn.out HX.out h63 hzz ?_))
    intro v5 w5 ho5 hg5 _
    have ho5 : OwnD 39 w5 w.heap.size v5 ps := ho5
    have HB5 : Hid (Below w.heap.size w w5) := Lib.hid (HB.out.grown hg5 hzz (fun g e => (World.ownsRow.lt HO.out g e).1))
    have HO5 := Lib.hid ho5
    clear ho5 hg5 h63 hzz
    go_wp2
    go_ret
    exact ⟨_, rfl, HO5.out.rd, HB5.out⟩
end Go.Proofs.Ytefciibkcafbiaa
