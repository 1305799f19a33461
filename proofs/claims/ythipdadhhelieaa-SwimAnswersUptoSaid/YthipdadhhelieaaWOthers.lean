/- What is known of others, copied; rows held against each other; a time out of a list. -/
import Derived.Test.YthipdadhhelieaaWDelete2
namespace Go.Proofs.Ythipdadhhelieaa
open Go.RowKit Go.Sort Go.BigFrame

set_option maxRecDepth 100000 in
set_option maxHeartbeats 1600000 in
theorem cloneP_any (v : Value) (x : PeerA) (r : List PeerA) (w : World) (h : RdD w v (x :: r)) (hl : r.length ≤ 1048576) :
    Calls Try.prog 14 #[v] w fun e w' => ∃ g n c, e = .returned (.slice (some ⟨g, 0, none⟩) n c) ∧ OwnD 38 w' w.heap.size (.slice (some ⟨g, 0, none⟩) n c) (x :: r) ∧ Below w.heap.size w w' := by
  obtain ⟨A, c, rfl, hc, hx⟩ := h
  obtain ⟨ad, rfl, _, _⟩ := hx 0 x rfl
  obtain ⟨n, hn⟩ : ∃ n, Hid (n = (x :: r).length) := ⟨_, Lib.hid rfl⟩
  rw [← hn.out] at hc ⊢
  have hB : Below w.heap.size w (w.alloc (.cells #[] 38)) := (Below.refl _ _).alloc (Nat.le_refl _) _
  have HO : Hid (OwnD 38 (w.alloc (.cells #[] 38)) w.heap.size (.slice (some ⟨w.heap.size, 0, none⟩) 0 0) []) := Lib.hid ⟨rfl, .inr ⟨w.heap.size, 0, #[], rfl, Nat.le_refl _, heap_alloc_new w _, Nat.le_refl _, by decide, rfl, rfl⟩⟩
  have HX : Hid (RdDA (w.alloc (.cells #[] 38)) w.heap.size (some ad) (x :: r)) := Lib.hid (hx.below hB (Nat.le_refl _))
  have HB := Lib.hid hB
  have h63 : ([] : List PeerA).length + (x :: r).length ≤ 1099511627776 := by simp only [List.length_nil, List.length_cons]; omega
  have hzz : w.heap.size ≤ (w.alloc (.cells #[] 38)).heap.size := hB.size
  have he : ∀ u : World, (binOp .eql 31 (.slice (some ad) n c) (.slice none 0 0)).run Try.prog u = .ok (.bool false) u := fun u => Lib.run_eql_slice_nil (P := Try.prog) u 31 38 (some ad) n c 0 0 Try.underlying31
  clear hx hB hl
  go_enter Try.func14, Try.ntmps14
  go_wp2_with (at_builtin; go_must (refine wpList_append_dots Try.underlying31 infoPeer _ rfl (.tmp 5) (.tmp 6) rfl (by rfl) HO.out (by rfl) hn.out HX.out h63 hzz ?_))
  intro v5 w5 ho5 hg5 _
  have ho5 : OwnD 38 w5 w.heap.size v5 (x :: r) := ho5
  have HB5 : Hid (Below w.heap.size w w5) := Lib.hid (HB.out.grown hg5 hzz (fun g e => (World.ownsRow.lt HO.out g e).1))
  obtain ⟨g1, n1, c1, rfl⟩ : ∃ g1 n1 c1, v5 = .slice (some ⟨g1, 0, none⟩) n1 c1 := by
    rcases ho5.2 with ⟨_, h0⟩ | ⟨g1, cap, cur, hv, _⟩
    · simp at h0
    · exact ⟨g1, _, cap, hv⟩
  have HO5 := Lib.hid ho5
  clear ho5 hg5 h63 hzz
  go_wp2
  go_ret
  exact ⟨g1, n1, c1, rfl, HO5.out, HB5.out⟩

set_option maxRecDepth 100000 in
set_option maxHeartbeats 1600000 in
/-- The law's closure: what is known of others. -/
theorem others_any (g : Nat) (t : TabA) (ks : Nat) (hks : ks < 8) (hself : t.self = (ks : Int)) (hkn : t.knows ks = true) (x : PeerA) (hx : x.1 < 2) (hp : t.peers 8 = x :: t.others) (hr : ∀ y ∈ t.others, 2 ≤ y.1) (w : World) (h : TabAt w g t) :
    Calls Try.prog 31 #[.pointer (some ⟨g, 0, none⟩)] w fun e w' => ∃ v, e = .returned v ∧ RdD w' v t.others ∧ Below w.heap.size w w' := by
  have HL : Hid (t.others.length ≤ 1048576) := Lib.hid (by have := peers_len t 8; rw [hp] at this; simp only [List.length_cons] at this; omega)
  have H0 : Hid (Calls Try.prog 27 #[.pointer (some ⟨g, 0, none⟩)] w fun e w' => ∃ v, e = .returned v ∧ OwnD 38 w' w.heap.size v (x :: t.others) ∧ Below w.heap.size w w') := Lib.hid (by have := peers_any g t ks hks hself hkn w h; rw [hp] at this; exact this)
  have HX := Lib.hid hx
  have HR := Lib.hid hr
  clear hks hself hkn hp hx hr h
  go_enter Try.func31, Try.ntmps31
  go_wp2_with (first
    | (go_at_call 27
       (with_reducible refine H0.out.mono ?_); rintro e w1 ⟨v1, rfl, ho1, hb1⟩
       have HB1 := Lib.hid hb1
       have HC := Lib.hid (cloneP_any v1 x t.others w1 ho1.rd HL.out)
       clear ho1 hb1)
    | (go_at_call 14
       (with_reducible refine HC.out.mono ?_); rintro e w2 ⟨g2, n2, c2, rfl, ho2, hb2⟩
       have HB2 : Hid (Below w.heap.size w w2) := Lib.hid (HB1.out.trans (hb2.mono HB1.out.size))
       have HZ2 : Hid (w.heap.size ≤ g2) := Lib.hid (Nat.le_trans HB1.out.size (World.ownsRow.lt ho2 g2 rfl).1)
       have HD := Lib.hid (delete_first w1.heap.size g2 n2 c2 x t.others w2 ho2 HX.out HR.out HL.out)
       clear ho2 hb2)
    | (go_at_call 32
       (with_reducible refine HD.out.mono ?_); rintro e w3 ⟨m3, rfl, ho3, hg3⟩))
  go_ret
  exact ⟨_, rfl, ho3.rd, HB2.out.grown hg3 HB2.out.size (fun g e => by injection e with e; rw [← e]; exact HZ2.out)⟩

theorem nePeer (d : PeerA) (w : World) : (binOp .neq 38 (peerV d) (peerV d)).run Try.prog w = .ok (.bool false) w := by
  have u3 := Try.underlying3
  have a3 := Try.isAgg3
  have z3 := Try.sizeOf3
  have hS : Try.prog.underlying 38 = some (.struct (Try.prog.fieldsOf 38)) := by kernel_rfl
  have hp : Try.prog.stoodInHeld 38 = false := by kernel_rfl
  obtain ⟨a1, a2, a4⟩ := d
  rw [run_neq_struct, show (10000 : Nat) = 9999 + 1 from rfl, run_equalIn_agg w 9999 38 _ _ hS hp]
  simp only [Program.fieldsOf, Try.underlying38]
  go_simp

set_option maxRecDepth 100000 in
set_option maxHeartbeats 1600000 in
theorem equalP_same (v1 v2 : Value) (xs : List PeerA) (w : World) (h1 : RdD w v1 xs) (h2 : RdD w v2 xs) (hl : xs.length ≤ 1048576) :
    Calls Try.prog 17 #[v1, v2] w fun e w' => e = .returned (.bool true) ∧ Below w.heap.size w w' := by
  obtain ⟨A, c, rfl, hc, hx⟩ := h1
  obtain ⟨B, k2, rfl, hc2, hy⟩ := h2
  obtain ⟨n, hn⟩ : ∃ n, Hid (n = xs.length) := ⟨_, Lib.hid rfl⟩
  rw [← hn.out] at hl hc hc2 ⊢
  have HX := Lib.hid hx
  have HY := Lib.hid hy
  clear hx hy
  go_enter Try.func17, Try.ntmps17
  go_wp2
  go_loopw [13] (fun i wr => ∃ k : Nat, k ≤ n ∧ i = .int .i64 k ∧ Below w.heap.size w wr) (fun i _ => n - (intOf i).toNat)
  case atStart => exact ⟨0, Nat.zero_le _, rfl, Below.refl _ _⟩
  case round =>
    obtain ⟨k, hk, rfl, hb⟩ := hrel
    by_cases hlt : k < n
    · obtain ⟨d, hd⟩ : ∃ d, xs[k]? = some d := ⟨xs[k]'(by have := hn.out; omega), List.getElem?_eq_getElem _⟩
      obtain ⟨ad, rfl, ha, d0, d1, d2⟩ := HX.out.below hb (Nat.le_refl _) k d hd
      obtain ⟨bd, rfl, hb', e0, e1, e2⟩ := HY.out.below hb (Nat.le_refl _) k d hd
      have b0 : (0 : Int) ≤ (k : Int) := by omega
      have b1 : (k : Int) < (n : Int) := by omega
      have hNE := nePeer d
      have HB := Lib.hid hb
      clear hd hb
      go_wp2_with fail
      go_quiet (fail)
      go_wp2
      go_roundw
      case rel => exact ⟨k + 1, by omega, by go_num, by first | exact HB.out.drew | exact ⟨HB.out.os, HB.out.tape, HB.out.output, HB.out.size, HB.out.block⟩⟩
      case measure => simp [intOf]; omega
    · obtain rfl : k = n := by omega
      go_wp2
      go_ret
      exact ⟨rfl, hb⟩

/-- A slice of numbers of a kind, whatever they are. -/
def RdN (kd : IntKind) (w : World) (A : Option Addr) (n : Nat) : Prop := ∀ j, j < n → ∃ ad : Addr, A = some ad ∧ ad.block < w.heap.size ∧ ∃ z, w.cell? (ad.add j) = some (.int kd z) ∧ kd.min ≤ z ∧ z ≤ kd.max
theorem RdN.below {kd : IntKind} {w w' : World} {A : Option Addr} {n : Nat} (h : RdN kd w A n) (hb : Below w.heap.size w w') : RdN kd w' A n := fun j hj => by
  obtain ⟨ad, e, hlt, z, hz, hw⟩ := h j hj
  exact ⟨ad, e, Nat.lt_of_lt_of_le hlt hb.size, z, (hb.cell (by rw [add_block]; exact hlt)).trans hz, hw⟩
set_option maxRecDepth 100000 in
/-- The law's closure: the time at a place, or nought. -/
theorem when_any (b : Nat) (A : Option Addr) (n c : Nat) (i : Nat) (w : World) (hc : w.cell? ⟨b, 0, none⟩ = some (.slice A n c)) (hn : RdN .i64 w A n) :
    Calls Try.prog 30 #[.int .i64 (i : Int), .pointer (some ⟨b, 0, none⟩)] w fun e w' => (∃ x : Int, e = .returned (.int .i64 x)) ∧ w = w' := by
  by_cases h : i < n
  · obtain ⟨ad, rfl, _, z, hz, _⟩ := hn i h
    have d1 : decide ((i : Int) < (n : Int)) = true := by simp; omega
    have b0 : (0 : Int) ≤ (i : Int) := by omega
    have b1 : (i : Int) < (n : Int) := by omega
    clear hn h
    go_enter Try.func30, Try.ntmps30
    go_wp2
    go_ret
    exact ⟨⟨z, rfl⟩, rfl⟩
  · have d1 : decide ((i : Int) < (n : Int)) = false := by simp; omega
    have d2 : decide (i < n) = false := by simp; omega
    have d3 : ¬ (i : Int) < (n : Int) := by omega
    clear hn h
    go_enter Try.func30, Try.ntmps30
    go_wp2
    go_ret
    exact ⟨⟨0, rfl⟩, rfl⟩
end Go.Proofs.Ythipdadhhelieaa
