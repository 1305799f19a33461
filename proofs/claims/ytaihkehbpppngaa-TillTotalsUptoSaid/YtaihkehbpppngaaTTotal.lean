/- What lines come to. -/
import Derived.Test.YtaihkehbpppngaaTOff
namespace Go.Proofs.Ytaihkehbpppngaa
open Go.RowKit

theorem add_block (a : Addr) (n : Nat) : (a.add n).block = a.block := by unfold Addr.add; split <;> rfl
/-- A line: item, pieces, price. -/
abbrev LineA := ByteArray × Int × Nat
def LineAt (w : World) (p : Addr) (d : LineA) : Prop := w.cell? p = some (.string d.1) ∧ w.cell? ⟨p.block, p.off + 1, none⟩ = some (.int .i64 d.2.1) ∧ w.cell? ⟨p.block, p.off + 2, none⟩ = some (.int .u64 (d.2.2 : Int))
theorem LineAt.below {w w' : World} {p : Addr} {d : LineA} (h : LineAt w p d) {B : Nat} (hb : Below B w w') (hp : p.block < B) : LineAt w' p d :=
  ⟨(hb.cell hp).trans h.1, (hb.cell (p := ⟨_, _, none⟩) hp).trans h.2.1, (hb.cell (p := ⟨_, _, none⟩) hp).trans h.2.2⟩
def RdLA (w : World) (hi : Nat) (A : Option Addr) (ls : List LineA) : Prop := ∀ (j : Nat) (d : LineA), ls[j]? = some d → ∃ ad : Addr, A = some ad ∧ ad.block < hi ∧ LineAt w (ad.add (j * 3)) d
/-- The slice value reads as these lines. -/
def RdL (w : World) (v : Value) (ls : List LineA) : Prop := ∃ A c, v = .slice A ls.length c ∧ ls.length ≤ c ∧ RdLA w w.heap.size A ls
theorem RdLA.below {w w' : World} {hi : Nat} {A : Option Addr} {ls : List LineA} (h : RdLA w hi A ls) {B : Nat} (hb : Below B w w') (hB : hi ≤ B) : RdLA w' hi A ls := fun j d hd => by
  obtain ⟨ad, e, h0, h1⟩ := h j d hd
  exact ⟨ad, e, h0, h1.below hb (by rw [add_block]; omega)⟩
theorem RdLA.mono {w : World} {hi hi' : Nat} {A : Option Addr} {ls : List LineA} (h : RdLA w hi A ls) (hh : hi ≤ hi') : RdLA w hi' A ls := fun j d hd => by
  obtain ⟨ad, e, h0, h1⟩ := h j d hd
  exact ⟨ad, e, Nat.lt_of_lt_of_le h0 hh, h1⟩
theorem RdL.below {w w' : World} {v : Value} {ls : List LineA} (h : RdL w v ls) (hb : Below w.heap.size w w') : RdL w' v ls := by
  obtain ⟨A, c, e, hc, hx⟩ := h
  exact ⟨A, c, e, hc, (hx.below hb (Nat.le_refl _)).mono hb.size⟩

/-- What lines come to, by words. -/
def totV (ls : List LineA) : Nat := ls.foldl (fun t x => fop .add t (fop .mul (floatOfInt .f64 x.2.1) x.2.2)) 0
theorem totV_take {ls : List LineA} {k : Nat} {d : LineA} (h : ls[k]? = some d) : totV (ls.take (k + 1)) = fop .add (totV (ls.take k)) (fop .mul (floatOfInt .f64 d.2.1) d.2.2) := by
  unfold totV
  rw [List.take_add_one, h, List.foldl_append]
  rfl

set_option maxRecDepth 100000 in
set_option maxHeartbeats 1600000 in
theorem total_any (v : Value) (ls : List LineA) (w : World) (h : RdL w v ls) (hl : ls.length ≤ 1099511627776) :
    Calls Try.prog 33 #[v] w fun e w' => ∃ r, e = .returned (.float .f64 r) ∧ cn r = totV ls ∧ Below w.heap.size w w' := by
  obtain ⟨A, c, rfl, hc, hx⟩ := h
  obtain ⟨n, hn⟩ : ∃ n, Hid (n = ls.length) := ⟨_, Lib.hid rfl⟩
  rw [← hn.out] at hl hc ⊢
  have HX := Lib.hid hx
  have HW := fun s q p w' => Lib.hid (worth_any s q p w')
  clear hx
  go_enter Try.func33, Try.ntmps33
  go_wp2
  go_loopw [8, 3] (fun i x wr => ∃ (k : Nat) (r : Nat), k ≤ n ∧ i = .int .i64 k ∧ x = .float .f64 r ∧ Hid (cn r = totV (ls.take k)) ∧ Below w.heap.size w wr) (fun i _ _ => n - (intOf i).toNat)
  case atStart => exact ⟨0, 0, Nat.zero_le _, rfl, rfl, Lib.hid rfl, Below.refl _ _⟩
  case round =>
    obtain ⟨k, r, hk, rfl, rfl, HR, hb⟩ := hrel
    by_cases hlt : k < n
    · obtain ⟨d, hd⟩ : ∃ d, ls[k]? = some d := ⟨ls[k]'(by have := hn.out; omega), List.getElem?_eq_getElem _⟩
      obtain ⟨ad, rfl, hadlt, d0, d1, d2⟩ := HX.out.below hb (Nat.le_refl _) k d hd
      have HD := Lib.hid hd
      obtain ⟨V, hV⟩ : ∃ V, Hid (V = wr.alloc (.cells #[.string d.1, .int .i64 d.2.1, .int .u64 d.2.2] 28)) := ⟨_, Lib.hid rfl⟩
      have v0 : V.cell? ⟨wr.heap.size, 0, none⟩ = some (.string d.1) := by rw [hV.out]; exact box_cell _ _ _ 0
      have v1 : V.cell? ⟨wr.heap.size, 1, none⟩ = some (.int .i64 d.2.1) := by rw [hV.out]; exact box_cell _ _ _ 1
      have v2 : V.cell? ⟨wr.heap.size, 2, none⟩ = some (.int .u64 d.2.2) := by rw [hV.out]; exact box_cell _ _ _ 2
      have HBV : Hid (Below w.heap.size w V) := Lib.hid (by rw [hV.out]; exact hb.alloc hb.size _)
      clear hd hb
      go_upto_region 5 with fail
      rw [← hV.out]
      clear d0 d1 d2
      go_wp2_with (first
        | (go_at_call 37
           (with_reducible refine (HW _ _ _ _).out.mono ?_); rintro e w1 ⟨m, rfl, hm, hb1⟩
           have HM := Lib.hid hm
           clear hm)
        | (refine wpList_fop _ rfl .add (.inl rfl) _ _ _ _ rfl (by rfl) (by rfl) ?_))
      intro r2 w2 h2 l2 hw2
      have HB2 : Hid (Below w.heap.size w w2) := Lib.hid (below_or (HBV.out.trans (hb1.mono HBV.out.size)) hw2)
      have HN : Hid (cn r2 = totV (ls.take (k + 1))) := Lib.hid (by rw [h2, totV_take HD.out, ← fop_cn, HR.out, HM.out])
      clear h2 l2 hw2 hb1
      go_wp2
      go_roundw
      case rel => exact ⟨k + 1, r2, by omega, by go_num, rfl, HN, HB2.out⟩
      case measure => simp [intOf]; omega
    · obtain rfl : k = n := by omega
      have HF : Hid (cn r = totV ls) := Lib.hid (by rw [HR.out, hn.out, List.take_length])
      clear hn HR
      go_wp2
      go_ret
      exact ⟨r, rfl, HF.out, hb⟩

set_option maxRecDepth 100000 in
set_option maxHeartbeats 1600000 in
theorem refTotal_any (v : Value) (ls : List LineA) (w : World) (h : RdL w v ls) (hl : ls.length ≤ 1099511627776) :
    Calls Try.prog 35 #[v] w fun e w' => ∃ r, e = .returned (.float .f64 r) ∧ cn r = totV ls ∧ Below w.heap.size w w' := by
  obtain ⟨A, c, rfl, hc, hx⟩ := h
  obtain ⟨n, hn⟩ : ∃ n, Hid (n = ls.length) := ⟨_, Lib.hid rfl⟩
  rw [← hn.out] at hl hc ⊢
  have HX := Lib.hid hx
  have HW := fun s q p w' => Lib.hid (part_any s q p w')
  clear hx
  go_enter Try.func35, Try.ntmps35
  go_wp2
  go_loopw [8, 3] (fun i x wr => ∃ (k : Nat) (r : Nat), k ≤ n ∧ i = .int .i64 k ∧ x = .float .f64 r ∧ Hid (cn r = totV (ls.take k)) ∧ Below w.heap.size w wr) (fun i _ _ => n - (intOf i).toNat)
  case atStart => exact ⟨0, 0, Nat.zero_le _, rfl, rfl, Lib.hid rfl, Below.refl _ _⟩
  case round =>
    obtain ⟨k, r, hk, rfl, rfl, HR, hb⟩ := hrel
    by_cases hlt : k < n
    · obtain ⟨d, hd⟩ : ∃ d, ls[k]? = some d := ⟨ls[k]'(by have := hn.out; omega), List.getElem?_eq_getElem _⟩
      obtain ⟨ad, rfl, hadlt, d0, d1, d2⟩ := HX.out.below hb (Nat.le_refl _) k d hd
      have HD := Lib.hid hd
      obtain ⟨V, hV⟩ : ∃ V, Hid (V = wr.alloc (.cells #[.string d.1, .int .i64 d.2.1, .int .u64 d.2.2] 28)) := ⟨_, Lib.hid rfl⟩
      have v0 : V.cell? ⟨wr.heap.size, 0, none⟩ = some (.string d.1) := by rw [hV.out]; exact box_cell _ _ _ 0
      have v1 : V.cell? ⟨wr.heap.size, 1, none⟩ = some (.int .i64 d.2.1) := by rw [hV.out]; exact box_cell _ _ _ 1
      have v2 : V.cell? ⟨wr.heap.size, 2, none⟩ = some (.int .u64 d.2.2) := by rw [hV.out]; exact box_cell _ _ _ 2
      have HBV : Hid (Below w.heap.size w V) := Lib.hid (by rw [hV.out]; exact hb.alloc hb.size _)
      clear hd hb
      go_upto_region 5 with fail
      rw [← hV.out]
      clear d0 d1 d2
      go_wp2_with (first
        | (go_at_call 38
           (with_reducible refine (HW _ _ _ _).out.mono ?_); rintro e w1 ⟨m, rfl, hm, hb1⟩
           have HM := Lib.hid hm
           clear hm)
        | (refine wpList_fop _ rfl .add (.inl rfl) _ _ _ _ rfl (by rfl) (by rfl) ?_))
      intro r2 w2 h2 l2 hw2
      have HB2 : Hid (Below w.heap.size w w2) := Lib.hid (below_or (HBV.out.trans (hb1.mono HBV.out.size)) hw2)
      have HN : Hid (cn r2 = totV (ls.take (k + 1))) := Lib.hid (by rw [h2, totV_take HD.out, ← fop_cn, HR.out, HM.out])
      clear h2 l2 hw2 hb1
      go_wp2
      go_roundw
      case rel => exact ⟨k + 1, r2, by omega, by go_num, rfl, HN, HB2.out⟩
      case measure => simp [intOf]; omega
    · obtain rfl : k = n := by omega
      have HF : Hid (cn r = totV ls) := Lib.hid (by rw [HR.out, hn.out, List.take_length])
      clear hn HR
      go_wp2
      go_ret
      exact ⟨r, rfl, HF.out, hb⟩

set_option maxRecDepth 100000 in
theorem Total_any (v : Value) (ls : List LineA) (w : World) (h : RdL w v ls) (hl : ls.length ≤ 1099511627776) :
    Calls Try.prog 12 #[v] w fun e w' => e = .returned (.int .u64 (totV ls)) ∧ Below w.heap.size w w' := by
  have H1 := Lib.hid (total_any v ls w h hl)
  have H2 := fun a w' => Lib.hid (bitsOf_any a w')
  go_enter Try.func12, Try.ntmps12
  go_wp2_with (first
    | (go_at_call 33
       (with_reducible refine H1.out.mono ?_); rintro e w1 ⟨r, rfl, hr, hb1⟩
       have HR := Lib.hid hr
       clear hr)
    | (go_at_call 31
       (with_reducible refine (H2 _ _).out.mono ?_); rintro e w2 ⟨rfl, rfl⟩))
  go_ret
  exact ⟨by rw [← HR.out]; rfl, hb1⟩

set_option maxRecDepth 100000 in
theorem refTotalP_any (v : Value) (ls : List LineA) (w : World) (h : RdL w v ls) (hl : ls.length ≤ 1099511627776) :
    Calls Try.prog 13 #[v] w fun e w' => e = .returned (.int .u64 (totV ls)) ∧ Below w.heap.size w w' := by
  have H1 := Lib.hid (refTotal_any v ls w h hl)
  have H2 := fun a w' => Lib.hid (refBits_any a w')
  go_enter Try.func13, Try.ntmps13
  go_wp2_with (first
    | (go_at_call 35
       (with_reducible refine H1.out.mono ?_); rintro e w1 ⟨r, rfl, hr, hb1⟩
       have HR := Lib.hid hr
       clear hr)
    | (go_at_call 34
       (with_reducible refine (H2 _ _).out.mono ?_); rintro e w2 ⟨rfl, rfl⟩))
  go_ret
  exact ⟨by rw [← HR.out]; rfl, hb1⟩
end Go.Proofs.Ytaihkehbpppngaa
