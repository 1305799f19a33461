/- Share: the document's, and the program's. -/
import Derived.Test.YtaihkehbpppngaaTClone
namespace Go.Proofs.Ytaihkehbpppngaa
open Go.RowKit

/-- Each line's part of an amount. -/
def shareV (ls : List LineA) (t amount : Nat) : List Nat := ls.map fun x => fop .mul amount (fop .quo (fop .mul (floatOfInt .f64 x.2.1) x.2.2) t)
theorem shareV_take {ls : List LineA} {t amount k : Nat} {d : LineA} (h : ls[k]? = some d) : shareV (ls.take (k + 1)) t amount = shareV (ls.take k) t amount ++ [fop .mul amount (fop .quo (fop .mul (floatOfInt .f64 d.2.1) d.2.2) t)] := by
  unfold shareV
  rw [List.take_add_one, h, List.map_append]
  rfl
theorem shareV_len (ls : List LineA) (t amount : Nat) : (shareV ls t amount).length = ls.length := List.length_map ..

set_option maxRecDepth 100000 in
set_option maxHeartbeats 3200000 in
theorem refShare_any (v : Value) (ls : List LineA) (amount : Nat) (w : World) (h : RdL w v ls) (hl : ls.length ≤ 1099511627776) :
    Calls Try.prog 18 #[v, .int .u64 amount] w fun e w' => ∃ A c, e = .returned (.slice A ls.length c) ∧ RdW uV w' (.slice A ls.length c) (shareV ls (totV ls) amount) ∧ Below w.heap.size w w' := by
  have H1 := Lib.hid (refTotal_any v ls w h hl)
  have HFl := fun w' => Lib.hid (float_any amount w')
  have H3 := fun a w' => Lib.hid (refBits_any a w')
  have HW := fun s q p w' => Lib.hid (part_any s q p w')
  obtain ⟨A, c, rfl, hc, hx⟩ := h
  obtain ⟨n, hn⟩ : ∃ n, Hid (n = ls.length) := ⟨_, Lib.hid rfl⟩
  rw [← hn.out] at hl hc H1 ⊢
  have HX := Lib.hid hx
  clear hx
  go_enter Try.func18, Try.ntmps18
  go_wp2_with ((go_at_call 35); (with_reducible refine H1.out.mono ?_); rintro e w1 ⟨t, rfl, ht, hb1⟩)
  have HT := Lib.hid ht
  have HB1 := Lib.hid hb1
  clear ht hb1
  go_loopw [14, 5] (fun i x wr => ∃ (k : Nat) (vx : Value), k ≤ n ∧ vx = x ∧ i = .int .i64 k ∧ Hid (OwnW 22 uV wr w.heap.size vx (shareV (ls.take k) (totV ls) amount)) ∧ Hid (Below w.heap.size w wr)) (fun i _ _ => n - (intOf i).toNat)
  case atStart => exact ⟨0, _, Nat.zero_le _, rfl, rfl, Lib.hid (ownW_nil _ _ _ _), HB1⟩
  case round =>
    obtain ⟨k, vx, hk, rfl, rfl, HO, HB⟩ := hrel
    by_cases hlt : k < n
    · obtain ⟨d, hd⟩ : ∃ d, ls[k]? = some d := ⟨ls[k]'(by have := hn.out; omega), List.getElem?_eq_getElem _⟩
      obtain ⟨ad, rfl, hadlt, d0, d1, d2⟩ := HX.out.below HB.out (Nat.le_refl _) k d hd
      have HS := Lib.hid (shareV_take (t := totV ls) (amount := amount) hd)
      obtain ⟨V, hV⟩ : ∃ V, Hid (V = wr.alloc (.cells #[.string d.1, .int .i64 d.2.1, .int .u64 d.2.2] 28)) := ⟨_, Lib.hid rfl⟩
      have v0 : V.cell? ⟨wr.heap.size, 0, none⟩ = some (.string d.1) := by rw [hV.out]; exact box_cell _ _ _ 0
      have v1 : V.cell? ⟨wr.heap.size, 1, none⟩ = some (.int .i64 d.2.1) := by rw [hV.out]; exact box_cell _ _ _ 1
      have v2 : V.cell? ⟨wr.heap.size, 2, none⟩ = some (.int .u64 d.2.2) := by rw [hV.out]; exact box_cell _ _ _ 2
      have hbV : Below wr.heap.size wr V := by rw [hV.out]; exact (Below.refl _ _).alloc (Nat.le_refl _) _
      have HBV : Hid (Below wr.heap.size wr V) := Lib.hid hbV
      clear hd hbV
      go_upto_region 6 with fail
      rw [← hV.out]
      clear d0 d1 d2
      go_wp2_with (first
        | (go_at_call 38
           (with_reducible refine (HW _ _ _ _).out.mono ?_); rintro e w2 ⟨r0, rfl, hr0, hb2⟩
           have HR0 := Lib.hid hr0
           have HB2 : Hid (Below wr.heap.size wr w2) := Lib.hid (HBV.out.trans (hb2.mono HBV.out.size))
           clear hr0 hb2)
        | (refine wpList_fop _ rfl .quo (.inr (.inr (.inr rfl))) _ _ _ _ rfl (by rfl) (by rfl) ?_))
      intro r1 w3 h1 l1 hw1
      go_wp2_with (first
        | (go_at_call 36
           (with_reducible refine (HFl _).out.mono ?_); rintro e w4 ⟨rfl, rfl⟩)
        | (refine wpList_fop _ rfl .mul (.inr (.inr (.inl rfl))) _ _ _ _ rfl (by rfl) (by rfl) ?_))
      intro r2 w4 h2 l2 hw2
      have HN : Hid (cn r2 = fop .mul amount (fop .quo (fop .mul (floatOfInt .f64 d.2.1) d.2.2) (totV ls))) := Lib.hid (by
        rw [h2, ← fop_cnr .mul amount r1, h1, ← fop_cn .quo r0 t, HR0.out, HT.out])
      have hB4 : Below wr.heap.size wr w4 := below_or (below_or HB2.out hw1) hw2
      obtain ⟨q, hq⟩ : ∃ q, Hid (q = cn r2) := ⟨_, Lib.hid rfl⟩
      have hbA : Below w4.heap.size w4 (w4.alloc (.cells #[.int .u64 (q : Int)] 22)) := (Below.refl _ _).alloc (Nat.le_refl _) _
      have hBA : Below wr.heap.size wr (w4.alloc (.cells #[.int .u64 (q : Int)] 22)) := hB4.trans (hbA.mono hB4.size)
      have HR1 : Hid (RdWA uV (w4.alloc (.cells #[.int .u64 (q : Int)] 22)) (w4.heap.size + 1) (some ⟨w4.heap.size, 0, none⟩) [q]) := Lib.hid (fun j x hj => by
        match j, hj with
        | 0, hj =>
          have e : q = x := by simpa using hj
          subst e
          exact ⟨_, rfl, Nat.lt_succ_self _, box_cell _ _ _ 0⟩
        | j + 1, hj => simp at hj)
      have HOA := Lib.hid (HO.out.below hBA)
      have HBA : Hid (Below w.heap.size w (w4.alloc (.cells #[.int .u64 (q : Int)] 22))) := Lib.hid (HB.out.trans (hBA.mono HB.out.size))
      have h63 : (shareV (ls.take k) (totV ls) amount).length + [q].length ≤ 4398046511104 := by
        rw [shareV_len]
        have h2 : (ls.take k).length ≤ k := by rw [List.length_take]; exact Nat.min_le_left _ _
        simp only [List.length_cons, List.length_nil]; omega
      have hzz := HBA.out.size
      obtain ⟨m5, hm5⟩ : ∃ m5, Hid (m5 = (shareV (ls.take k) (totV ls) amount ++ [q]).length) := ⟨_, Lib.hid rfl⟩
      have H3q : Hid (Calls Try.prog 34 #[.float .f64 r2] w4 fun e w' => e = .returned (.int .u64 (q : Int)) ∧ w4 = w') := Lib.hid (by rw [hq.out]; exact (H3 r2 w4).out)
      clear h1 l1 hw1 h2 l2 hw2 hB4 hbA hBA
      go_wp2_with (first
        | (go_at_call 34
           (with_reducible refine H3q.out.mono ?_); rintro e w6 ⟨rfl, rfl⟩)
        | (at_builtin; go_must (refine wpList_append_W Try.underlying32 infoU rfl uV (fun _ => rfl) _ rfl (.tmp 22) (.tmp 28) rfl (by rfl) (by rfl) rfl HOA.out HR1.out h63 hzz hm5 ?_)))
      intro A1 c1 w5 ho5 hg5
      have HO5 : Hid (OwnW 22 uV w5 w.heap.size (.slice A1 m5 c1) (shareV (ls.take (k + 1)) (totV ls) amount)) := Lib.hid (by rw [HS.out, ← HN.out, ← hq.out]; exact ho5)
      have HB5 : Hid (Below w.heap.size w w5) := Lib.hid (HBA.out.grown hg5 hzz (fun g e => (World.ownsRow.lt HOA.out g e).1))
      clear ho5 hg5 h63 hzz
      go_wp2
      go_roundw
      case rel => exact ⟨k + 1, _, by omega, rfl, by go_num, HO5, HB5⟩
      case measure => simp [intOf]; omega
    · obtain rfl : k = n := by omega
      have hF : OwnW 22 uV wr w.heap.size vx (shareV ls (totV ls) amount) := by have := HO.out; rw [hn.out, List.take_length] at this; exact this
      obtain ⟨A2, c2, hv⟩ := hF.slice
      rw [shareV_len, ← hn.out] at hv
      subst hv
      have HF := Lib.hid hF.rd
      clear hF HO hn
      go_wp2
      go_ret
      exact ⟨A2, c2, rfl, HF.out, HB.out⟩

/-- An operation's word and world, whether it is asked of the tape or not. -/
def fr (w : World) (op : BinOp) (x y : Nat) : Nat := match floatBits op .f64 x y with | some r => r | none => nanAt w x y
def fw (w : World) (op : BinOp) (x y : Nat) : World := match floatBits op .f64 x y with | some _ => w | none => w.drew
theorem run_fr {P : Program} (w : World) (op : BinOp) (hop : op = .add ∨ op = .sub ∨ op = .mul ∨ op = .quo) (t : TypeId) (x y : Nat) :
    (binOp op t (.float .f64 x) (.float .f64 y)).run P w = .ok (.float .f64 (fr w op x y)) (fw w op x y) := by
  unfold fr fw
  cases h : floatBits op .f64 x y with
  | some r => exact run_float_arith w op t .f64 x y r h
  | none => exact run_nan w op hop t x y h
theorem fr_cn (w : World) (op : BinOp) (x y : Nat) : cn (fr w op x y) = fop op x y := by
  unfold fr fop
  cases h : floatBits op .f64 x y with
  | some r => exact cn_num (floatBits_num h)
  | none => exact nanAt_cn w x y
theorem fw_or (w : World) (op : BinOp) (x y : Nat) : fw w op x y = w ∨ fw w op x y = w.drew := by
  unfold fw
  cases h : floatBits op .f64 x y with
  | some r => exact .inl rfl
  | none => exact .inr rfl
theorem fw_size (w : World) (op : BinOp) (x y : Nat) : (fw w op x y).heap.size = w.heap.size := by
  rcases fw_or w op x y with h | h <;> rw [h] <;> rfl
theorem below_fw {B : Nat} {a w : World} (h : Below B a w) (op : BinOp) (x y : Nat) : Below B a (fw w op x y) := below_or h (fw_or w op x y)
end Go.Proofs.Ytaihkehbpppngaa
