/- Unframe of the document's own answer. -/
import Derived.Test.YtnehchlfoidmdaaUnframe
import Derived.Test.YtnehchlfoidmdaaRefUint
import Derived.Deep.RegionLaw
namespace Go.Proofs.Ytnehchlfoidmdaa
open Go.RowKit
open Go.Lib (byteCells byteCells_length byteCells_append strCells strCells_eq)

/-- Four bytes as a number, the lowest first: i of them. -/
def val4 : List UInt8 → Nat
  | [] => 0
  | x :: l => x.toNat + 256 * val4 l

theorem val4_take (bs : List UInt8) (q i : Nat) (h : q + i < bs.length) : val4 ((bs.drop q).take (i + 1)) = val4 ((bs.drop q).take i) + bs[q + i].toNat * 256 ^ i := by
  induction i generalizing q with
  | zero =>
    have e : bs.drop q = bs[q] :: bs.drop (q + 1) := List.drop_eq_getElem_cons (by omega)
    rw [e]
    simp only [List.take_succ_cons, List.take_zero, val4, Nat.pow_zero, Nat.add_zero, Nat.mul_one, Nat.mul_zero, Nat.zero_add]
  | succ i ih =>
    have e : bs.drop q = bs[q] :: bs.drop (q + 1) := List.drop_eq_getElem_cons (by omega)
    have h1 := ih (q + 1) (by omega)
    rw [e, List.take_succ_cons, List.take_succ_cons]
    simp only [val4]
    rw [h1]
    have e2 : bs[q + 1 + i]'(by omega) = bs[q + (i + 1)] := by congr 1; omega
    rw [e2, Nat.pow_succ, Nat.mul_add, Nat.mul_comm (256 ^ i) 256, ← Nat.mul_assoc, ← Nat.mul_assoc, Nat.mul_comm 256 bs[q + (i + 1)].toNat]
    omega

theorem val4_lt (l : List UInt8) : val4 l < 256 ^ l.length := by
  induction l with
  | nil => decide
  | cons x l ih =>
    have := byte_lt x
    simp only [val4, List.length_cons, Nat.pow_succ]
    omega

theorem val4_sum (l : List UInt8) (s : Nat) (hl : l.length = 4) (hs : s < 4294967296) : val4 l = s ↔ l = sumBytes s := by
  match l, hl with
  | [a, b, c, d], _ =>
    have ha := byte_lt a
    have hb := byte_lt b
    have hc := byte_lt c
    have hd := byte_lt d
    simp only [val4, sumBytes, List.cons.injEq, and_true, ← UInt8.toNat_inj, UInt8.toNat_ofNat']
    constructor
    · intro h; subst h; omega
    · rintro ⟨h1, h2, h3, h4⟩; omega

theorem acc4 (s x k : Nat) (hs : s < 4294967296) (hx : x < 256) (hk : k < 4) : wrap64 ((s : Int) + wrap64 ((x : Int) * 2 ^ (8 * k))) = ((s + x * 256 ^ k : Nat) : Int) := by
  have h1 : x * 256 ^ k ≤ 255 * 16777216 := Nat.mul_le_mul (by omega) (by have : 256 ^ k ≤ 256 ^ 3 := Nat.pow_le_pow_right (by decide) (by omega); exact this)
  have e : ((x : Int) * 2 ^ (8 * k)) = ((x * 256 ^ k : Nat) : Int) := by
    rw [Int.natCast_mul, show (256 : Nat) = 2 ^ 8 from rfl, ← Nat.pow_mul, Int.natCast_pow]; rfl
  rw [e, Int.natCast_add]
  unfold wrap64
  omega

/-- append onto a new slice without room, in a region that draws its order. -/
theorem step_append_fresh {ops : Array Oper} {o : Oper} {a : Act} {K : Act → World → Prop} {Q : Exit → Act → World → Prop} {E : Prop} (w : World) (hgd : o.guard = none) (s x : Operand)
    (ho : o.op = .call { callee := .builtin .append, args := #[s, x], argTypes := #[22, 22] }) {g : Nat} (hs : a.eval s = .slice (some ⟨g, 0, none⟩) 0 0)
    {w0 : World} (hb : Below w0.heap.size w0 w) (hg : w.heap[g]? = some (.cells #[] 5 (0, 0))) (hBg : w0.heap.size ≤ g) {A : Option Addr} {m c : Nat} {ys : List UInt8} (hx : a.eval x = .slice A m c) (hm : m = ys.length) (hr : RdA w0 0 w0.heap.size A ys) (hl : ys.length ≤ 1099511627776)
    (h : ∀ v' w', Own w' w0.heap.size v' ys → Below w0.heap.size w0 w' → (∀ b, b < w.heap.size → b ≠ g → w'.heap[b]? = w.heap[b]?) → w.heap.size ≤ w'.heap.size → (v'.ownBlock = some g ∨ v'.ownBlock = some w.heap.size) → K (a.put o.dst v') w') :
    if Region.wanted o (yielded ops a.tmps) = true then Oper.wp Try.prog o a w K Q else E := by
  have hw : Region.wanted o (yielded ops a.tmps) = true := by simp [Region.wanted, hgd]
  rw [if_pos hw]
  subst hm
  have hown : Own w w0.heap.size (.slice (some ⟨g, 0, none⟩) 0 0) [] := ⟨by simp [byteCells], .inr ⟨g, 0, #[], rfl, hBg, hg, Nat.le_refl _, by decide, by simp, by simp [byteCells]⟩⟩
  have hr' : RdA w 0 w0.heap.size A ys := hr.keep fun p _ hp => hb.cell hp
  obtain ⟨v', w', hrun, h2, h3, h4⟩ := run_append_rd w o.type hown (c := c) hr' (by simp; omega) hb.size
  unfold Oper.wp execOp
  simp only [ho, resolve, invoke, builtin, Sem.run_bind, Sem.run_pure, Result.andThen_ok, List.map_toArray, List.map_cons, List.map_nil, hs, hx, hrun]
  exact h v' w' (by simpa using h2) (hb.grown h3 hb.size (by simp [Value.ownBlock]; omega)) (fun b hb1 hb2 => h3.block b hb1 (by simp [Value.ownBlock]; exact hb2)) h3.size h4

theorem Own.kept2 {w w' : World} {base g : Nat} {v : Value} {bs : List UInt8} (h : Own w base v bs) (hk : ∀ b, b < w.heap.size → b ≠ g → w'.heap[b]? = w.heap[b]?) (hne : v.ownBlock ≠ some g) : Own w' base v bs := by
  have hlt := h.lt
  refine ⟨h.1, ?_⟩
  rcases h.2 with hn | ⟨g', cap, cur, rfl, hb, hg, r⟩
  · exact .inl hn
  · exact .inr ⟨g', cap, cur, rfl, hb, by rw [hk g' (hlt g' rfl).2 (fun e => hne (by simp [Value.ownBlock, e]))]; exact hg, r⟩

theorem fin_after {w1 w2 : World} {B : Nat} {v : Value} {bs : List UInt8} {o : Obj} (h : Own w1 B v bs) (hk : ∀ b, b < (w1.alloc o).heap.size → b ≠ w1.heap.size → w2.heap[b]? = (w1.alloc o).heap[b]?) : Own w2 B v bs :=
  (own_alloc h o).kept2 hk (fun e => by have := (h.lt _ e).2; omega)
theorem fin_before {w1 w2 : World} {B g1 g2 n : Nat} {v : Value} {bs : List UInt8} (h : Own w1 B v bs) (hk : ∀ b, b < w1.heap.size → b ≠ g2 → w2.heap[b]? = w1.heap[b]?) (ha : v.ownBlock = some g1 ∨ v.ownBlock = some n) (h1 : g1 ≠ g2) (h2 : g2 < n) : Own w2 B v bs :=
  h.kept2 hk (fun e => by
    rcases ha with ha | ha
    · rw [ha] at e; injection e with e; exact h1 e
    · rw [ha] at e; injection e with e; omega)

theorem fresh1 (w : World) : ((w.alloc (.cells #[] 5)).alloc (.cells #[] 5)).heap[w.heap.size]? = some (.cells #[] 5 (0, 0)) :=
  (Below.heap_alloc _ _ _ (by simp)).trans (heap_alloc_new w _)
theorem fresh2 (w : World) : ((w.alloc (.cells #[] 5)).alloc (.cells #[] 5)).heap[w.heap.size + 1]? = some (.cells #[] 5 (0, 0)) := by
  have := heap_alloc_new (w.alloc (.cells #[] 5)) (.cells #[] 5)
  simpa using this
theorem fresh_lt (w : World) : w.heap.size < ((w.alloc (.cells #[] 5)).alloc (.cells #[] 5)).drew.heap.size ∧ w.heap.size + 1 < ((w.alloc (.cells #[] 5)).alloc (.cells #[] 5)).drew.heap.size := by
  constructor
  · show w.heap.size < ((w.alloc (.cells #[] 5)).alloc (.cells #[] 5)).heap.size; simp; omega
  · show w.heap.size + 1 < ((w.alloc (.cells #[] 5)).alloc (.cells #[] 5)).heap.size; simp

set_option maxRecDepth 100000 in
set_option maxHeartbeats 3200000 in
theorem refUnframe_any (v : Value) (bs : List UInt8) (w : World) (h : Rd w 0 w.heap.size v bs) (hl : bs.length ≤ 1099511627776) :
    Calls Try.prog 21 #[v] w (UnfrPost bs w) := by
  have h0 := h
  obtain ⟨A, c, rfl, hc, hx⟩ := h
  obtain ⟨r, hr⟩ : ∃ r, Hid (r = uint bs) := ⟨_, Lib.hid rfl⟩
  have hu : Hid (unfr bs = if r.2.2 ≠ 0 then (0, 0, r.2.2) else if 65536 < r.1 then (0, 0, 4) else if bs.length < r.2.1 + r.1 + 4 then (0, 0, 2)
      else if (bs.drop (r.2.1 + r.1)).take 4 = sumBytes (crc ((bs.drop r.2.1).take r.1)) then (r.2.1, r.1, 0) else (0, 0, 11)) := Lib.hid (by rw [hr.out]; rfl)
  have hU := Lib.hid (refUint_any _ bs _ _ w h0 hl)
  rw [← hr.out] at hU
  have hkl : r.2.1 ≤ bs.length := by rw [hr.out]; exact uint_len bs
  go_enter Try.func21, Try.ntmps21
  go_wp2_with fail
  refine hU.out.mono ?_
  rintro e w1 ⟨rfl, rfl⟩
  by_cases he : r.2.2 = 0
  · have hneq : (r.2.2 != 0) = false := by simp [he]
    have HE := Lib.hid he
    clear he
    by_cases hbig : 65536 < r.1
    · have e1 : Hid (unfr bs = (0, 0, 4)) := Lib.hid (by rw [hu.out, if_neg (by simpa using HE.out), if_pos hbig])
      go_wp2
      refine bodyPost_ret (results_tmp3 rfl _ _ _) rfl ?_
      exact .inl ⟨by rw [e1.out]; decide, by rw [e1.out]; rfl, Below.refl _ _⟩
    · by_cases hsh : bs.length < r.2.1 + r.1 + 4
      · have e1 : Hid (unfr bs = (0, 0, 2)) := Lib.hid (by rw [hu.out, if_neg (by simpa using HE.out), if_neg hbig, if_pos hsh])
        go_wp2
        refine bodyPost_ret (results_tmp3 rfl _ _ _) rfl ?_
        exact .inl ⟨by rw [e1.out]; decide, by rw [e1.out]; rfl, Below.refl _ _⟩
      · have hcr : ¬ c = r.2.1 := by omega
        obtain ⟨q, hq⟩ : ∃ q, Hid (q = r.2.1 + r.1) := ⟨_, Lib.hid rfl⟩
        have hql : q + 4 ≤ bs.length := by rw [hq.out]; omega
        have hpl : Piece A c r.2.1 (A.map (fun x => x.add r.2.1)) := by unfold Piece; rw [if_neg hcr]
        obtain ⟨pl, hpp⟩ : ∃ pl, Hid (pl = (bs.drop r.2.1).take r.1) := ⟨_, Lib.hid rfl⟩
        have lpl : pl.length = r.1 := by rw [hpp.out, List.length_take, List.length_drop]; omega
        have r1 : Rd w 0 w.heap.size (.slice (A.map (fun x => x.add r.2.1)) r.1 (c - r.2.1)) pl := ⟨_, c - r.2.1, by rw [lpl], by rw [lpl]; omega, by rw [hpp.out]; exact hpl.rd hx hc⟩
        have R1 := Lib.hid r1
        have L1 := Lib.hid (show pl.length ≤ 1099511627776 by omega)
        have LP := Lib.hid (show r.1 = pl.length from lpl.symm)
        have HX1 := Lib.hid (show RdA w 0 w.heap.size (A.map (fun x => x.add r.2.1)) pl by rw [hpp.out]; exact hpl.rd hx hc)
        clear r1 lpl hpl
        go_wp2
        go_loop [9, 35] (fun s i => ∃ k : Nat, k ≤ 4 ∧ i = .int .i64 (k : Int) ∧ s = .int .i64 (val4 ((bs.drop q).take k) : Int)) (fun _ i => 4 - (intOf i).toNat)
        case atStart => exact ⟨0, by omega, rfl, rfl⟩
        case round =>
          obtain ⟨k, hk, rfl, rfl⟩ := hrel
          obtain ⟨s, hs⟩ : ∃ s, Hid (s = val4 ((bs.drop q).take k)) := ⟨_, Lib.hid rfl⟩
          rw [← hs.out]
          have hsl : s < 4294967296 := by
            rw [hs.out]
            have h1 := val4_lt ((bs.drop q).take k)
            have h2 : 256 ^ ((bs.drop q).take k).length ≤ 256 ^ 4 := Nat.pow_le_pow_right (by decide) (by simp; omega)
            omega
          by_cases hlt : k < 4
          · obtain ⟨a, ha1, ha⟩ := hx.at_ (k := q + k) (by omega)
            have hv := Lib.hid (val4_take bs q k (by omega))
            obtain ⟨x, hxx⟩ : ∃ x, Hid (x = bs[q + k]'(by omega)) := ⟨_, Lib.hid rfl⟩
            rw [← hxx.out] at ha hv
            have hxb := byte_lt x
            rw [hq.out] at ha hql
            subst ha1
            have HA := Lib.hid (acc4 s x.toNat k hsl hxb hlt)
            go_wp2
            go_round
            case rel => exact ⟨k + 1, by omega, by go_num, val_int (by rw [hv.out, ← hs.out]; exact HA.out)⟩
            case measure => simp [intOf]; omega
          · obtain rfl : k = 4 := by omega
            go_wp2_with fail
            (with_reducible refine (refSum_any _ pl _ _ w R1.out L1.out).mono ?_)
            rintro e w1 ⟨rfl, rfl⟩
            have hcl := crc_lt pl
            obtain ⟨cs, hcs⟩ : ∃ cs, Hid (cs = crc pl) := ⟨_, Lib.hid rfl⟩
            rw [← hcs.out] at hcl ⊢
            have l4 : ((bs.drop q).take 4).length = 4 := by rw [List.length_take, List.length_drop]; omega
            have hiff := val4_sum ((bs.drop q).take 4) cs l4 hcl
            rw [← hs.out] at hiff
            clear l4
            by_cases heq : s = cs
            · have hb : (((s : Nat) : Int) != (cs : Int)) = false := by simp [heq]
              have e1 : Hid (unfr bs = (r.2.1, r.1, 0)) := Lib.hid (by
                have e := hiff.1 heq
                rw [hcs.out, hpp.out, hq.out] at e
                rw [hu.out, if_neg (by simpa using HE.out), if_neg hbig, if_neg hsh, if_pos e])
              clear heq hiff
              go_wp2
              have L2 := Lib.hid (show (bs.drop (r.2.1 + r.1 + 4)).length ≤ 1099511627776 by simp; omega)
              by_cases hcq : c = r.2.1 + r.1 + 4
              · subst hcq
                have HX2 := Lib.hid (show RdA w 0 w.heap.size A (bs.drop (r.2.1 + r.1 + 4)) from fun h => absurd h (by simp; omega))
                have F0 := Lib.hid (heap_alloc_new w (.cells #[] 5))
                have F1 := Lib.hid (fresh1 w)
                have F2 := Lib.hid (fresh2 w)
                have G0 := Lib.hid (fresh_lt w)
                have N0 := Lib.hid (show w.heap.size ≠ w.heap.size + 1 by omega)
                have N1 := Lib.hid (show w.heap.size + 1 ≠ w.heap.size by omega)
                have N2 := Lib.hid (show w.heap.size ≤ w.heap.size + 1 by omega)
                have ew1 : IntKind.i64.wrap ((r.2.1 : Int) + (r.1 : Int)) = (r.2.1 : Int) + (r.1 : Int) := IntWalk.i64_in _ (by omega)
                have ew2 : IntKind.i64.wrap ((r.2.1 : Int) + (r.1 : Int) + 4) = (r.2.1 : Int) + (r.1 : Int) + 4 := IntWalk.i64_in _ (by omega)
                have ew3 : (0 : Int) ≤ (r.2.1 : Int) + (r.1 : Int) + 4 := by omega
                have ew4 : (r.2.1 : Int) + (r.1 : Int) + 4 ≤ (bs.length : Int) := by omega
                have ew5 : ((r.2.1 : Int) + (r.1 : Int) + 4).toNat = r.2.1 + r.1 + 4 := by omega
                go_region_law (first
                  | (refine step_append_fresh (w0 := w) (ys := pl) _ (by rfl) _ _ (by rfl) (by rfl) ?_ ?_ ?_ (by rfl) LP.out HX1.out L1.out ?_
                     · (go_grown)
                     · (first | exact F0.out | exact F1.out | exact F2.out)
                     · (first | exact Nat.le_refl _ | exact N2.out)
                     intro v1 w1 ho1 hbb1 hkk1 hss1 haa1)
                  | (refine step_append_fresh (w0 := w) (ys := bs.drop (r.2.1 + r.1 + 4)) _ (by rfl) _ _ (by rfl) (by rfl) ?_ ?_ ?_ (by rfl) ?_ HX2.out L2.out ?_
                     · (go_grown <;> exact hbb1.size)
                     · (first | exact heap_alloc_new _ _ | exact (hkk1 _ G0.out.1 N0.out).trans F1.out | exact (hkk1 _ G0.out.2 N1.out).trans F2.out)
                     · (first | exact Nat.le_refl _ | exact N2.out | exact hbb1.size)
                     · (first | (simp; done) | (simp; omega))
                     intro v2 w2 ho2 hbb2 hkk2 hss2 haa2))
                all_goals go_wp2
                all_goals refine bodyPost_ret (results_tmp3 rfl _ _ _) rfl ?_
                all_goals refine .inr ⟨by rw [e1.out], v1, v2, rfl, ?_, by rw [e1.out]; exact ho2, hbb2⟩
                all_goals rw [e1.out, ← hpp.out]
                all_goals first | exact fin_after ho1 hkk2 | exact fin_before ho1 hkk2 haa1 N0.out G0.out.2 | exact fin_before ho1 hkk2 haa1 N1.out G0.out.1
              · have HX2 := Lib.hid (show RdA w 0 w.heap.size (A.map (fun x => x.add (r.2.1 + r.1 + 4))) (bs.drop (r.2.1 + r.1 + 4)) by
                  have hp2 : Piece A c (r.2.1 + r.1 + 4) (A.map (fun x => x.add (r.2.1 + r.1 + 4))) := by unfold Piece; rw [if_neg hcq]
                  have := hp2.rd (n := bs.length - (r.2.1 + r.1 + 4)) hx hc
                  rwa [List.take_of_length_le (by simp)] at this)
                have F0 := Lib.hid (heap_alloc_new w (.cells #[] 5))
                have F1 := Lib.hid (fresh1 w)
                have F2 := Lib.hid (fresh2 w)
                have G0 := Lib.hid (fresh_lt w)
                have N0 := Lib.hid (show w.heap.size ≠ w.heap.size + 1 by omega)
                have N1 := Lib.hid (show w.heap.size + 1 ≠ w.heap.size by omega)
                have N2 := Lib.hid (show w.heap.size ≤ w.heap.size + 1 by omega)
                have ew1 : IntKind.i64.wrap ((r.2.1 : Int) + (r.1 : Int)) = (r.2.1 : Int) + (r.1 : Int) := IntWalk.i64_in _ (by omega)
                have ew2 : IntKind.i64.wrap ((r.2.1 : Int) + (r.1 : Int) + 4) = (r.2.1 : Int) + (r.1 : Int) + 4 := IntWalk.i64_in _ (by omega)
                have ew3 : (0 : Int) ≤ (r.2.1 : Int) + (r.1 : Int) + 4 := by omega
                have ew4 : (r.2.1 : Int) + (r.1 : Int) + 4 ≤ (bs.length : Int) := by omega
                have ew5 : ((r.2.1 : Int) + (r.1 : Int) + 4).toNat = r.2.1 + r.1 + 4 := by omega
                go_region_law (first
                  | (refine step_append_fresh (w0 := w) (ys := pl) _ (by rfl) _ _ (by rfl) (by rfl) ?_ ?_ ?_ (by rfl) LP.out HX1.out L1.out ?_
                     · (go_grown)
                     · (first | exact F0.out | exact F1.out | exact F2.out)
                     · (first | exact Nat.le_refl _ | exact N2.out)
                     intro v1 w1 ho1 hbb1 hkk1 hss1 haa1)
                  | (refine step_append_fresh (w0 := w) (ys := bs.drop (r.2.1 + r.1 + 4)) _ (by rfl) _ _ (by rfl) (by rfl) ?_ ?_ ?_ (by rfl) ?_ HX2.out L2.out ?_
                     · (go_grown <;> exact hbb1.size)
                     · (first | exact heap_alloc_new _ _ | exact (hkk1 _ G0.out.1 N0.out).trans F1.out | exact (hkk1 _ G0.out.2 N1.out).trans F2.out)
                     · (first | exact Nat.le_refl _ | exact N2.out | exact hbb1.size)
                     · (first | (simp; done) | (simp; omega))
                     intro v2 w2 ho2 hbb2 hkk2 hss2 haa2))
                all_goals go_wp2
                all_goals refine bodyPost_ret (results_tmp3 rfl _ _ _) rfl ?_
                all_goals refine .inr ⟨by rw [e1.out], v1, v2, rfl, ?_, by rw [e1.out]; exact ho2, hbb2⟩
                all_goals rw [e1.out, ← hpp.out]
                all_goals first | exact fin_after ho1 hkk2 | exact fin_before ho1 hkk2 haa1 N0.out G0.out.2 | exact fin_before ho1 hkk2 haa1 N1.out G0.out.1
            · have hb : (((s : Nat) : Int) != (cs : Int)) = true := by simp; omega
              have e1 : Hid (unfr bs = (0, 0, 11)) := Lib.hid (by
                have e := fun h => heq (hiff.2 h)
                rw [hcs.out, hpp.out, hq.out] at e
                rw [hu.out, if_neg (by simpa using HE.out), if_neg hbig, if_neg hsh, if_neg e])
              clear heq hiff
              go_wp2
              refine bodyPost_ret (results_tmp3 rfl _ _ _) rfl ?_
              exact .inl ⟨by rw [e1.out]; decide, by rw [e1.out]; rfl, Below.refl _ _⟩
  · have hneq : (r.2.2 != 0) = true := by simp [he]
    have e1 : Hid (unfr bs = (0, 0, r.2.2)) := Lib.hid (by rw [hu.out, if_pos he])
    go_wp2
    refine bodyPost_ret (results_tmp3 rfl _ _ _) rfl ?_
    exact .inl ⟨by rw [e1.out]; exact he, by rw [e1.out]; rfl, Below.refl _ _⟩
end Go.Proofs.Ytnehchlfoidmdaa
