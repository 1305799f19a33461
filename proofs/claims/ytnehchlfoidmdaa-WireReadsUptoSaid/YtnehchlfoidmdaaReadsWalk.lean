/- The walk of WireReads. -/
import Derived.Test.YtnehchlfoidmdaaRefReader
import Derived.Test.YtnehchlfoidmdaaTornWalk
import Derived.Test.YtnehchlfoidmdaaPutsWalk
namespace Go.Proofs.Ytnehchlfoidmdaa
open Go.RowKit
open Go.Lib (byteCells byteCells_length byteCells_append strCells strCells_eq)

theorem add_one (a : Addr) : a.add 1 = ⟨a.block, a.off + 1, none⟩ := by unfold Addr.add; simp

/-- A slice of pairs of numbers lies below hi. -/
def Pairs (w : World) (hi : Nat) (v : Value) (ls : List (Int × Int)) : Prop :=
  ∃ (A : Option Addr) (c : Nat), v = .slice A ls.length c ∧ (∀ i (h : i < ls.length), ∃ ad, A = some ad ∧ ad.block < hi ∧ w.cell? (ad.add (i * 2)) = some (.int .i64 ls[i].1) ∧ w.cell? (ad.add (i * 2 + 1)) = some (.int .i64 ls[i].2))

/-- The blocks of which S holds have not turned. -/
structure Same (S : Nat → Prop) (w0 w : World) : Prop where
  os : w.os = w0.os
  tape : w.tape = w0.tape
  output : w.output = w0.output
  size : w0.heap.size ≤ w.heap.size
  block : ∀ i, i < w0.heap.size → S i → w.heap[i]? = w0.heap[i]?

theorem Same.refl (S : Nat → Prop) (w : World) : Same S w w := ⟨rfl, rfl, rfl, Nat.le_refl _, fun _ _ _ => rfl⟩
theorem Same.trans {S : Nat → Prop} {a b c : World} (h : Same S a b) (k : Same S b c) : Same S a c :=
  ⟨k.os.trans h.os, k.tape.trans h.tape, k.output.trans h.output, Nat.le_trans h.size k.size, fun i hi hs => (k.block i (Nat.lt_of_lt_of_le hi h.size) hs).trans (h.block i hi hs)⟩
theorem Same.below {S : Nat → Prop} {a b c : World} (h : Same S a b) (k : Below b.heap.size b c) : Same S a c := h.trans ⟨k.os, k.tape, k.output, k.size, fun i hi _ => k.block i hi⟩
theorem Same.drewN {S : Nat → Prop} {a b : World} (h : Same S a b) (n : Nat) : Same S a (b.drewN n) := ⟨h.os, h.tape, h.output, h.size, h.block⟩
theorem Same.grown {S : Nat → Prop} {a b c : World} {g : Nat} (h : Same S a b) (k : b.grownBy c (some g)) (hg : ¬ S g) : Same S a c :=
  h.trans ⟨k.os, k.tape, k.output, k.size, fun i hi hs => k.block i hi (fun e => by injection e with e; exact hg (e ▸ hs))⟩
theorem Same.at_ {S : Nat → Prop} {a b c : World} {g o : Nat} {x : Int} (h : Same S a b) (k : AtIs b c g o x) (hg : ¬ S g) : Same S a c := h.grown k.grown hg
theorem Same.set_ {S : Nat → Prop} {a b : World} {g : Nat} (h : Same S a b) (o : Nat) (u : Value) (hg : ¬ S g) : Same S a (b.setCell ⟨g, o, none⟩ u) :=
  h.trans ⟨rfl, rfl, rfl, by simp [World.setCell], fun i _ hs => Below.heap_setCell b ⟨g, o, none⟩ u i (fun e => hg (by have e' : i = g := e; rw [← e']; exact hs))⟩
theorem Same.toBelow {S : Nat → Prop} {a b : World} {B : Nat} (h : Same S a b) (hB : B ≤ a.heap.size) (hs : ∀ i, i < B → S i) : Below B a b :=
  ⟨h.os, h.tape, h.output, h.size, fun i hi => h.block i (by omega) (hs i hi)⟩
theorem Same.rdA {S : Nat → Prop} {a b : World} {lo hi : Nat} {A : Option Addr} {bs : List UInt8} (h : Same S a b) (hr : RdA a lo hi A bs) (hh : hi ≤ a.heap.size) (hs : ∀ i, lo ≤ i → i < hi → S i) : RdA b lo hi A bs :=
  hr.keep fun p h1 h2 => World.cell?_of_block (h.block _ (by omega) (hs _ h1 h2))
theorem Same.pairs {S : Nat → Prop} {a b : World} {hi : Nat} {v : Value} {ls : List (Int × Int)} (h : Same S a b) (hr : Pairs a hi v ls) (hh : hi ≤ a.heap.size) (hs : ∀ i, i < hi → S i) : Pairs b hi v ls := by
  obtain ⟨A, c, e, hx⟩ := hr
  refine ⟨A, c, e, fun i hi' => ?_⟩
  obtain ⟨ad, e1, h1, h2, h3⟩ := hx i hi'
  refine ⟨ad, e1, h1, ?_, ?_⟩
  · rw [World.cell?_of_block (h.block _ (by rw [add_block]; omega) (hs _ (by rw [add_block]; exact h1)))]; exact h2
  · rw [World.cell?_of_block (h.block _ (by rw [add_block]; omega) (hs _ (by rw [add_block]; exact h1)))]; exact h3

set_option maxRecDepth 100000 in
set_option maxHeartbeats 16000000 in
theorem reads_walk (v vl : Value) (bs : List UInt8) (ls : List (Int × Int)) (w : World) (h : Rd w 0 w.heap.size v bs) (hL : Pairs w w.heap.size vl ls) (hl : bs.length ≤ 1099511627776) (hll : ls.length ≤ 1099511627776) :
    Calls Try.prog 5 #[v, vl] w fun e w' => e = .returned (.bool true) ∧ Below w.heap.size w w' := by
  have hL0 := hL
  obtain ⟨L, cl, rfl, hLx⟩ := hL
  have h0 := h
  obtain ⟨A, c, rfl, hc, hx⟩ := h
  have H0 := Lib.hid h0
  go_enter Try.func5, Try.ntmps5
  go_wp2_with fail
  (with_reducible refine (clone_any (.slice A bs.length c) bs w H0.out (by omega)).mono ?_)
  rintro e w1 ⟨v1, rfl, hown1, hb1⟩
  have s01 := hb1.size
  have H1 := Lib.hid hown1
  obtain ⟨A1, c1, e1, hc1, hx1⟩ := hown1.rd
  subst e1
  have hov := Lib.hid (over_any (.slice A1 bs.length c1) bs w1 (H1.out.rd.mono (Nat.zero_le _) (Nat.le_refl _)) hl)
  clear hown1
  go_wp2_with fail
  (with_reducible refine hov.out.mono ?_)
  rintro e w2 ⟨gr, D, d, rfl, hgr, hrd, hrx, hb2⟩
  have s12 := hb2.size
  have hlt2 := hrd.lt
  obtain ⟨w3, hw3⟩ : ∃ w3, Hid (w3 = w2.alloc (.cells #[.slice A bs.length c, .int .i64 0] 40)) := ⟨_, Lib.hid rfl⟩
  have s3 : w3.heap.size = w2.heap.size + 1 := by rw [hw3.out]; simp
  obtain ⟨S, hS⟩ : ∃ S : Nat → Prop, Hid (S = fun i => i < w.heap.size ∨ w1.heap.size ≤ i) := ⟨_, Lib.hid rfl⟩
  have hgx : gr < w2.heap.size := hrd.lt
  have hb3 : Below w1.heap.size w1 w3 := by rw [hw3.out]; exact hb2.alloc s12 _
  have ow3 := H1.out.below hb3
  have b03 : Below w.heap.size w w3 := hb1.trans (hb3.mono s01)
  have rd3 : Rdr w3 gr D d bs 0 := hrd.keep (by rw [hw3.out]; exact Below.heap_alloc w2 _ gr hgx)
  have rx3 : RdA w3 w1.heap.size gr D bs := hrx.keep fun q h1 h2 => by rw [hw3.out]; exact World.cell?_alloc_lt w2 _ q (by omega)
  have xr3 : XRd w3 w2.heap.size A c bs 0 := ⟨by rw [hw3.out]; exact heap_alloc_new w2 _, Nat.zero_le _, hc, hl⟩
  have hA3 : RdA w3 0 w.heap.size A bs := hx.keep fun q _ h2 => b03.cell h2
  have hL3 : Pairs w3 w.heap.size (.slice L ls.length cl) ls := Same.pairs (S := fun i => i < w.heap.size) ⟨b03.os, b03.tape, b03.output, b03.size, fun i _ hs => b03.block i hs⟩ hL0 (Nat.le_refl _) (fun _ h => h)
  have HB := Lib.hid b03
  have HR := Lib.hid rd3
  have HRX := Lib.hid rx3
  have HX := Lib.hid xr3
  have HA := Lib.hid hA3
  have HL := Lib.hid hL3
  clear b03 rd3 rx3 xr3 hA3 hL3 hL0 h0 hLx hx hx1 hrx hrd hov hb3 hb2 hb1
  have e3 := hw3.out.symm
  go_wp2_with fail
  try rw [e3]
  clear e3
  go_loopw [34] (fun i wr => ∃ (k : Nat) (cs : List UInt8), k ≤ bs.length ∧ i = .int .i64 k ∧ cs.length = bs.length ∧ Own wr w.heap.size (.slice A1 bs.length c1) cs ∧ Same S w3 wr) (fun i _ => bs.length - (intOf i).toNat)
  case atStart => exact ⟨0, bs, Nat.zero_le _, rfl, rfl, ow3, Same.refl _ _⟩
  case round =>
    obtain ⟨k, cs, hk, rfl, hcs, hown, hgr'⟩ := hrel
    by_cases hlt : k < bs.length
    · have hlt' : k < cs.length := by omega
      obtain ⟨g, cap, e, hg1, hg2⟩ := World.ownsRow.form H1.out (by omega)
      injection e with e1 e2 e3
      subst e1
      have hS' : ¬ S g := by rw [hS.out]; simp; omega
      have HC := Lib.hid hcs
      clear hcs
      have ha : wr.cell? ⟨g, k, none⟩ = some (.int .u8 (cs[k].toNat : Int)) := by
        obtain ⟨A', c', e, hc, hx⟩ := hown.rd
        injection e with e1 e2 e3
        subst e1
        obtain ⟨ad, e4, h4⟩ := hx.at_ hlt'
        injection e4 with e4
        subst e4
        rwa [add_lit] at h4
      have hf : wr.frozen? ⟨g, k, none⟩ = false := by
        have h0 := hown
        unfold Own at h0
        rw [HC.out] at h0
        exact World.ownsRow.frozenAt h0 k
      go_wp2_with fail
      go_roundw
      case rel =>
        have ho := hown
        rw [← HC.out] at ho
        refine ⟨k + 1, cs.set k (cs[k] ^^^ 255), by omega, by go_num, by rw [List.length_set]; exact HC.out, ?_, hgr'.set_ k _ hS'⟩
        rw [← HC.out]
        exact ho.set_ k (xor_byte cs[k] 255)
      case measure => simp [intOf]; omega
    · clear hown
      have hgs := hgr'.size
      have bw : Below w.heap.size w wr := HB.out.trans (hgr'.toBelow (by have := HB.out.size; omega) (fun i hi => by rw [hS.out]; exact .inl hi))
      have rd4 : Rdr wr gr D d bs 0 := HR.out.keep (hgr'.block gr (by omega) (by rw [hS.out]; exact .inr (by omega)))
      have rx4 : RdA wr w1.heap.size gr D bs := hgr'.rdA HRX.out (by omega) (fun i h1 _ => by rw [hS.out]; exact .inr h1)
      have xr4 : XRd wr w2.heap.size A c bs 0 := HX.out.keep (hgr'.block _ (by omega) (by rw [hS.out]; exact .inr (by omega)))
      have hA4 : RdA wr 0 w.heap.size A bs := hgr'.rdA HA.out (by omega) (fun i _ h1 => by rw [hS.out]; exact .inl h1)
      have hL4 : Pairs wr w.heap.size (.slice L ls.length cl) ls := hgr'.pairs HL.out (by omega) (fun i h1 => by rw [hS.out]; exact .inl h1)
      have XR := Lib.hid xr4
      clear hgr' HB HR HRX HX HA HL
      obtain ⟨W, hW⟩ : ∃ W, W = wr := ⟨_, rfl⟩
      rw [← hW] at bw rd4 rx4 xr4 hA4 hL4 hgs XR
      rw [← hW]
      clear hW
      clear xr4 ow3
      have xr5 : XRd W w2.heap.size A c bs 0 := XR.out
      have hgw : w.heap.size ≤ gr := by omega
      have hgw2 : w.heap.size ≤ w2.heap.size := by omega
      have hgW : w2.heap.size < W.heap.size := by omega
      have hgl : w1.heap.size ≤ gr := by omega
      clear XR H1 hw3 s3 s12 s01 hgs hS
      generalize w2.heap.size = gx at *
      generalize w1.heap.size = lo1 at *
      obtain ⟨T, hT⟩ : ∃ T : Nat → Prop, Hid (T = fun i => i ≠ gr ∧ i ≠ gx) := ⟨_, Lib.hid rfl⟩
      have BW := Lib.hid bw
      have RX4 := Lib.hid rx4
      have HA4 := Lib.hid hA4
      have HL4 := Lib.hid hL4
      clear bw rx4 hA4 hL4
      go_wp2_with fail
      go_loopw [46] (fun i wr => ∃ (k p : Nat), k ≤ ls.length ∧ i = .int .i64 k ∧ Rdr wr gr D d bs p ∧ XRd wr gx A c bs p ∧ Same T W wr) (fun i _ => ls.length - (intOf i).toNat)
      case atStart => exact ⟨0, 0, Nat.zero_le _, rfl, rd4, xr5, Same.refl _ _⟩
      case round =>
        obtain ⟨k, p, hk, rfl, hrd, hxr, hsm⟩ := hrel
        have hsz := hsm.size
        by_cases hlt : k < ls.length
        · obtain ⟨L', c', e, hLx⟩ := hsm.pairs HL4.out (by omega) (fun i h1 => by rw [hT.out]; omega)
          injection e with e1 e2 e3
          subst e1 e3
          obtain ⟨ad, rfl, hab, a0, a1⟩ := hLx k hlt
          obtain ⟨op, hop⟩ : ∃ op, Hid (op = ls[k].1) := ⟨_, Lib.hid rfl⟩
          obtain ⟨mo, hmo⟩ : ∃ mo, Hid (mo = ls[k].2) := ⟨_, Lib.hid rfl⟩
          rw [← hop.out] at a0
          rw [← hmo.out] at a1
          rw [← add_add, add_one] at a1
          clear hLx
          obtain ⟨wk, hwk⟩ : ∃ wk, Hid (wk = wr.alloc (.cells #[.int .i64 op, .int .i64 mo] 42)) := ⟨_, Lib.hid rfl⟩
          have hltr := hrd.lt
          have hltx := hxr.lt
          have szk : wk.heap.size = wr.heap.size + 1 := by rw [hwk.out]; simp
          have bk : Below wr.heap.size wr wk := by rw [hwk.out]; exact (Below.refl _ _).alloc (Nat.le_refl _) _
          have rk : Rdr wk gr D d bs p := hrd.keep (bk.block _ hltr)
          have xk : XRd wk gx A c bs p := hxr.keep (bk.block _ hltx)
          have sk : Same T W wk := hsm.below bk
          have rxk : RdA wk lo1 gr D bs := sk.rdA RX4.out (by omega) (fun i _ h2 => by rw [hT.out]; omega)
          have k1 : wk.cell? ⟨wr.heap.size, 1, none⟩ = some (.int .i64 mo) := by rw [hwk.out]; exact cell_of_row _ _ 1 _ _ (0, 0) (heap_alloc_new wr _)
          have k0 : wk.cell? ⟨wr.heap.size, 0, none⟩ = some (.int .i64 op) := by rw [hwk.out]; exact cell_of_row _ _ 0 _ _ (0, 0) (heap_alloc_new wr _)
          have hpl := hrd.le
          clear hrd hxr hsm bk
          have e3 := hwk.out.symm
          obtain ⟨m, hm1, hm2⟩ := mod_nat op 4 (by omega) (by omega)
          have hm3 : wrap64 ((IntKind.u64.wrap op).tmod 4) = (m : Int) := hm2
          clear hm2
          obtain rfl | rfl | rfl | rfl : m = 0 ∨ m = 1 ∨ m = 2 ∨ m = 3 := by omega
          · obtain ⟨n, x, P, hu, hxu⟩ : ∃ n x P, Calls Try.prog 23 #[.pointer (some ⟨gr, 0, none⟩)] wk (Reads (.int .i64 n) x P gr D d bs wk) ∧ ∀ w' lo hi, XRd w' gx A c bs p → RdA w' lo hi A bs → hi ≤ gx ∨ gx < lo → Calls Try.prog 24 #[.pointer (some ⟨gx, 0, none⟩)] w' (XReads (.int .i64 n) x P gx w') :=
              ⟨_, _, _, uint_made gr D d bs p lo1 gr wk rk rxk (by omega) (.inl (Nat.le_refl _)), fun w' lo hi h1 h2 h3 => xuint_any gx A c bs p lo hi w' h1 h2⟩
            have HU := Lib.hid hu
            have HXU := Lib.hid hxu
            clear hu hxu
            go_wp2_with fail
            (with_reducible refine HU.out.mono ?_)
            rintro e w5 hR5
            obtain rfl := hR5.ending
            have rz := hR5.rdr
            have s5 := sk.grown hR5.grown (by rw [hT.out]; simp)
            have x5 := xk.keep (hR5.grown.block gx (by omega) (by simp; omega))
            have a5 : RdA w5 0 w.heap.size A bs := s5.rdA HA4.out (by omega) (fun i _ h1 => by rw [hT.out]; omega)
            have HX5 := Lib.hid (HXU.out w5 0 w.heap.size x5 a5 (.inl (by omega)))
            have hPl0 := rz.le
            clear hR5
            go_wp2_with fail
            (with_reducible refine HX5.out.mono ?_)
            rintro e w6 ⟨rfl, hat⟩
            have xz := x5.moved hat hPl0
            have rz6 := rz.keep (hat.block (by omega))
            have sz := s5.at_ hat (by rw [hT.out]; simp)
            clear s5 x5 a5 rz hat
            have d1 : w6.cell? ⟨gx, 1, none⟩ = some (.int .i64 (P : Int)) := xz.cell 1
            have hPl := rz6.le
            have RZ := Lib.hid rz6
            have XZ := Lib.hid xz
            have SZ := Lib.hid sz
            clear rz6 xz sz
            go_wp2
            go_quiet (first
              | (go_at_call 30; (with_reducible refine Calls.quiet_of (at_made gr D d bs P _ (RZ.out.keep rfl))))
              | (go_at_call 31; (with_reducible refine Calls.quiet_of (left_made gr D d bs P _ (RZ.out.keep rfl)))))
            go_wp2
            go_roundw
            case rel => exact ⟨k + 1, P, by omega, by go_num, RZ.out.keep rfl, XZ.out.keep rfl, SZ.out.drewN _⟩
            case measure => simp [intOf]; omega
          · obtain ⟨n, x, P, hu, hxu⟩ : ∃ n x P, Calls Try.prog 25 #[.pointer (some ⟨gr, 0, none⟩)] wk (Reads (.int .i64 n) x P gr D d bs wk) ∧ ∀ w' lo hi, XRd w' gx A c bs p → RdA w' lo hi A bs → hi ≤ gx ∨ gx < lo → Calls Try.prog 26 #[.pointer (some ⟨gx, 0, none⟩)] w' (XReads (.int .i64 n) x P gx w') :=
              ⟨_, _, _, byte_made gr D d bs p lo1 gr wk rk rxk (by omega) (.inl (Nat.le_refl _)), fun w' lo hi h1 h2 h3 => xbyte_any gx A c bs p lo hi w' h1 h2 h3⟩
            have HU := Lib.hid hu
            have HXU := Lib.hid hxu
            clear hu hxu
            go_wp2_with fail
            (with_reducible refine HU.out.mono ?_)
            rintro e w5 hR5
            obtain rfl := hR5.ending
            have rz := hR5.rdr
            have s5 := sk.grown hR5.grown (by rw [hT.out]; simp)
            have x5 := xk.keep (hR5.grown.block gx (by omega) (by simp; omega))
            have a5 : RdA w5 0 w.heap.size A bs := s5.rdA HA4.out (by omega) (fun i _ h1 => by rw [hT.out]; omega)
            have HX5 := Lib.hid (HXU.out w5 0 w.heap.size x5 a5 (.inl (by omega)))
            have hPl0 := rz.le
            clear hR5
            go_wp2_with fail
            (with_reducible refine HX5.out.mono ?_)
            rintro e w6 ⟨rfl, hat⟩
            have xz := x5.moved hat hPl0
            have rz6 := rz.keep (hat.block (by omega))
            have sz := s5.at_ hat (by rw [hT.out]; simp)
            clear s5 x5 a5 rz hat
            have d1 : w6.cell? ⟨gx, 1, none⟩ = some (.int .i64 (P : Int)) := xz.cell 1
            have hPl := rz6.le
            have RZ := Lib.hid rz6
            have XZ := Lib.hid xz
            have SZ := Lib.hid sz
            clear rz6 xz sz
            go_wp2
            go_quiet (first
              | (go_at_call 30; (with_reducible refine Calls.quiet_of (at_made gr D d bs P _ (RZ.out.keep rfl))))
              | (go_at_call 31; (with_reducible refine Calls.quiet_of (left_made gr D d bs P _ (RZ.out.keep rfl)))))
            go_wp2
            go_roundw
            case rel => exact ⟨k + 1, P, by omega, by go_num, RZ.out.keep rfl, XZ.out.keep rfl, SZ.out.drewN _⟩
            case measure => simp [intOf]; omega
          · obtain ⟨n, x, P, hu, hxu⟩ : ∃ n x P, Calls Try.prog 27 #[.pointer (some ⟨gr, 0, none⟩), .int .i64 mo] wk (Reads (.string n) x P gr D d bs wk) ∧ ∀ w' lo hi, XRd w' gx A c bs p → RdA w' lo hi A bs → hi ≤ gx ∨ gx < lo → Calls Try.prog 28 #[.pointer (some ⟨gx, 0, none⟩), .int .i64 mo] w' (XReads (.string n) x P gx w') :=
              ⟨_, _, _, text_made gr D d bs p lo1 gr mo wk rk rxk (by omega) (.inl (Nat.le_refl _)), fun w' lo hi h1 h2 h3 => xtext_any gx A c bs p lo hi mo w' h1 h2⟩
            have HU := Lib.hid hu
            have HXU := Lib.hid hxu
            clear hu hxu
            go_wp2_with fail
            (with_reducible refine HU.out.mono ?_)
            rintro e w5 hR5
            obtain rfl := hR5.ending
            have rz := hR5.rdr
            have s5 := sk.grown hR5.grown (by rw [hT.out]; simp)
            have x5 := xk.keep (hR5.grown.block gx (by omega) (by simp; omega))
            have a5 : RdA w5 0 w.heap.size A bs := s5.rdA HA4.out (by omega) (fun i _ h1 => by rw [hT.out]; omega)
            have HX5 := Lib.hid (HXU.out w5 0 w.heap.size x5 a5 (.inl (by omega)))
            have hPl0 := rz.le
            have k5 : w5.cell? ⟨wr.heap.size, 1, none⟩ = some (.int .i64 mo) := (World.cell?_of_block (hR5.grown.block wr.heap.size (by omega) (by simp; omega))).trans k1
            clear hR5
            go_wp2_with fail
            (with_reducible refine HX5.out.mono ?_)
            rintro e w6 ⟨rfl, hat⟩
            have xz := x5.moved hat hPl0
            have rz6 := rz.keep (hat.block (by omega))
            have sz := s5.at_ hat (by rw [hT.out]; simp)
            clear s5 x5 a5 rz hat
            have d1 : w6.cell? ⟨gx, 1, none⟩ = some (.int .i64 (P : Int)) := xz.cell 1
            have hPl := rz6.le
            have RZ := Lib.hid rz6
            have XZ := Lib.hid xz
            have SZ := Lib.hid sz
            clear rz6 xz sz
            go_wp2
            go_quiet (first
              | (go_at_call 30; (with_reducible refine Calls.quiet_of (at_made gr D d bs P _ (RZ.out.keep rfl))))
              | (go_at_call 31; (with_reducible refine Calls.quiet_of (left_made gr D d bs P _ (RZ.out.keep rfl)))))
            go_wp2
            go_roundw
            case rel => exact ⟨k + 1, P, by omega, by go_num, RZ.out.keep rfl, XZ.out.keep rfl, SZ.out.drewN _⟩
            case measure => simp [intOf]; omega
          · have d0 : wk.cell? ⟨gx, 1, none⟩ = some (.int .i64 (p : Int)) := xk.cell 1
            have RK := Lib.hid (show Rdr wk.drew gr D d bs p from rk.keep rfl)
            have gxk : gx < wk.drew.heap.size := xk.lt
            clear rxk
            have he := fun (wq : World) (hq : Rdr wq gr D d bs p) => end_made gr D d bs p wq hq
            by_cases hend : p < bs.length
            · rw [show endOf bs p = 3 by unfold endOf; rw [if_pos hend]] at he
              have HE := Lib.hid he
              have hp1 : ((p : Int) == (bs.length : Int)) = false := by simp; omega
              have hp2 : ((p : Int) < (bs.length : Int)) = True := by simp; omega
              clear he
              go_wp2_with fail
              go_region_held3 (fun w' => w'.cell? ⟨gx, 1, none⟩ = some (.int .i64 (p : Int)))
                (first
                  | go_keep
                  | (exact (hb5.cell gxk).trans d0)
                  | (exact (hb6.cell (Nat.lt_of_lt_of_le gxk hb5.size)).trans ((hb5.cell gxk).trans d0)))
                (first
                | (go_at_call 29; (with_reducible refine (HE.out _ RK.out).mono ?_); rintro e w5 ⟨rfl, hr5, hb5⟩)
                | (go_at_call 29; (with_reducible refine (HE.out _ hr5).mono ?_); rintro e w6 ⟨rfl, hr6, hb6⟩))
              have rz := hr6
              have b6 : Below wk.drew.heap.size wk.drew w6 := hb5.trans (hb6.mono hb5.size)
              have xz : XRd w6 gx A c bs p := xk.keep (b6.block gx gxk)
              have sz : Same T W w6 := sk.below (b := wk) ⟨b6.os, b6.tape, b6.output, b6.size, b6.block⟩
              clear b6 hr5 hb5 hb6
              have d1 : w6.cell? ⟨gx, 1, none⟩ = some (.int .i64 (p : Int)) := xz.cell 1
              have hPl := rz.le
              have RZ := Lib.hid rz
              have XZ := Lib.hid xz
              have SZ := Lib.hid sz
              clear rz xz sz
              go_wp2
              go_quiet (first
                | (go_at_call 30; (with_reducible refine Calls.quiet_of (at_made gr D d bs p _ (RZ.out.keep rfl))))
                | (go_at_call 31; (with_reducible refine Calls.quiet_of (left_made gr D d bs p _ (RZ.out.keep rfl)))))
              go_wp2
              go_roundw
              case rel => exact ⟨k + 1, p, by omega, by go_num, RZ.out.keep rfl, XZ.out.keep rfl, SZ.out.drewN _⟩
              case measure => simp [intOf]; omega
            · have hpe : p = bs.length := by omega
              rw [show endOf bs p = 0 by unfold endOf; rw [if_neg hend]] at he
              have HE := Lib.hid he
              clear he
              have hp1 : ((p : Int) == (bs.length : Int)) = true := by simp; omega
              have hp2 : decide ((p : Int) < (bs.length : Int)) = false := by simp; omega
              have hp3 : decide (p < bs.length) = false := by simp; omega
              have HPE := Lib.hid hpe
              clear hpe
              go_wp2_with fail
              refine wp_region_held_drew (S := fun w' => w'.cell? ⟨gx, 1, none⟩ = some (.int .i64 (p : Int))) (by kernel_rfl) d0 (fun hHeld => ?_)
              refine wpAnyH_take (i := 0) (oi := ?o0) (v := ?v0) ?hi0 (by kernel_rfl) (by kernel_rfl) (by kernel_rfl) ?hq0 (Or.inl ⟨?hw0, ?hy0⟩) hHeld ?rest0
              case hi0 => first | (simp only [List.getElem?_toArray, List.getElem?_cons_zero]; rfl) | rfl
              case hq0 => exact fun _ _ _ h => h
              case hw0 => rfl
              case hy0 => intro w hSw; (try dsimp only at hSw); go_simp; (try with_reducible rfl)
              try simp only [Act.put, List.setIfInBounds_toArray, List.set_cons_zero, List.set_cons_succ]
              refine wpAnyH_take (i := 3) (oi := ?o3) (v := ?v3) ?hi3 (by kernel_rfl) (by kernel_rfl) (by kernel_rfl) ?hq3 (Or.inl ⟨?hw3, ?hy3⟩) hHeld ?rest3
              case hi3 => first | (simp only [List.getElem?_toArray, List.getElem?_cons_succ, List.getElem?_cons_zero]; rfl) | rfl
              case hq3 => exact fun _ _ _ h => h
              case hw3 => rfl
              case hy3 => intro w hSw; (try dsimp only at hSw); go_simp; (try with_reducible rfl)
              try simp only [Act.put, List.setIfInBounds_toArray, List.set_cons_zero, List.set_cons_succ]
              refine wpAnyH_take (i := 4) (oi := ?o4) (v := ?v4) ?hi4 (by kernel_rfl) (by kernel_rfl) (by kernel_rfl) ?hq4 (Or.inl ⟨?hw4, ?hy4⟩) hHeld ?rest4
              case hi4 => first | (simp only [List.getElem?_toArray, List.getElem?_cons_succ, List.getElem?_cons_zero]; rfl) | rfl
              case hq4 => exact fun _ _ _ h => h
              case hw4 => rfl
              case hy4 => intro w hSw; (try dsimp only at hSw); go_simp; (try with_reducible rfl)
              try simp only [Act.put, List.setIfInBounds_toArray, List.set_cons_zero, List.set_cons_succ]
              refine wpAnyH_take (i := 5) (oi := ?o5) (v := ?v5) ?hi5 (by kernel_rfl) (by kernel_rfl) (by kernel_rfl) ?hq5 (Or.inl ⟨?hw5, ?hy5⟩) hHeld ?rest5
              case hi5 => first | (simp only [List.getElem?_toArray, List.getElem?_cons_succ, List.getElem?_cons_zero]; rfl) | rfl
              case hq5 => exact fun _ _ _ h => h
              case hw5 => rfl
              case hy5 => intro w hSw; (try dsimp only at hSw); go_simp; (try with_reducible rfl)
              try simp only [Act.put, List.setIfInBounds_toArray, List.set_cons_zero, List.set_cons_succ]
              refine wpAnyH_take (i := 6) (oi := ?o6) (v := ?v6) ?hi6 (by kernel_rfl) (by kernel_rfl) (by kernel_rfl) ?hq6 (Or.inl ⟨?hw6, ?hy6⟩) hHeld ?rest6
              case hi6 => first | (simp only [List.getElem?_toArray, List.getElem?_cons_succ, List.getElem?_cons_zero]; rfl) | rfl
              case hq6 => exact fun _ _ _ h => h
              case hw6 => rfl
              case hy6 => intro w hSw; (try dsimp only at hSw); go_simp; (try with_reducible rfl)
              try simp only [Act.put, List.setIfInBounds_toArray, List.set_cons_zero, List.set_cons_succ]
              refine wpAnyH_take (i := 7) (oi := ?o7) (v := ?v7) ?hi7 (by kernel_rfl) (by kernel_rfl) (by kernel_rfl) ?hq7 (Or.inl ⟨?hw7, ?hy7⟩) hHeld ?rest7
              case hi7 => first | (simp only [List.getElem?_toArray, List.getElem?_cons_succ, List.getElem?_cons_zero]; rfl) | rfl
              case hq7 => exact fun _ _ _ h => h
              case hw7 => rfl
              case hy7 => intro w hSw; (try dsimp only at hSw); go_simp; (try with_reducible rfl)
              try simp only [Act.put, List.setIfInBounds_toArray, List.set_cons_zero, List.set_cons_succ]
              refine wpAnyH_take (i := 8) (oi := ?o8) (v := ?v8) ?hi8 (by kernel_rfl) (by kernel_rfl) (by kernel_rfl) ?hq8 (Or.inl ⟨?hw8, ?hy8⟩) hHeld ?rest8
              case hi8 => first | (simp only [List.getElem?_toArray, List.getElem?_cons_succ, List.getElem?_cons_zero]; rfl) | rfl
              case hq8 => exact fun _ _ _ h => h
              case hw8 => rfl
              case hy8 => intro w hSw; (try dsimp only at hSw); go_simp; (try with_reducible rfl)
              try simp only [Act.put, List.setIfInBounds_toArray, List.set_cons_zero, List.set_cons_succ]
              refine wpAnyH_take (i := 9) (oi := ?o9) (v := ?v9) ?hi9 (by kernel_rfl) (by kernel_rfl) (by kernel_rfl) ?hq9 (Or.inl ⟨?hw9, ?hy9⟩) hHeld ?rest9
              case hi9 => first | (simp only [List.getElem?_toArray, List.getElem?_cons_succ, List.getElem?_cons_zero]; rfl) | rfl
              case hq9 => exact fun _ _ _ h => h
              case hw9 => rfl
              case hy9 => intro w hSw; (try dsimp only at hSw); go_simp; (try with_reducible rfl)
              try simp only [Act.put, List.setIfInBounds_toArray, List.set_cons_zero, List.set_cons_succ]
              refine wpAnyH_ready (rs := [1]) (by kernel_rfl) (by simp) ?_
              refine AllReadyH.cons (o := ?oc) ?hc (fun K hK => ?st) AllReadyH.nil
              case hc => first | (simp only [List.getElem?_toArray, List.getElem?_cons_succ, List.getElem?_cons_zero]; rfl) | rfl
              go_simp
              go_at_call 29
              (with_reducible refine (HE.out _ RK.out).mono ?_)
              rintro e w5 ⟨rfl, hr5, hb5⟩
              try go_wp2_with fail
              refine hK.out _ _ ((hb5.cell gxk).trans d0) (fun hHeld5 => ?_)
              clear hK K hHeld
              try simp only [Act.put, List.setIfInBounds_toArray, List.set_cons_zero, List.set_cons_succ]
              refine wpAnyH_take (i := 2) (oi := ?o2) (v := ?v2) ?hi2 (by kernel_rfl) (by kernel_rfl) (by kernel_rfl) ?hq2 (Or.inl ⟨?hw2, ?hy2⟩) hHeld5 ?rest2
              case hi2 => first | (simp only [List.getElem?_toArray, List.getElem?_cons_succ, List.getElem?_cons_zero]; rfl) | rfl
              case hq2 => exact fun _ _ _ h => h
              case hw2 => rfl
              case hy2 => intro w hSw; (try dsimp only at hSw); go_simp; (try with_reducible rfl)
              try simp only [Act.put, List.setIfInBounds_toArray, List.set_cons_zero, List.set_cons_succ]
              refine wpAnyH_take (i := 10) (oi := ?o10) (v := ?v10) ?hi10 (by kernel_rfl) (by kernel_rfl) (by kernel_rfl) ?hq10 (Or.inl ⟨?hw10, ?hy10⟩) hHeld5 ?rest10
              case hi10 => first | (simp only [List.getElem?_toArray, List.getElem?_cons_succ, List.getElem?_cons_zero]; rfl) | rfl
              case hq10 => exact fun _ _ _ h => h
              case hw10 => rfl
              case hy10 => intro w hSw; (try dsimp only at hSw); go_simp; (try with_reducible rfl)
              try simp only [Act.put, List.setIfInBounds_toArray, List.set_cons_zero, List.set_cons_succ]
              refine wpAnyH_take (i := 11) (oi := ?o11) (v := ?v11) ?hi11 (by kernel_rfl) (by kernel_rfl) (by kernel_rfl) ?hq11 (Or.inl ⟨?hw11, ?hy11⟩) hHeld5 ?rest11
              case hi11 => first | (simp only [List.getElem?_toArray, List.getElem?_cons_succ, List.getElem?_cons_zero]; rfl) | rfl
              case hq11 => exact fun _ _ _ h => h
              case hw11 => rfl
              case hy11 => intro w hSw; (try dsimp only at hSw); go_simp; (try with_reducible rfl)
              try simp only [Act.put, List.setIfInBounds_toArray, List.set_cons_zero, List.set_cons_succ]
              refine wpAnyH_take (i := 12) (oi := ?o12) (v := ?v12) ?hi12 (by kernel_rfl) (by kernel_rfl) (by kernel_rfl) ?hq12 (Or.inl ⟨?hw12, ?hy12⟩) hHeld5 ?rest12
              case hi12 => first | (simp only [List.getElem?_toArray, List.getElem?_cons_succ, List.getElem?_cons_zero]; rfl) | rfl
              case hq12 => exact fun _ _ _ h => h
              case hw12 => rfl
              case hy12 => intro w hSw; (try dsimp only at hSw); go_simp; (try with_reducible rfl)
              try simp only [Act.put, List.setIfInBounds_toArray, List.set_cons_zero, List.set_cons_succ]
              refine wpAnyH_take (i := 13) (oi := ?o13) (v := ?v13) ?hi13 (by kernel_rfl) (by kernel_rfl) (by kernel_rfl) ?hq13 (Or.inl ⟨?hw13, ?hy13⟩) hHeld5 ?rest13
              case hi13 => first | (simp only [List.getElem?_toArray, List.getElem?_cons_succ, List.getElem?_cons_zero]; rfl) | rfl
              case hq13 => exact fun _ _ _ h => h
              case hw13 => rfl
              case hy13 => intro w hSw; (try dsimp only at hSw); go_simp; (try with_reducible rfl)
              try simp only [Act.put, List.setIfInBounds_toArray, List.set_cons_zero, List.set_cons_succ]
              refine wpAnyH_take (i := 14) (oi := ?o14) (v := ?v14) ?hi14 (by kernel_rfl) (by kernel_rfl) (by kernel_rfl) ?hq14 (Or.inl ⟨?hw14, ?hy14⟩) hHeld5 ?rest14
              case hi14 => first | (simp only [List.getElem?_toArray, List.getElem?_cons_succ, List.getElem?_cons_zero]; rfl) | rfl
              case hq14 => exact fun _ _ _ h => h
              case hw14 => rfl
              case hy14 => intro w hSw; (try dsimp only at hSw); go_simp; (try with_reducible rfl)
              try simp only [Act.put, List.setIfInBounds_toArray, List.set_cons_zero, List.set_cons_succ]
              refine wpAnyH_take (i := 15) (oi := ?o15) (v := ?v15) ?hi15 (by kernel_rfl) (by kernel_rfl) (by kernel_rfl) ?hq15 (Or.inl ⟨?hw15, ?hy15⟩) hHeld5 ?rest15
              case hi15 => first | (simp only [List.getElem?_toArray, List.getElem?_cons_succ, List.getElem?_cons_zero]; rfl) | rfl
              case hq15 => exact fun _ _ _ h => h
              case hw15 => rfl
              case hy15 => intro w hSw; (try dsimp only at hSw); go_simp; (try with_reducible rfl)
              try simp only [Act.put, List.setIfInBounds_toArray, List.set_cons_zero, List.set_cons_succ]
              refine wpAnyH_take (i := 16) (oi := ?o16) (v := ?v16) ?hi16 (by kernel_rfl) (by kernel_rfl) (by kernel_rfl) ?hq16 (Or.inl ⟨?hw16, ?hy16⟩) hHeld5 ?rest16
              case hi16 => first | (simp only [List.getElem?_toArray, List.getElem?_cons_succ, List.getElem?_cons_zero]; rfl) | rfl
              case hq16 => exact fun _ _ _ h => h
              case hw16 => rfl
              case hy16 => intro w hSw; (try dsimp only at hSw); go_simp; (try with_reducible rfl)
              try simp only [Act.put, List.setIfInBounds_toArray, List.set_cons_zero, List.set_cons_succ]
              refine wpAnyH_take (i := 17) (oi := ?o17) (v := ?v17) ?hi17 (by kernel_rfl) (by kernel_rfl) (by kernel_rfl) ?hq17 (Or.inl ⟨?hw17, ?hy17⟩) hHeld5 ?rest17
              case hi17 => first | (simp only [List.getElem?_toArray, List.getElem?_cons_succ, List.getElem?_cons_zero]; rfl) | rfl
              case hq17 => exact fun _ _ _ h => h
              case hw17 => rfl
              case hy17 => intro w hSw; (try dsimp only at hSw); go_simp; (try with_reducible rfl)
              try simp only [Act.put, List.setIfInBounds_toArray, List.set_cons_zero, List.set_cons_succ]
              refine wpAnyH_take (i := 18) (oi := ?o18) (v := ?v18) ?hi18 (by kernel_rfl) (by kernel_rfl) (by kernel_rfl) ?hq18 (Or.inl ⟨?hw18, ?hy18⟩) hHeld5 ?rest18
              case hi18 => first | (simp only [List.getElem?_toArray, List.getElem?_cons_succ, List.getElem?_cons_zero]; rfl) | rfl
              case hq18 => exact fun _ _ _ h => h
              case hw18 => rfl
              case hy18 => intro w hSw; (try dsimp only at hSw); go_simp; (try with_reducible rfl)
              try simp only [Act.put, List.setIfInBounds_toArray, List.set_cons_zero, List.set_cons_succ]
              refine wpAnyH_take (i := 19) (oi := ?o19) (v := ?v19) ?hi19 (by kernel_rfl) (by kernel_rfl) (by kernel_rfl) ?hq19 (Or.inl ⟨?hw19, ?hy19⟩) hHeld5 ?rest19
              case hi19 => first | (simp only [List.getElem?_toArray, List.getElem?_cons_succ, List.getElem?_cons_zero]; rfl) | rfl
              case hq19 => exact fun _ _ _ h => h
              case hw19 => rfl
              case hy19 => intro w hSw; (try dsimp only at hSw); go_simp; (try with_reducible rfl)
              try simp only [Act.put, List.setIfInBounds_toArray, List.set_cons_zero, List.set_cons_succ]
              refine wpAnyH_take (i := 20) (oi := ?o20) (v := undef) ?hi20 (by kernel_rfl) (by kernel_rfl) (by kernel_rfl) ?hq20 (Or.inr ⟨?hw20, rfl⟩) hHeld5 ?rest20
              case hi20 => first | (simp only [List.getElem?_toArray, List.getElem?_cons_succ, List.getElem?_cons_zero]; rfl) | rfl
              case hq20 => exact fun _ _ _ h => h
              case hw20 => rfl
              try simp only [Act.put, List.setIfInBounds_toArray, List.set_cons_zero, List.set_cons_succ]
              refine wpAnyH_ready (rs := [21]) (by kernel_rfl) (by simp) ?_
              refine AllReadyH.cons (o := ?od) ?hd (fun K hK => ?st2) AllReadyH.nil
              case hd => first | (simp only [List.getElem?_toArray, List.getElem?_cons_succ, List.getElem?_cons_zero]; rfl) | rfl
              go_simp
              refine hK.out _ _ hHeld5 (fun _ => ?_)
              clear hK K
              try simp only [Act.put, List.setIfInBounds_toArray, List.set_cons_zero, List.set_cons_succ]
              refine wpAnyH_take (i := 22) (oi := ?o22) (v := undef) ?hi22 (by kernel_rfl) (by kernel_rfl) (by kernel_rfl) ?hq22 (Or.inr ⟨?hw22, rfl⟩) hHeld5 ?rest22
              case hi22 => first | (simp only [List.getElem?_toArray, List.getElem?_cons_succ, List.getElem?_cons_zero]; rfl) | rfl
              case hq22 => exact fun _ _ _ h => h
              case hw22 => rfl
              try simp only [Act.put, List.setIfInBounds_toArray, List.set_cons_zero, List.set_cons_succ]
              refine wpAnyH_take (i := 23) (oi := ?o23) (v := ?v23) ?hi23 (by kernel_rfl) (by kernel_rfl) (by kernel_rfl) ?hq23 (Or.inl ⟨?hw23, ?hy23⟩) hHeld5 ?rest23
              case hi23 => first | (simp only [List.getElem?_toArray, List.getElem?_cons_succ, List.getElem?_cons_zero]; rfl) | rfl
              case hq23 => exact fun _ _ _ h => h
              case hw23 => rfl
              case hy23 => intro w hSw; (try dsimp only at hSw); go_simp; (try with_reducible rfl)
              try simp only [Act.put, List.setIfInBounds_toArray, List.set_cons_zero, List.set_cons_succ]
              refine wpAnyH_take (i := 24) (oi := ?o24) (v := ?v24) ?hi24 (by kernel_rfl) (by kernel_rfl) (by kernel_rfl) ?hq24 (Or.inl ⟨?hw24, ?hy24⟩) hHeld5 ?rest24
              case hi24 => first | (simp only [List.getElem?_toArray, List.getElem?_cons_succ, List.getElem?_cons_zero]; rfl) | rfl
              case hq24 => exact fun _ _ _ h => h
              case hw24 => rfl
              case hy24 => intro w hSw; (try dsimp only at hSw); go_simp; (try with_reducible rfl)
              try simp only [Act.put, List.setIfInBounds_toArray, List.set_cons_zero, List.set_cons_succ]
              refine wpAnyH_done (by kernel_rfl) ?_ _
              have rz := hr5
              have xz : XRd w5 gx A c bs p := xk.keep (hb5.block gx gxk)
              have sz : Same T W w5 := sk.below (b := wk) ⟨hb5.os, hb5.tape, hb5.output, hb5.size, hb5.block⟩
              clear hb5
              have d1 : w5.cell? ⟨gx, 1, none⟩ = some (.int .i64 (p : Int)) := xz.cell 1
              have hPl := rz.le
              have RZ := Lib.hid rz
              have XZ := Lib.hid xz
              have SZ := Lib.hid sz
              clear rz xz sz
              go_wp2
              go_quiet (first
                | (go_at_call 30; (with_reducible refine Calls.quiet_of (at_made gr D d bs p _ (RZ.out.keep rfl))))
                | (go_at_call 31; (with_reducible refine Calls.quiet_of (left_made gr D d bs p _ (RZ.out.keep rfl)))))
              go_wp2
              go_roundw
              case rel => exact ⟨k + 1, p, by omega, by go_num, RZ.out.keep rfl, XZ.out.keep rfl, SZ.out.drewN _⟩
              case measure => simp [intOf]; omega
        · have hdone : Below w.heap.size w wr := BW.out.trans (hsm.toBelow (by have := BW.out.size; omega) (fun i h1 => by rw [hT.out]; omega))
          have d1 : wr.cell? ⟨gx, 1, none⟩ = some (.int .i64 (p : Int)) := hxr.cell 1
          have RZ := Lib.hid hrd
          go_wp2
          go_quiet ((go_at_call 30; (with_reducible refine Calls.quiet_of (at_made gr D d bs p _ (RZ.out.keep rfl)))))
          go_wp2
          go_ret
          exact ⟨rfl, below_drewN hdone _⟩
end Go.Proofs.Ytnehchlfoidmdaa
