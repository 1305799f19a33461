/- The walk of WireFrames. -/
import Derived.Test.YtnehchlfoidmdaaRefUnframe
import Derived.Test.YtnehchlfoidmdaaPutsWalk
namespace Go.Proofs.Ytnehchlfoidmdaa
open Go.RowKit
open Go.Lib (byteCells byteCells_length byteCells_append strCells strCells_eq)

def frX (bs : List UInt8) : Int := if 65536 < bs.length then 4 else 0
def frL (bs : List UInt8) : List UInt8 := if 65536 < bs.length then [] else frameOf bs
def unP (bs : List UInt8) : List UInt8 := if (unfr bs).2.2 = 0 then (bs.drop (unfr bs).1).take (unfr bs).2.1 else []
def unR (bs : List UInt8) : List UInt8 := if (unfr bs).2.2 = 0 then bs.drop ((unfr bs).1 + (unfr bs).2.1 + 4) else []

theorem frL_len (bs : List UInt8) (h : bs.length ≤ 1099511627776) : (frL bs).length ≤ 1099511627800 := by
  unfold frL
  have := num_length bs.length
  split
  · simp
  · simp [frameOf, sumBytes]; omega
theorem unP_len (bs : List UInt8) : (unP bs).length ≤ bs.length := by
  unfold unP
  split
  · rw [List.length_take, List.length_drop]; omega
  · simp
theorem unR_len (bs : List UInt8) : (unR bs).length ≤ bs.length := by
  unfold unR
  split
  · simp
  · simp

/-- Frame in one form. -/
def Framed (bs : List UInt8) (w : World) (e : Ending) (w' : World) : Prop := ∃ A c, e = .returned (.tuple #[.slice A (frL bs).length c, .int .i64 (frX bs)]) ∧ Own w' w.heap.size (.slice A (frL bs).length c) (frL bs) ∧ Below w.heap.size w w'
theorem FramePost.one {bs : List UInt8} {w : World} {e : Ending} {w' : World} (h : FramePost bs w e w') : Framed bs w e w' := by
  rcases h with ⟨hb, rfl, hbel⟩ | ⟨hb, v, rfl, ho, hbel⟩
  · have e1 : frL bs = [] := by unfold frL; rw [if_pos hb]
    have e2 : frX bs = 4 := by unfold frX; rw [if_pos hb]
    unfold Framed
    rw [e1, e2]
    exact ⟨none, 0, rfl, own_nil _ _, hbel⟩
  · have e1 : frL bs = frameOf bs := by unfold frL; rw [if_neg (by omega)]
    have e2 : frX bs = 0 := by unfold frX; rw [if_neg (by omega)]
    unfold Framed
    rw [e1, e2]
    obtain ⟨A, c, rfl, _, _⟩ := ho.rd
    exact ⟨A, c, rfl, ho, hbel⟩

/-- Unframe in one form. -/
def Unframed (bs : List UInt8) (w : World) (e : Ending) (w' : World) : Prop := ∃ A c v, e = .returned (.tuple #[.slice A (unP bs).length c, v, .int .i64 (unfr bs).2.2]) ∧ Own w' w.heap.size (.slice A (unP bs).length c) (unP bs) ∧ Own w' w.heap.size v (unR bs) ∧ Below w.heap.size w w'
theorem UnfrPost.one {bs : List UInt8} {w : World} {e : Ending} {w' : World} (h : UnfrPost bs w e w') : Unframed bs w e w' := by
  rcases h with ⟨hb, rfl, hbel⟩ | ⟨hb, v, v2, rfl, ho, ho2, hbel⟩
  · have e1 : unP bs = [] := by unfold unP; rw [if_neg hb]
    have e2 : unR bs = [] := by unfold unR; rw [if_neg hb]
    unfold Unframed
    rw [e1, e2]
    exact ⟨none, 0, _, rfl, own_nil _ _, own_nil _ _, hbel⟩
  · have e1 : unP bs = (bs.drop (unfr bs).1).take (unfr bs).2.1 := by unfold unP; rw [if_pos hb]
    have e2 : unR bs = bs.drop ((unfr bs).1 + (unfr bs).2.1 + 4) := by unfold unR; rw [if_pos hb]
    unfold Unframed
    rw [e1, e2, hb]
    obtain ⟨A, c, rfl, _, _⟩ := ho.rd
    exact ⟨A, c, v2, rfl, ho, ho2, hbel⟩

theorem Own.addr {w : World} {base n c : Nat} {A : Option Addr} {bs : List UInt8} (h : Own w base (.slice A n c) bs) (h0 : 0 < bs.length) : ∃ g, A = some ⟨g, 0, none⟩ ∧ base ≤ g ∧ g < w.heap.size ∧ n = bs.length := by
  obtain ⟨g, cap, hv, h1, h2⟩ := World.ownsRow.form h h0
  injection hv with e1 e2 e3
  exact ⟨g, e1, h1, h2, e2⟩
theorem Own.byte {w : World} {base g n c k : Nat} {bs : List UInt8} (h : Own w base (.slice (some ⟨g, 0, none⟩) n c) bs) (hk : k < bs.length) :
    w.cell? ⟨g, k, none⟩ = some (.int .u8 (bs[k].toNat : Int)) ∧ w.frozen? ⟨g, k, none⟩ = false := by
  obtain ⟨A, c', e, _, hx⟩ := h.rd
  injection e with e1 e2 e3
  subst e1
  obtain ⟨ad, e4, h4⟩ := hx.at_ hk
  injection e4 with e4
  subst e4
  rw [add_lit] at h4
  refine ⟨h4, ?_⟩
  have h0 := h
  unfold Own at h0
  rw [← e2] at h0
  exact World.ownsRow.frozenAt h0 k
theorem Rd.grownr {w w' : World} {lo hi : Nat} {v : Value} {bs : List UInt8} {row : Option Nat} (h : Rd w lo hi v bs) (hg : w.grownBy w' row) (hB : hi ≤ w.heap.size) (hne : ∀ g, row = some g → g < lo ∨ hi ≤ g) : Rd w' lo hi v bs :=
  h.keep fun p h1 h2 => World.cell?_of_block (hg.block p.block (by omega) (fun e => by rcases hne _ e.symm with h | h <;> omega))
/-- Another slice of the call's own stays, where one of another range of blocks is written over. -/
theorem Own.keptr {w w' : World} {base : Nat} {v : Value} {bs : List UInt8} {row : Option Nat} (h : Own w base v bs) (hg : w.grownBy w' row) (hne : ∀ g, row = some g → g < base) : Own w' base v bs := by
  refine World.ownsRow.kept h hg ?_
  cases hv : v.ownBlock with
  | none => exact .inl rfl
  | some k =>
    refine .inr fun e => ?_
    have := (h.lt k hv).1
    have := hne k e.symm
    omega
theorem Own.keptu {w w' : World} {base U : Nat} {v : Value} {bs : List UInt8} {row : Option Nat} (h : Own w base v bs) (hu : ∀ k, v.ownBlock = some k → k < U) (hg : w.grownBy w' row) (hne : ∀ g, row = some g → U ≤ g) : Own w' base v bs := by
  refine World.ownsRow.kept h hg ?_
  cases hv : v.ownBlock with
  | none => exact .inl rfl
  | some k =>
    refine .inr fun e => ?_
    have := hu k hv
    have := hne k e.symm
    omega
theorem grownBy_setr {w0 w : World} {row : Option Nat} {g : Nat} (h : w0.grownBy w row) (hr : row = some g) (k : Nat) (u : Value) : w0.grownBy (w.setCell ⟨g, k, none⟩ u) row := by
  subst hr; exact grownBy_set h k u

set_option maxRecDepth 100000 in
set_option maxHeartbeats 4000000 in
theorem frames_walk (v : Value) (bs : List UInt8) (w : World) (h : Rd w 0 w.heap.size v bs) (hl : bs.length ≤ 1099511627776) :
    Calls Try.prog 4 #[v] w fun e w' => e = .returned (.bool true) ∧ Below w.heap.size w w' := by
  have lf := frL_len bs hl
  have lp := unP_len bs
  have lr := unR_len bs
  obtain ⟨fx, hfx⟩ : ∃ fx, Hid (fx = frX bs) := ⟨_, Lib.hid rfl⟩
  obtain ⟨fl, hfl⟩ : ∃ fl, Hid (fl = frL bs) := ⟨_, Lib.hid rfl⟩
  obtain ⟨ux, hux⟩ : ∃ ux, Hid (ux = (unfr bs).2.2) := ⟨_, Lib.hid rfl⟩
  obtain ⟨up, hup⟩ : ∃ up, Hid (up = unP bs) := ⟨_, Lib.hid rfl⟩
  obtain ⟨ur, hur⟩ : ∃ ur, Hid (ur = unR bs) := ⟨_, Lib.hid rfl⟩
  have cF : ∀ (v : Value) (w : World), Rd w 0 w.heap.size v bs → Calls Try.prog 18 #[v] w fun e w' => ∃ A c, e = .returned (.tuple #[.slice A fl.length c, .int .i64 fx]) ∧ Own w' w.heap.size (.slice A fl.length c) fl ∧ Below w.heap.size w w' := by
    rw [hfl.out, hfx.out]; exact fun v w h => (frame_any v bs w h hl).mono fun _ _ h => h.one
  have cG : ∀ (v : Value) (w : World), Rd w 0 w.heap.size v bs → Calls Try.prog 19 #[v] w fun e w' => ∃ A c, e = .returned (.tuple #[.slice A fl.length c, .int .i64 fx]) ∧ Own w' w.heap.size (.slice A fl.length c) fl ∧ Below w.heap.size w w' := by
    rw [hfl.out, hfx.out]; exact fun v w h => (refFrame_any v bs w h hl).mono fun _ _ h => h.one
  have cU : ∀ (v : Value) (w : World), Rd w 0 w.heap.size v bs → Calls Try.prog 20 #[v] w fun e w' => ∃ A c v, e = .returned (.tuple #[.slice A up.length c, v, .int .i64 ux]) ∧ Own w' w.heap.size (.slice A up.length c) up ∧ Own w' w.heap.size v ur ∧ Below w.heap.size w w' := by
    rw [hup.out, hux.out, hur.out]; exact fun v w h => (unframe_any v bs w h hl).mono fun _ _ h => h.one
  have cV : ∀ (v : Value) (w : World), Rd w 0 w.heap.size v bs → Calls Try.prog 21 #[v] w fun e w' => ∃ A c v, e = .returned (.tuple #[.slice A up.length c, v, .int .i64 ux]) ∧ Own w' w.heap.size (.slice A up.length c) up ∧ Own w' w.heap.size v ur ∧ Below w.heap.size w w' := by
    rw [hup.out, hux.out, hur.out]; exact fun v w h => (refUnframe_any v bs w h hl).mono fun _ _ h => h.one
  rw [← hfl.out] at lf
  rw [← hup.out] at lp
  rw [← hur.out] at lr
  have CF := Lib.hid cF
  have CG := Lib.hid cG
  have CU := Lib.hid cU
  have CV := Lib.hid cV
  have hxx : (fx != fx) = false := by simp
  have huu : (ux != ux) = false := by simp
  clear cF cG cU cV
  go_enter Try.func4, Try.ntmps4
  go_wp2_with fail
  refine (clone_any v bs w h (by omega)).mono ?_
  rintro e w1 ⟨v1, rfl, hown1, hb1⟩
  have s01 := hb1.size
  have r1 : Rd w1 w.heap.size w1.heap.size v1 bs := hown1.rd
  go_wp2_with fail
  refine (CF.out v1 w1 (r1.mono (Nat.zero_le _) (Nat.le_refl _))).mono ?_
  rintro e w2 ⟨A2, c2, rfl, hown2, hb2⟩
  have s12 := hb2.size
  have b02 := hb1.trans (hb2.mono s01)
  go_wp2_with fail
  refine (CG.out v w2 ((h.below b02 (Nat.le_refl _)).mono (Nat.le_refl _) b02.size)).mono ?_
  rintro e w3 ⟨A3, c3, rfl, hown3, hb3⟩
  have s23 := hb3.size
  have b03 := b02.trans (hb3.mono b02.size)
  have b13 := hb2.trans (hb3.mono s12)
  go_wp2_with fail
  refine (CU.out v1 w3 ((r1.below b13 (Nat.le_refl _)).mono (Nat.zero_le _) b13.size)).mono ?_
  rintro e w4 ⟨A4, c4, v4, rfl, hown4, hrest4, hb4⟩
  have s34 := hb4.size
  have b04 := b03.trans (hb4.mono b03.size)
  have b14 := b13.trans (hb4.mono b13.size)
  go_wp2_with fail
  refine (CV.out v w4 ((h.below b04 (Nat.le_refl _)).mono (Nat.le_refl _) b04.size)).mono ?_
  rintro e w5 ⟨A5, c5, v5, rfl, hown5, hrest5, hb5⟩
  have s45 := hb5.size
  have b05 := b04.trans (hb5.mono b04.size)
  have b15 := b14.trans (hb5.mono b14.size)
  have b25 : Below w2.heap.size w2 w5 := (hb3.trans (hb4.mono s23)).trans (hb5.mono (Nat.le_trans s23 s34))
  have b35 : Below w3.heap.size w3 w5 := hb4.trans (hb5.mono s34)
  -- what stands in w5
  have oF : Own w5 w1.heap.size (.slice A2 fl.length c2) fl := hown2.below b25
  have oG : Own w5 w2.heap.size (.slice A3 fl.length c3) fl := hown3.below b35
  have oP : Own w5 w3.heap.size (.slice A4 up.length c4) up := hown4.below hb5
  have oR : Own w5 w3.heap.size v4 ur := hrest4.below hb5
  have rI : Rd w5 w.heap.size w1.heap.size v1 bs := r1.below b15 (Nat.le_refl _)
  have uF : ∀ k, (Value.slice A2 fl.length c2).ownBlock = some k → k < w2.heap.size := fun k hk => (hown2.lt k hk).2
  have uP : ∀ k, (Value.slice A4 up.length c4).ownBlock = some k → k < w4.heap.size := fun k hk => (hown4.lt k hk).2
  have lP : ∀ k, (Value.slice A4 up.length c4).ownBlock = some k → w3.heap.size ≤ k := fun k hk => (hown4.lt k hk).1
  have lF : ∀ k, (Value.slice A2 fl.length c2).ownBlock = some k → w1.heap.size ≤ k := fun k hk => (hown2.lt k hk).1
  clear hown2 hown3 hown4 hrest4 hown1 hb2 hb3 hb4 hb5 b02 b03 b04 b13 b14
  go_wp2_with fail
  (with_reducible refine (equal_same (.slice A2 fl.length c2) (.slice A3 fl.length c3) fl _ _ _ _ w5 oF.rd oG.rd (by omega)).mono ?_)
  rintro e y1 ⟨rfl, n1, rfl⟩
  go_wp2_with fail
  (with_reducible refine (equal_same (.slice A4 up.length c4) (.slice A5 up.length c5) up _ _ _ _ _ (oP.rd.drewN _) (hown5.rd.drewN _) (by omega)).mono ?_)
  rintro e y2 ⟨rfl, n2, rfl⟩
  go_wp2_with fail
  (with_reducible refine (equal_same v4 v5 ur _ _ _ _ _ (oR.rd.drewN _) (hrest5.rd.drewN _) (by omega)).mono ?_)
  rintro e y3 ⟨rfl, n3, rfl⟩
  have UF := Lib.hid uF
  have UP := Lib.hid uP
  have LP := Lib.hid lP
  have LF := Lib.hid lF
  clear uF uP lP lF
  obtain ⟨W5, hW5⟩ : ∃ W5, Hid (W5 = w5.drewN (n1 + n2 + n3)) := ⟨_, Lib.hid rfl⟩
  have qI : Rd W5 w.heap.size w1.heap.size v1 bs := by rw [hW5.out]; exact rI
  have qV : Rd W5 0 w.heap.size v bs := by rw [hW5.out]; exact h.below (below_drewN b05 _) (Nat.le_refl _)
  have qF : Own W5 w1.heap.size (.slice A2 fl.length c2) fl := by rw [hW5.out]; exact oF
  have qP : Own W5 w3.heap.size (.slice A4 up.length c4) up := by rw [hW5.out]; exact oP
  have qQ : Own W5 w4.heap.size (.slice A5 up.length c5) up := by rw [hW5.out]; exact hown5
  have qB : Below w.heap.size w W5 := by rw [hW5.out]; exact below_drewN b05 _
  have s5 : w4.heap.size ≤ W5.heap.size := by rw [hW5.out]; exact s45
  clear oF oG oP oR rI hown5 hrest5 b05 b15 b25 b35
  go_wp2_with fail
  have e2 := hW5.out.symm
  rw [e2]
  clear e2
  go_loopw [68] (fun i wr => ∃ (k : Nat) (cs : List UInt8), k ≤ up.length ∧ i = .int .i64 (k : Int) ∧ cs.length = up.length ∧ Own wr w3.heap.size (.slice A4 up.length c4) cs ∧ W5.grownBy wr (Value.slice A4 up.length c4).ownBlock) (fun i _ => up.length - (intOf i).toNat)
  case atStart => exact ⟨0, up, Nat.zero_le _, rfl, rfl, qP, World.grownBy.refl _ _⟩
  case round =>
    obtain ⟨k, cs, hk, rfl, hcs, hown, hgr⟩ := hrel
    have HC := Lib.hid hcs
    by_cases hlt : k < up.length
    · obtain ⟨g, hA, _, _, _⟩ := hown.addr (by omega)
      have hlt' : k < cs.length := by omega
      clear hcs
      subst hA
      obtain ⟨ha, hf⟩ := hown.byte hlt'
      go_wp2_with fail
      go_roundw
      case rel => exact ⟨k + 1, cs.set k (cs[k] ^^^ 255), by omega, by go_num, by rw [List.length_set]; exact HC.out, hown.set_ k (xor_byte cs[k] 255), grownBy_setr hgr rfl k _⟩
      case measure => simp [intOf]; omega
    · have hz := hgr.size
      have tI : Rd wr w.heap.size w1.heap.size v1 bs := qI.grownr hgr (by omega) (fun g hg => .inr (by have := LP.out g hg; omega))
      have tV : Rd wr 0 w.heap.size v bs := qV.grownr hgr (by omega) (fun g hg => .inr (by have := LP.out g hg; omega))
      have tF : Own wr w1.heap.size (.slice A2 fl.length c2) fl := qF.keptu UF.out hgr (fun g hg => by have := LP.out g hg; omega)
      have tQ : Own wr w4.heap.size (.slice A5 up.length c5) up := qQ.keptr hgr UP.out
      have tB : Below w.heap.size w wr := qB.grown hgr (by omega) (fun g hg => by have := LP.out g hg; omega)
      clear qI qV qF qP qQ qB hown hgr hcs
      obtain ⟨W6, rfl⟩ : ∃ W6 : World, W6 = wr := ⟨_, rfl⟩
      have s6 : w4.heap.size ≤ W6.heap.size := by omega
      clear hz
      go_wp2_with fail
      go_loopw [80] (fun i wr => ∃ (k : Nat) (cs : List UInt8), k ≤ fl.length ∧ i = .int .i64 (k : Int) ∧ cs.length = fl.length ∧ Own wr w1.heap.size (.slice A2 fl.length c2) cs ∧ W6.grownBy wr (Value.slice A2 fl.length c2).ownBlock) (fun i _ => fl.length - (intOf i).toNat)
      case atStart => exact ⟨0, fl, Nat.zero_le _, rfl, rfl, tF, World.grownBy.refl _ _⟩
      case round =>
        obtain ⟨k, cs, hk, rfl, hcs, hown, hgr⟩ := hrel
        have HC := Lib.hid hcs
        by_cases hlt : k < fl.length
        · obtain ⟨g, hA, _, _, _⟩ := hown.addr (by omega)
          have hlt' : k < cs.length := by omega
          clear hcs
          subst hA
          obtain ⟨ha, hf⟩ := hown.byte hlt'
          go_wp2_with fail
          go_roundw
          case rel => exact ⟨k + 1, cs.set k (cs[k] ^^^ 255), by omega, by go_num, by rw [List.length_set]; exact HC.out, hown.set_ k (xor_byte cs[k] 255), grownBy_setr hgr rfl k _⟩
          case measure => simp [intOf]; omega
        · have hz := hgr.size
          have kI : Rd wr 0 w1.heap.size v1 bs := (tI.grownr hgr (by omega) (fun g hg => .inr (LF.out g hg))).mono (Nat.zero_le _) (Nat.le_refl _)
          have kV : Rd wr 0 w.heap.size v bs := tV.grownr hgr (by omega) (fun g hg => .inr (Nat.le_trans s01 (LF.out g hg)))
          have kQ : Own wr w4.heap.size (.slice A5 up.length c5) up := tQ.keptr hgr (fun g hg => by have := UF.out g hg; omega)
          have kB : Below w.heap.size w wr := tB.grown hgr (by omega) (fun g hg => by have := LF.out g hg; omega)
          have s7 : w4.heap.size ≤ wr.heap.size := by omega
          clear tI tV tF tQ tB hown hgr hcs
          go_wp2_with fail
          (with_reducible refine (CU.out v1 wr (kI.mono (Nat.le_refl _) (by omega))).mono ?_)
          rintro e y4 ⟨A8, c8, v8, rfl, hown8, _, hb8⟩
          have s8 := hb8.size
          go_wp2_with fail
          (with_reducible refine (equal_same v1 v bs _ _ _ _ y4 (kI.below hb8 (by omega)) (kV.below hb8 (by omega)) (by omega)).mono ?_)
          rintro e y5 ⟨rfl, n5, rfl⟩
          go_wp2_with fail
          (with_reducible refine (equal_same (.slice A8 up.length c8) (.slice A5 up.length c5) up _ _ _ _ _ (hown8.rd.drewN _) ((kQ.below hb8).rd.drewN _) (by omega)).mono ?_)
          rintro e y6 ⟨rfl, n6, rfl⟩
          have kE : Below w.heap.size w y4 := kB.trans (hb8.mono kB.size)
          go_wp2
          go_ret
          exact ⟨rfl, below_drewN kE _⟩
end Go.Proofs.Ytnehchlfoidmdaa
