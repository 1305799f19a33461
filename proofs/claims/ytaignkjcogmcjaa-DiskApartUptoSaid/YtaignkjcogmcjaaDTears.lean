/- Lists of tears: how they read, and how they are copied. -/
import Derived.Test.YtaignkjcogmcjaaDAwake
import Derived.Test.YtaignkjcogmcjaaClone
namespace Go.Proofs.Ytaignkjcogmcjaa
open Go.RowKit
open Go.Lib (byteCells byteCells_length)

theorem add_lit (a : Addr) (k : Nat) (hk : 0 < k) : a.add k = ⟨a.block, a.off + k, none⟩ := by unfold Addr.add; rw [if_neg (by omega)]

/-- A tear: whose, how much is kept, what stands behind. -/
abbrev TearA := ByteArray × Int × List UInt8

/-- The slice value reads as these tears. -/
def RdTears (w : World) (v : Value) (ts : List TearA) : Prop :=
  ∃ A c, v = .slice A ts.length c ∧ ts.length ≤ c ∧ ∀ j (t : TearA), ts[j]? = some t → ∃ (ad : Addr) (J : Option Addr) (cj : Nat), A = some ad ∧ ad.block < w.heap.size ∧ w.cell? (ad.add (j * 3)) = some (.string t.1) ∧
    w.cell? ⟨(ad.add (j * 3)).block, (ad.add (j * 3)).off + 1, none⟩ = some (.int .i64 t.2.1) ∧ w.cell? ⟨(ad.add (j * 3)).block, (ad.add (j * 3)).off + 2, none⟩ = some (.slice J t.2.2.length cj) ∧ Rd w 0 w.heap.size (.slice J t.2.2.length cj) t.2.2
theorem RdTears.below {w w' : World} {v : Value} {ts : List TearA} (h : RdTears w v ts) (hb : Below w.heap.size w w') : RdTears w' v ts := by
  obtain ⟨A, c, e, hc, hx⟩ := h
  refine ⟨A, c, e, hc, fun j t hj => ?_⟩
  obtain ⟨ad, J, cj, e1, h0, h1, h2, h3, h4⟩ := hx j t hj
  have hbl : (ad.add (j * 3)).block < w.heap.size := by rw [add_block]; exact h0
  exact ⟨ad, J, cj, e1, Nat.lt_of_lt_of_le h0 hb.size, (hb.cell hbl).trans h1, (hb.cell (p := ⟨_, _, none⟩) hbl).trans h2, (hb.cell (p := ⟨_, _, none⟩) hbl).trans h3, (h4.below hb (Nat.le_refl _)).mono (Nat.le_refl _) hb.size⟩

/-- The cells of tears whose junk lies in these values. -/
def tcells : List TearA → List Value → List Value
  | t :: ts, v :: vs => .string t.1 :: .int .i64 t.2.1 :: v :: tcells ts vs
  | _, _ => []
theorem tcells_snoc : ∀ (ts : List TearA) (vs : List Value) (t : TearA) (v : Value), ts.length = vs.length → tcells (ts ++ [t]) (vs ++ [v]) = tcells ts vs ++ [.string t.1, .int .i64 t.2.1, v]
  | [], [], _, _, _ => rfl
  | [], _ :: _, _, _, h => by simp at h
  | _ :: _, [], _, _, h => by simp at h
  | a :: ts, b :: vs, t, v, h => by
    simp only [List.cons_append, tcells, tcells_snoc ts vs t v (by simpa using h)]
/-- The junk of the copied tears lies in memory of its own, beside the list. -/
def Junks (w : World) (B : Nat) (out : Value) (ts : List TearA) (vs : List Value) : Prop :=
  ts.length = vs.length ∧ ∀ (i : Nat) (v : Value) (t : TearA), vs[i]? = some v → ts[i]? = some t → Own w B v t.2.2 ∧ ∀ g, v.ownBlock = some g → out.ownBlock ≠ some g
/-- What tears leaves. -/
def TearsPost (ts : List TearA) (w : World) (e : Ending) (w' : World) : Prop :=
  ∃ v vs, e = .returned v ∧ Below w.heap.size w w' ∧ w'.ownsRow w.heap.size 65 3 v ts.length (tcells ts vs) ∧ Junks w' w.heap.size v ts vs

theorem row_same {w w' : World} {base size n : Nat} {e : TypeId} {v : Value} {xs : List Value} (h : w.ownsRow base e size v n xs) (hs : ∀ g, v.ownBlock = some g → w'.heap[g]? = w.heap[g]?) : w'.ownsRow base e size v n xs := by
  refine ⟨h.1, ?_⟩
  rcases h.2 with h0 | ⟨g, cap, cur, rfl, h1, h2, r⟩
  · exact .inl h0
  · exact .inr ⟨g, cap, cur, rfl, h1, (hs g rfl).trans h2, r⟩

/-- One tear more. -/
theorem junks_snoc {w w' : World} {B : Nat} {out out' : Value} {ts : List TearA} {vs : List Value} {t : TearA} {v : Value} (h : Junks w B out ts vs) (hs : ∀ k, k < w.heap.size → out.ownBlock ≠ some k → w'.heap[k]? = w.heap[k]?)
    (hv : Own w' B v t.2.2) (hvn : ∀ g, v.ownBlock = some g → out'.ownBlock ≠ some g) (ho : ∀ g, out'.ownBlock = some g → out.ownBlock = some g ∨ w.heap.size ≤ g) : Junks w' B out' (ts ++ [t]) (vs ++ [v]) := by
  refine ⟨by simp [h.1], fun i x y hx hy => ?_⟩
  by_cases hi : i < vs.length
  · rw [List.getElem?_append_left hi] at hx
    rw [List.getElem?_append_left (by rw [h.1]; exact hi)] at hy
    obtain ⟨h1, h2⟩ := h.2 i x y hx hy
    refine ⟨h1.same fun g hg => hs g (h1.lt g hg).2 (h2 g hg), fun g hg e => ?_⟩
    rcases ho g e with h3 | h3
    · exact h2 g hg h3
    · have := (h1.lt g hg).2; omega
  · have hi2 : i = vs.length := by
      have := (List.getElem?_eq_some_iff.1 hx).1
      simp at this; omega
    subst hi2
    rw [List.getElem?_append_right (Nat.le_refl _)] at hx
    rw [← h.1, List.getElem?_append_right (Nat.le_refl _)] at hy
    simp at hx hy
    subst hx; subst hy
    exact ⟨hv, hvn⟩

theorem infoTear : (Try.prog.info? 65).map (fun i => (i.zero, i.size, i.bytes)) = some (some (.agg #[.string .empty, .int .i64 0, .slice none 0 0]), 3, 48) := by kernel_rfl

set_option maxRecDepth 100000 in
set_option maxHeartbeats 3200000 in
theorem tears_any (v : Value) (ts : List TearA) (w : World) (h : RdTears w v ts) (hl : ts.length ≤ 1099511627776) (hj : ∀ t ∈ ts, t.2.2.length ≤ 140737488355328) :
    Calls Try.prog 24 #[v] w (TearsPost ts w) := by
  obtain ⟨i0, hi0, hz0, hz1, hz2⟩ := info_parts infoTear
  have HR := Lib.hid h
  obtain ⟨A, c, rfl, hc, hx⟩ := h
  have HX := Lib.hid hx
  have HJ := Lib.hid hj
  obtain ⟨n, hn⟩ : ∃ n, Hid (n = ts.length) := ⟨_, Lib.hid rfl⟩
  rw [← hn.out] at hl hc ⊢
  clear hx hj
  go_enter Try.func24, Try.ntmps24
  go_wp2
  go_loopw [8, 3] (fun i out wr => ∃ (k : Nat) (vs : List Value), k ≤ n ∧ i = .int .i64 k ∧ Below w.heap.size w wr ∧ wr.ownsRow w.heap.size 65 3 out k (tcells (ts.take k) vs) ∧ Junks wr w.heap.size out (ts.take k) vs) (fun i _ _ => n - (intOf i).toNat)
  case atStart => exact ⟨0, [], Nat.zero_le _, rfl, Below.refl _ _, World.ownsRow_nil _ _ _ _, rfl, by simp⟩
  case round =>
    obtain ⟨k, vs, hk, rfl, hb, hown, hju⟩ := hrel
    have hbs := hb.size
    by_cases hlt : k < n
    · obtain ⟨t, ht⟩ : ∃ t, ts[k]? = some t := ⟨ts[k]'(by have := hn.out; omega), List.getElem?_eq_getElem _⟩
      obtain ⟨A', c', e', _, hx'⟩ := HR.out.below hb
      obtain ⟨ad, J, cj, e1, h0, h1, h2, h3, h4⟩ := hx' k t ht
      injection e' with e2 _ e4
      subst e2
      subst e4
      subst e1
      obtain ⟨nm, kp, js⟩ := t
      simp only at h1 h2 h3 h4
      have htl : js.length ≤ 140737488355328 := HJ.out _ (List.mem_of_getElem? ht)
      have hlen : (ts.take k).length = k := by rw [List.length_take]; have := hn.out; omega
      have h4' : Rd (wr.alloc (.cells #[.string nm, .int .i64 kp, .slice J js.length cj] 65)) 0 (wr.alloc (.cells #[.string nm, .int .i64 kp, .slice J js.length cj] 65)).heap.size (.slice J js.length cj) js :=
        (h4.below ((Below.refl _ _).alloc (Nat.le_refl _) _) (Nat.le_refl _)).mono (Nat.le_refl _) (by simp)
      have HCL := Lib.hid (clone_any _ js _ h4' htl)
      have hnew := heap_alloc_new wr (.cells #[.string nm, .int .i64 kp, .slice J js.length cj] 65)
      have HNEW := Lib.hid hnew
      have HB := Lib.hid hb
      have HOWN := Lib.hid hown
      have HJU := Lib.hid hju
      have HT := Lib.hid ht
      have HLEN := Lib.hid hlen
      clear hx' h4 h4' hnew hb hown hju ht hlen htl
      go_wp2_with fail
      (with_reducible refine HCL.out.mono ?_); rintro e w2 ⟨v1, rfl, ho1, hb2⟩
      obtain ⟨A1, c1, rfl, hc1, hx1⟩ := ho1.rd
      have tlt : wr.heap.size < (wr.alloc (.cells #[.string nm, .int .i64 kp, .slice J js.length cj] 65)).heap.size := by simp
      have r2 := (hb2.block _ tlt).trans HNEW.out
      have z2 : wr.heap.size < w2.heap.size := Nat.lt_of_lt_of_le tlt hb2.size
      have f2 : w2.frozen? ⟨wr.heap.size, 2, none⟩ = false := frozen_of_row w2 _ 2 _ _ r2
      have q2 : w2.cell? ⟨wr.heap.size, 2, none⟩ = some (.slice J js.length cj) := cell_of_row w2 _ 2 _ _ (0, 0) r2
      have r3 : (w2.setCell ⟨wr.heap.size, 2, none⟩ (.slice A1 js.length c1)).heap[wr.heap.size]? = some (.cells #[.string nm, .int .i64 kp, .slice A1 js.length c1] 65 (0, 0)) := by
        have := Joins.block_setCell r2 (i := 2) (.slice A1 js.length c1)
        simpa using this
      have p0 : (w2.setCell ⟨wr.heap.size, 2, none⟩ (.slice A1 js.length c1)).cell? ⟨wr.heap.size, 0, none⟩ = some (.string nm) := cell_of_row _ _ 0 _ _ (0, 0) r3
      have p1 : (w2.setCell ⟨wr.heap.size, 2, none⟩ (.slice A1 js.length c1)).cell? ⟨wr.heap.size, 1, none⟩ = some (.int .i64 kp) := cell_of_row _ _ 1 _ _ (0, 0) r3
      have p2 : (w2.setCell ⟨wr.heap.size, 2, none⟩ (.slice A1 js.length c1)).cell? ⟨wr.heap.size, 2, none⟩ = some (.slice A1 js.length c1) := cell_of_row _ _ 2 _ _ (0, 0) r3
      -- what stood in wr stands in the world of the append
      have keep : ∀ k, k < wr.heap.size → ((w2.setCell ⟨wr.heap.size, 2, none⟩ (.slice A1 js.length c1)).alloc (.cells #[.string nm, .int .i64 kp, .slice A1 js.length c1] 65)).heap[k]? = wr.heap[k]? := fun k hk =>
        (Below.heap_alloc _ _ _ (by simp [World.setCell]; omega)).trans ((Below.heap_setCell w2 ⟨wr.heap.size, 2, none⟩ _ k (show k ≠ wr.heap.size by omega)).trans ((hb2.block k (by simp; omega)).trans (Below.heap_alloc _ _ _ hk)))
      have hro := row_same HOWN.out fun g hg => keep g (World.ownsRow.lt HOWN.out g hg).2
      have hcl : Own ((w2.setCell ⟨wr.heap.size, 2, none⟩ (.slice A1 js.length c1)).alloc (.cells #[.string nm, .int .i64 kp, .slice A1 js.length c1] 65)) (wr.heap.size + 1) (.slice A1 js.length c1) js :=
        own_alloc ((ho1.same fun g hg => Below.heap_setCell w2 ⟨wr.heap.size, 2, none⟩ _ g (show g ≠ wr.heap.size by have := (ho1.lt g hg).1; simp at this; omega)).base_le (by simp)) _
      have hnw := heap_alloc_new (w2.setCell ⟨wr.heap.size, 2, none⟩ (.slice A1 js.length c1)) (.cells #[.string nm, .int .i64 kp, .slice A1 js.length c1] 65)
      have hB4 : Below wr.heap.size wr ((w2.setCell ⟨wr.heap.size, 2, none⟩ (.slice A1 js.length c1)).alloc (.cells #[.string nm, .int .i64 kp, .slice A1 js.length c1] 65)) :=
        ((((Below.refl _ _).alloc (Nat.le_refl _) _).trans (hb2.mono (by simp))).setCell (Nat.le_refl _) _).alloc (by simp [World.setCell]; omega) _
      have KEEP := Lib.hid keep
      have HRO := Lib.hid hro
      have HCO := Lib.hid hcl
      have HNW := Lib.hid hnw
      have HB4 := Lib.hid hB4
      clear keep hro hcl hnw hB4 r2 r3 hx1 ho1
      go_wp2_with (at_builtin; go_must (refine wpList_append_own_at _ rfl (.tmp 16) (.tmp 18) 32 rfl w.heap.size 65 i0 _ 3 48 Try.underlying32 hi0 hz0 hz1 hz2 rfl (by decide) _ k _ rfl HRO.out ⟨w2.heap.size, 0, none⟩ 1 1 [.string nm, .int .i64 kp, .slice A1 js.length c1] rfl rfl ?_ ?_ ?_ ?_ ?_ ?_))
      case refine_1 =>
        intro j u hu
        have e : (⟨w2.heap.size, 0, none⟩ : Addr).add j = ⟨w2.heap.size, j, none⟩ := by unfold Addr.add; split <;> simp_all
        rw [e]
        have hr := cell_of_row _ _ j _ _ (0, 0) HNW.out
        rw [show (w2.setCell ⟨wr.heap.size, 2, none⟩ (.slice A1 js.length c1)).heap.size = w2.heap.size by simp [World.setCell]] at hr
        rw [hr]
        simpa using hu
      case refine_2 =>
        intro u hu
        simp at hu
        rcases hu with rfl | rfl | rfl <;> rfl
      case refine_3 => unfold maxLen; omega
      case refine_4 => omega
      case refine_5 => simp [World.setCell]; omega
      intro v' w5 hown5 hg5 _ hat5
      have z4 : ((w2.setCell ⟨wr.heap.size, 2, none⟩ (.slice A1 js.length c1)).alloc (.cells #[.string nm, .int .i64 kp, .slice A1 js.length c1] 65)).heap.size = w2.heap.size + 1 := by simp [World.setCell]
      have olt : ∀ g, u3.ownBlock = some g → w.heap.size ≤ g ∧ g < wr.heap.size := fun g hg => World.ownsRow.lt HOWN.out g hg
      have etk : ts.take (k + 1) = ts.take k ++ [(nm, kp, js)] := by rw [List.take_add_one, HT.out]; rfl
      have hrow : w5.ownsRow w.heap.size 65 3 v' (k + 1) (tcells (ts.take (k + 1)) (vs ++ [.slice A1 js.length c1])) := by
        rw [etk, tcells_snoc _ _ _ _ HJU.out.1]
        exact hown5
      have hbel : Below w.heap.size w w5 := (HB.out.trans (HB4.out.mono hbs)).grown hg5 (by rw [z4]; omega) (fun g hg => (olt g hg).1)
      have hcw := HCO.out.lt
      have hjk : Junks w5 w.heap.size v' (ts.take (k + 1)) (vs ++ [.slice A1 js.length c1]) := by
        rw [etk]
        refine junks_snoc HJU.out (fun i hi hne => (hg5.block i (by rw [z4]; omega) (fun e => hne e.symm)).trans (KEEP.out i hi)) ?_ ?_ ?_
        · exact (HCO.out.same fun g hg => hg5.block g (hcw g hg).2 (fun e => by have := (olt g e.symm).2; have := (hcw g hg).1; omega)).base_le (by omega)
        · intro g hg e
          have h1 := hcw g hg
          rw [z4] at h1
          rcases hat5 with e2 | e2
          · rw [e2] at e; have := (olt g e).2; omega
          · rw [e2] at e; injection e with e; omega
        · intro g hg
          rcases hat5 with e2 | e2
          · rw [e2] at hg; exact .inl hg
          · rw [e2] at hg; injection hg with hg; exact .inr (by omega)
      have HRW := Lib.hid hrow
      have HBL := Lib.hid hbel
      have HJK := Lib.hid hjk
      clear hrow hbel hjk hcw etk olt hown5 hg5 hat5
      go_wp2
      go_roundw
      case rel =>
        exact ⟨k + 1, _, by omega, by go_num, HBL.out, HRW.out, HJK.out⟩
      case measure => simp [intOf]; omega
    · obtain rfl : k = n := by omega
      go_wp2
      go_ret
      have e := hn.out
      refine ⟨_, vs, rfl, hb, ?_, ?_⟩
      · rw [List.take_of_length_le (by omega)] at hown; rw [← e]; exact hown
      · rw [List.take_of_length_le (by omega)] at hju; exact hju
end Go.Proofs.Ytaignkjcogmcjaa
