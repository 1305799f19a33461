/- The tears of a crash, gone through ahead of it. -/
import Derived.Test.YtaignkjcogmcjaaDTear
import Derived.Maps.Views
namespace Go.Proofs.Ytaignkjcogmcjaa
open Go.RowKit
open Go.Lib (byteCells byteCells_length)

/-- The tear of this file among these. -/
def lookT (ts : List TearA) (n : List UInt8) : Option TearA := ts.find? fun t => t.1.data.toList == n
/-- What the tears still to come answer, behind those that are done. -/
def tearC (fs : List FileA) : List TearA → List TearA → Int
  | _, [] => 0
  | done, t :: r => if canS t.1.data.toList = false then 6 else
    match look fs t.1.data.toList with
    | none => 20
    | some x => if (lookT done t.1.data.toList).isSome || !tearB x.1.length x.2 t.2.1 t.2.2.length then 21 else tearC fs (done ++ [t]) r

theorem tearC_bad {fs : List FileA} {done r : List TearA} {t : TearA} (h : canS t.1.data.toList = false) : tearC fs done (t :: r) = 6 := by unfold tearC; rw [if_pos h]
theorem tearC_gone {fs : List FileA} {done r : List TearA} {t : TearA} (h : canS t.1.data.toList = true) (hl : look fs t.1.data.toList = none) : tearC fs done (t :: r) = 20 := by unfold tearC; rw [if_neg (by simp [h]), hl]
theorem tearC_no {fs : List FileA} {done r : List TearA} {t : TearA} {x : List UInt8 × Nat} (h : canS t.1.data.toList = true) (hl : look fs t.1.data.toList = some x) (hn : ((lookT done t.1.data.toList).isSome || !tearB x.1.length x.2 t.2.1 t.2.2.length) = true) : tearC fs done (t :: r) = 21 := by
  unfold tearC; rw [if_neg (by simp [h]), hl]; simp only [hn, if_true]
theorem tearC_yes {fs : List FileA} {done r : List TearA} {t : TearA} {x : List UInt8 × Nat} (h : canS t.1.data.toList = true) (hl : look fs t.1.data.toList = some x) (hn : lookT done t.1.data.toList = none) (hb : tearB x.1.length x.2 t.2.1 t.2.2.length = true) : tearC fs done (t :: r) = tearC fs (done ++ [t]) r := by
  rw [tearC, if_neg (by simp [h]), hl]; simp [hn, hb]

theorem lookT_snoc {ts : List TearA} {t : TearA} (n : List UInt8) : lookT (ts ++ [t]) n = (lookT ts n).or (if t.1.data.toList = n then some t else none) := by
  unfold lookT
  rw [List.find?_append]
  congr 1
  by_cases h : t.1.data.toList = n <;> simp [h]

/-- A value reads as itself. -/
def selfR : Value → Option (DataW Value × List MemPlace) := fun v => some (.held v, [])
theorem selfR_inv {v u : Value} {ps : List MemPlace} (h : selfR v = some (.held u, ps)) : v = u := by
  unfold selfR at h
  injection h with h
  injection h with h
  injection h

/-- The tears with these junks' memory at lo and behind it. -/
def RdTearsL (w : World) (lo : Nat) (v : Value) (ts : List TearA) : Prop :=
  ∃ A c, v = .slice A ts.length c ∧ ts.length ≤ c ∧ ∀ j (t : TearA), ts[j]? = some t → ∃ (ad : Addr) (J : Option Addr) (cj : Nat), A = some ad ∧ ad.block < w.heap.size ∧ w.cell? (ad.add (j * 3)) = some (.string t.1) ∧
    w.cell? ⟨(ad.add (j * 3)).block, (ad.add (j * 3)).off + 1, none⟩ = some (.int .i64 t.2.1) ∧ w.cell? ⟨(ad.add (j * 3)).block, (ad.add (j * 3)).off + 2, none⟩ = some (.slice J t.2.2.length cj) ∧ Rd w lo w.heap.size (.slice J t.2.2.length cj) t.2.2
theorem RdTearsL.below {w w' : World} {lo : Nat} {v : Value} {ts : List TearA} (h : RdTearsL w lo v ts) (hb : Below w.heap.size w w') : RdTearsL w' lo v ts := by
  obtain ⟨A, c, e, hc, hx⟩ := h
  refine ⟨A, c, e, hc, fun j t hj => ?_⟩
  obtain ⟨ad, J, cj, e1, h0, h1, h2, h3, h4⟩ := hx j t hj
  have hbl : (ad.add (j * 3)).block < w.heap.size := by rw [add_block]; exact h0
  exact ⟨ad, J, cj, e1, Nat.lt_of_lt_of_le h0 hb.size, (hb.cell hbl).trans h1, (hb.cell (p := ⟨_, _, none⟩) hbl).trans h2, (hb.cell (p := ⟨_, _, none⟩) hbl).trans h3, (h4.below hb (Nat.le_refl _)).mono (Nat.le_refl _) hb.size⟩

/-- The map has each of these tears at its name. -/
def TornAt (w : World) (lo hi : Nat) (D : DataW Value) (ts : List TearA) : Prop :=
  Maps.IsMap D ∧ ∀ n : List UInt8, match lookT ts n with
    | none => Maps.has D (.string n) = false ∧ ∀ z, D.atKey (.string n) z = z
    | some t => Maps.has D (.string n) = true ∧ ∃ J cj, (∀ z, D.atKey (.string n) z = .held (.agg #[.string t.1, .int .i64 t.2.1, .slice J t.2.2.length cj])) ∧ Rd w lo hi (.slice J t.2.2.length cj) t.2.2
theorem TornAt.gone {w : World} {lo hi : Nat} {D : DataW Value} {ts : List TearA} (h : TornAt w lo hi D ts) {n : List UInt8} (hn : lookT ts n = none) : Maps.has D (.string n) = false ∧ ∀ z, D.atKey (.string n) z = z := by
  have := h.2 n
  rw [hn] at this
  exact this
theorem TornAt.here {w : World} {lo hi : Nat} {D : DataW Value} {ts : List TearA} (h : TornAt w lo hi D ts) {n : List UInt8} {t : TearA} (hn : lookT ts n = some t) : Maps.has D (.string n) = true ∧ ∃ J cj, (∀ z, D.atKey (.string n) z = .held (.agg #[.string t.1, .int .i64 t.2.1, .slice J t.2.2.length cj])) ∧ Rd w lo hi (.slice J t.2.2.length cj) t.2.2 := by
  have := h.2 n
  rw [hn] at this
  exact this
theorem TornAt.nil (w : World) (lo hi : Nat) : TornAt w lo hi (.map []) [] := ⟨⟨_, rfl⟩, fun _ => ⟨rfl, fun _ => rfl⟩⟩
theorem TornAt.mono {w w' : World} {lo hi hi' : Nat} {D : DataW Value} {ts : List TearA} (h : TornAt w lo hi D ts) (hr : ∀ J n c bs, Rd w lo hi (.slice J n c) bs → Rd w' lo hi' (.slice J n c) bs) : TornAt w' lo hi' D ts := by
  refine ⟨h.1, fun n => ?_⟩
  have := h.2 n
  cases e : lookT ts n with
  | none => rw [e] at this; exact this
  | some t =>
    rw [e] at this
    obtain ⟨h1, J, cj, h2, h3⟩ := this
    exact ⟨h1, J, cj, h2, hr _ _ _ _ h3⟩
theorem TornAt.snoc {w : World} {lo hi : Nat} {D : DataW Value} {ts : List TearA} {t : TearA} {J : Option Addr} {cj : Nat} (h : TornAt w lo hi D ts) (hn : lookT ts t.1.data.toList = none) (hr : Rd w lo hi (.slice J t.2.2.length cj) t.2.2) :
    TornAt w lo hi (D.put (.string t.1.data.toList) (.held (.agg #[.string t.1, .int .i64 t.2.1, .slice J t.2.2.length cj]))) (ts ++ [t]) := by
  refine ⟨h.1.put _ _, fun n => ?_⟩
  rw [lookT_snoc]
  by_cases e : t.1.data.toList = n
  · subst e
    rw [hn, if_pos rfl]
    exact ⟨Maps.has_put_same h.1 (by exact (True.intro : WideAt.IsKeyLit (.string t.1.data.toList))) _, J, cj, fun z => Maps.atKey_put_same h.1 (by exact (True.intro : WideAt.IsKeyLit (.string t.1.data.toList))) _ z, hr⟩
  · have hne : (Lit.string n) ≠ .string t.1.data.toList := fun e2 => e (by injection e2 with e2; exact e2.symm)
    rw [if_neg e, Option.or_none]
    have := h.2 n
    cases e3 : lookT ts n with
    | none => rw [e3] at this; exact ⟨(Maps.has_put_other hne _).trans this.1, fun z => (Maps.atKey_put_other hne _ z).trans (this.2 z)⟩
    | some t' =>
      rw [e3] at this
      obtain ⟨h1, J', cj', h2, h3⟩ := this
      exact ⟨(Maps.has_put_other hne _).trans h1, J', cj', fun z => (Maps.atKey_put_other hne _ z).trans (h2 z), h3⟩

def zeroTear : Value := .agg #[.string .empty, .int .i64 0, .slice none 0 0]
theorem zero65 (w : World) : (zeroValue 65).run Try.prog w = .ok (.agg #[.string .empty, .int .i64 0, .slice none 0 0]) w := by kernel_rfl

theorem ownsV_same {w w' : World} {k : TypeId} {R : Value → Option (DataW Value × List MemPlace)} {b n : Nat} {D : DataW Value} (h : w.ownsMap Try.prog k R b n D) (hs : w'.heap[b]? = w.heap[b]?) : w'.ownsMap Try.prog k R b n D := by
  obtain ⟨es, clock, hb, r⟩ := h
  exact ⟨es, clock, hs.trans hb, r⟩

theorem ret_bad {r k : Int} (h : r = k) : Ending.returned (.tuple #[.map none, .int .i64 k]) = .returned (.tuple #[.map none, .int .i64 r]) := by rw [h]

/-- What checkTears answers. -/
def CheckPost (w : World) (lo : Nat) (fs : List FileA) (ts : List TearA) (e : Ending) (w' : World) : Prop :=
  Below w.heap.size w w' ∧
  ((tearC fs [] ts = 0 ∧ ∃ m D, e = .returned (.tuple #[.map (some m), .int .i64 0]) ∧ w.heap.size ≤ m ∧ w'.ownsMap Try.prog 9 selfR m ts.length D ∧ TornAt w lo w.heap.size D ts) ∨
   (tearC fs [] ts ≠ 0 ∧ e = .returned (.tuple #[.map none, .int .i64 (tearC fs [] ts)])))

section
variable {w : World} {tag : Nat → Option Tag} {d : Nat} {room : Int} {fs : List FileA}
set_option maxRecDepth 100000 in
set_option maxHeartbeats 3200000 in
theorem checkTears_made (h : Holds w tag d room fs) (lo : Nat) (v : Value) (ts : List TearA) (hr : RdTearsL w lo v ts) (hl : ts.length ≤ 1048576) (hs : ∀ t ∈ ts, t.1.size ≤ 9223372036854775807) (hk : ∀ t ∈ ts, t.2.1 ≤ 9223372036854775807) :
    Calls Try.prog 46 #[.pointer (some ⟨d, 0, none⟩), v] w (CheckPost w lo fs ts) := by
  have hmm := @run_makeMap Try.prog
  have HCK := Lib.hid (check_made h [] none 0 (by simp) 0 rfl (by decide) (fun j hj => by simp at hj))
  have ha : allCan [] = true := rfl
  rw [ha, show codeOf true = 0 from rfl] at HCK
  have HH := Lib.hid h
  have HR := Lib.hid hr
  obtain ⟨A, c, rfl, hc, hx⟩ := hr
  have HX := Lib.hid hx
  have HS := Lib.hid hs
  have HK := Lib.hid hk
  obtain ⟨n, hn⟩ : ∃ n, Hid (n = ts.length) := ⟨_, Lib.hid rfl⟩
  obtain ⟨r, hrr⟩ : ∃ r, Hid (r = tearC fs [] ts) := ⟨_, Lib.hid rfl⟩
  unfold CheckPost
  rw [← hrr.out]
  rw [← hn.out] at hl hc ⊢
  have H64 : Hid (fs.length ≤ 64) := Lib.hid h.few
  clear hx ha hs hk h
  go_enter Try.func46, Try.ntmps46
  go_wp2_with fail
  (with_reducible refine HCK.out.mono ?_); rintro e w1 ⟨rfl, hb1⟩
  have HB1 := Lib.hid hb1
  have z1 := hb1.size
  have om0 := World.ownsMap_made w1 Try.prog 9 selfR
  have hb2 := hb1.alloc hb1.size (.map #[] 0)
  clear hb1
  go_wp2_with fail
  go_loopw [22] (fun i wr => ∃ (k : Nat) (D : DataW Value), k ≤ n ∧ i = .int .i64 k ∧ Below w.heap.size w wr ∧ w1.heap.size < wr.heap.size ∧ wr.ownsMap Try.prog 9 selfR w1.heap.size k D ∧ TornAt w lo w.heap.size D (ts.take k) ∧ tearC fs (ts.take k) (ts.drop k) = r) (fun i _ => n - (intOf i).toNat)
  case atStart => exact ⟨0, .map [], Nat.zero_le _, rfl, hb2, by simp, om0, TornAt.nil _ _ _, hrr.out.symm⟩
  case round =>
    obtain ⟨k, D, hk, rfl, hb, hz, hown, hta, htc⟩ := hrel
    have hbs := hb.size
    by_cases hlt : k < n
    · obtain ⟨t, ht⟩ : ∃ t, ts[k]? = some t := ⟨ts[k]'(by have := hn.out; omega), List.getElem?_eq_getElem _⟩
      obtain ⟨A', c', e', _, hx'⟩ := HR.out.below hb
      obtain ⟨ad, J, cj, e1, h0, h1, h2, h3, h4⟩ := hx' k t ht
      injection e' with e2 _ e4
      subst e2
      subst e4
      subst e1
      obtain ⟨ad', J', cj', e5, i0, i1, i2, i3, i4⟩ := HX.out k t ht
      have htm := List.mem_of_getElem? ht
      have hsz := HS.out _ htm
      have hkp := HK.out _ htm
      have etd : ts.drop k = t :: ts.drop (k + 1) := by
        have := List.drop_eq_getElem_cons (l := ts) (i := k) (by have := hn.out; omega)
        rw [List.getElem?_eq_getElem (by have := hn.out; omega)] at ht
        injection ht with ht
        rw [this, ht]
      have etk : ts.take (k + 1) = ts.take k ++ [t] := by rw [List.take_add_one, ht]; rfl
      have eJ : (Value.slice J t.2.2.length cj) = .slice J' t.2.2.length cj' := by
        injection e5 with e5
        subst e5
        have hbl : (ad.add (k * 3)).block < w.heap.size := by rw [add_block]; exact i0
        have := (hb.cell (p := ⟨(ad.add (k * 3)).block, (ad.add (k * 3)).off + 2, none⟩) hbl).trans i3
        rw [h3] at this
        injection this
      rw [etd] at htc
      obtain ⟨nm, kp, js⟩ := t
      simp only at h1 h2 h3 h4 hsz hkp eJ i4
      rw [← eJ] at i4
      have hb2' : Below wr.heap.size wr (wr.alloc (.cells #[.string nm, .int .i64 kp, .slice J js.length cj] 65)) := (Below.refl _ _).alloc (Nat.le_refl _) _
      have hB2 : Below w.heap.size w (wr.alloc (.cells #[.string nm, .int .i64 kp, .slice J js.length cj] 65)) := hb.trans (hb2'.mono hbs)
      have HF := Lib.hid (find_made (HH.out.same hB2.size fun b hbt => hB2.block b (HH.out.tags b hbt)) nm hsz)
      have hnew := heap_alloc_new wr (.cells #[.string nm, .int .i64 kp, .slice J js.length cj] 65)
      have HNEW := Lib.hid hnew
      have HB2 := Lib.hid hB2
      have HB2' := Lib.hid hb2'
      have HOWN := Lib.hid hown
      have HTA := Lib.hid hta
      have HTC := Lib.hid htc
      have HI4 := Lib.hid i4
      have ETK := Lib.hid etk
      clear hx' h0 h4 hnew hb hb2' hB2 hown hta htc ht htm etd etk eJ i0 i1 i2 i3 i4 e5
      go_wp2_with fail
      (with_reducible refine HF.out.mono ?_); rintro e w3 ⟨hb3, (⟨hc3, rfl⟩ | ⟨hc3, hl3, rfl⟩ | ⟨hc3, m3, bl, g1, g3, g4, g5, ⟨x, hl3⟩, rfl⟩)⟩
      · have er : Hid (r = 6) := Lib.hid (by rw [← HTC.out]; exact tearC_bad hc3)
        have HB3 := Lib.hid (HB2.out.trans (hb3.mono HB2.out.size))
        clear hb3 hc3
        go_wp2
        go_ret2
        exact ⟨HB3.out, .inr ⟨by rw [er.out]; decide, ret_bad er.out⟩⟩
      · have er : Hid (r = 20) := Lib.hid (by rw [← HTC.out]; exact tearC_gone hc3 hl3)
        have HB3 := Lib.hid (HB2.out.trans (hb3.mono HB2.out.size))
        clear hb3 hc3 hl3
        go_wp2
        go_ret2
        exact ⟨HB3.out, .inr ⟨by rw [er.out]; decide, ret_bad er.out⟩⟩
      · have tlt : wr.heap.size < (wr.alloc (.cells #[.string nm, .int .i64 kp, .slice J js.length cj] 65)).heap.size := by simp
        have r3 := (hb3.block _ tlt).trans HNEW.out
        have z3 : wr.heap.size < w3.heap.size := Nat.lt_of_lt_of_le tlt hb3.size
        have t0 : w3.cell? ⟨wr.heap.size, 0, none⟩ = some (.string nm) := cell_of_row w3 _ 0 _ _ (0, 0) r3
        have t1 : w3.cell? ⟨wr.heap.size, 1, none⟩ = some (.int .i64 kp) := cell_of_row w3 _ 1 _ _ (0, 0) r3
        have t2 : w3.cell? ⟨wr.heap.size, 2, none⟩ = some (.slice J js.length cj) := cell_of_row w3 _ 2 _ _ (0, 0) r3
        have HB3 := Lib.hid (HB2.out.trans (hb3.mono HB2.out.size))
        have HO3 := Lib.hid (ownsV_same HOWN.out ((hb3.block _ (by simp; omega)).trans (HB2'.out.block _ hz)))
        have hm := look_some hl3
        obtain ⟨Af, cf, k0, k1, k2, k3⟩ := (g5 _ hm).open_
        have hblt := (Array.getElem?_eq_some_iff.1 k0).1
        have k4 := (hb3.block _ hblt).trans k0
        have hxl : x.1.length ≤ 16777216 := by
          have h1 := used_mem hm
          have h2 := HH.out.fit
          have h3 := HH.out.room1
          simp only at h1
          omega
        have hx2 : x.2 ≤ x.1.length := by
          obtain ⟨_, _, _, _, _, h5⟩ := g5 _ hm
          exact h5
        cases hlt3 : lookT (ts.take k) nm.data.toList with
        | some t' =>
          obtain ⟨hh, J3, cj3, hat, _⟩ := HTA.out.here hlt3
          have HAT := Lib.hid (hat (.held zeroTear))
          have er : Hid (r = 21) := Lib.hid (by rw [← HTC.out]; exact tearC_no hc3 hl3 (by simp [hlt3]))
          clear hat g1 g3 g4 g5 hm k0 k1 k2 k3 k4 hb3 r3 hc3 hl3 hlt3
          go_wp2_with (at_lookup; refine wpList_lookup_own_ok _ rfl _ _ 87 rfl 9 65 law9 Try.underlying87 selfR (zero65 _) (.held zeroTear) [] rfl w1.heap.size k D rfl HO3.out _ _ rfl (WideMaps.keyOf_string_mk Try.underlying9 hsz) ?_; intro v ps hv; rw [HAT.out] at hv; have hv2 := selfR_inv hv; subst hv2; clear hv)
          go_ret2
          exact ⟨HB3.out.alloc HB3.out.size _, .inr ⟨by rw [er.out]; decide, ret_bad er.out⟩⟩
        | none =>
          obtain ⟨hh, hat⟩ := HTA.out.gone hlt3
          have HAT := Lib.hid (hat (.held zeroTear))
          have HCT := Lib.hid (canTear_any (bl nm.data.toList) Af x.1.length cf x.2 nm kp J js.length cj (w3.alloc (.cells #[.string .empty, .int .i64 0, .slice none 0 0] 65)) ((Below.heap_alloc w3 _ _ (Nat.lt_of_lt_of_le hblt hb3.size)).trans k4) hx2 (by omega) hkp)
          cases hbt : tearB x.1.length x.2 kp js.length with
          | false =>
            rw [hbt] at HCT
            have er : Hid (r = 21) := Lib.hid (by rw [← HTC.out]; exact tearC_no hc3 hl3 (by simp [hbt]))
            clear hat g1 g3 g4 g5 hm k0 k1 k2 k3 k4 hb3 r3 hc3 hl3 hlt3
            go_wp2_with (at_lookup; refine wpList_lookup_own_ok _ rfl _ _ 87 rfl 9 65 law9 Try.underlying87 selfR (zero65 _) (.held zeroTear) [] rfl w1.heap.size k D rfl HO3.out _ _ rfl (WideMaps.keyOf_string_mk Try.underlying9 hsz) ?_; intro v ps hv; rw [HAT.out] at hv; have hv2 := selfR_inv hv; unfold zeroTear at hv2; subst hv2; clear hv)
            (with_reducible refine HCT.out.mono ?_); rintro e w5 ⟨rfl, hb5⟩
            have HB5 := Lib.hid ((HB3.out.alloc HB3.out.size (.cells #[.string .empty, .int .i64 0, .slice none 0 0] 65)).trans (hb5.mono (by have := HB3.out.size; simp; omega)))
            clear hb5
            go_wp2
            go_ret2
            exact ⟨HB5.out, .inr ⟨by rw [er.out]; decide, ret_bad er.out⟩⟩
          | true =>
            rw [hbt] at HCT
            have er : Hid (tearC fs (ts.take (k + 1)) (ts.drop (k + 1)) = r) := Lib.hid (by rw [← HTC.out, ETK.out]; exact (tearC_yes hc3 hl3 hlt3 hbt).symm)
            have HR3 := Lib.hid r3
            have HL3 := Lib.hid hlt3
            clear hat g1 g3 g4 g5 hm k0 k1 k2 k3 k4 hb3 r3 hc3 hl3 hlt3
            go_wp2_with (at_lookup; refine wpList_lookup_own_ok _ rfl _ _ 87 rfl 9 65 law9 Try.underlying87 selfR (zero65 _) (.held zeroTear) [] rfl w1.heap.size k D rfl HO3.out _ _ rfl (WideMaps.keyOf_string_mk Try.underlying9 hsz) ?_; intro v ps hv; rw [HAT.out] at hv; have hv2 := selfR_inv hv; unfold zeroTear at hv2; subst hv2; clear hv)
            (with_reducible refine HCT.out.mono ?_); rintro e w5 ⟨rfl, hb5⟩
            have HB5 := Lib.hid ((HB3.out.alloc HB3.out.size (.cells #[.string .empty, .int .i64 0, .slice none 0 0] 65)).trans (hb5.mono (by have := HB3.out.size; simp; omega)))
            have q5 : ∀ b, b < w3.heap.size → w5.heap[b]? = w3.heap[b]? := fun b hbb => (hb5.block b (by simp; omega)).trans (Below.heap_alloc w3 _ b hbb)
            have r5 := (q5 _ z3).trans HR3.out
            have s0 : w5.cell? ⟨wr.heap.size, 0, none⟩ = some (.string nm) := cell_of_row w5 _ 0 _ _ (0, 0) r5
            have s1 : w5.cell? ⟨wr.heap.size, 1, none⟩ = some (.int .i64 kp) := cell_of_row w5 _ 1 _ _ (0, 0) r5
            have s2 : w5.cell? ⟨wr.heap.size, 2, none⟩ = some (.slice J js.length cj) := cell_of_row w5 _ 2 _ _ (0, 0) r5
            have o5 := ownsV_same HO3.out (q5 _ (by omega))
            have z5 : wr.heap.size < w5.heap.size := by have := hb5.size; simp at this; omega
            clear q5 r5 hb5 t0 t1 t2
            go_wp2_with (at_mapUpdate; refine wpList_mapUpdate_own _ rfl _ _ _ 87 rfl 9 65 law9 Try.underlying87 selfR w1.heap.size k _ rfl o5 (by unfold maxLen; omega) _ _ _ rfl rfl (WideMaps.keyOf_string_mk Try.underlying9 hsz) (.held (.agg #[.string nm, .int .i64 kp, .slice J js.length cj])) [] rfl ?_; intro w6 hown6 hg6)
            have HB6 := Lib.hid (HB5.out.grown hg6 HB5.out.size (fun g hg => by injection hg with hg; omega))
            have HT6 : Hid (TornAt w lo w.heap.size (D.put (.string nm.data.toList) (.held (.agg #[.string nm, .int .i64 kp, .slice J js.length cj]))) (ts.take (k + 1))) := Lib.hid (by
              rw [ETK.out]
              exact HTA.out.snoc (t := (nm, kp, js)) HL3.out HI4.out)
            have HO6 := Lib.hid hown6
            have z6 : w1.heap.size < w6.heap.size := Nat.lt_of_lt_of_le (by omega) hg6.size
            clear hown6 hg6
            go_wp2
            go_roundw
            case rel => exact ⟨k + 1, _, by omega, by go_num, HB6.out, z6, HO6.out, HT6.out, er.out⟩
            case measure => simp [intOf]; omega
    · obtain rfl : k = n := by omega
      have e := hn.out
      have etk : ts.take k = ts := List.take_of_length_le (by omega)
      have edr : ts.drop k = [] := List.drop_of_length_le (by omega)
      have er : Hid (r = 0) := Lib.hid (by rw [← htc, edr]; rfl)
      rw [etk] at hta
      have HP := Lib.hid (And.intro hb (And.intro hown hta))
      clear hb hown hta htc
      go_wp2
      go_ret2
      exact ⟨HP.out.1, .inl ⟨er.out, _, _, rfl, z1, HP.out.2.1, HP.out.2.2⟩⟩
end
end Go.Proofs.Ytaignkjcogmcjaa
