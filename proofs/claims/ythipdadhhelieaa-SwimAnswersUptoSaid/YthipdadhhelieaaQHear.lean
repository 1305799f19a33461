/- Hear: a list of nodes that are alive. -/
import Derived.Test.YthipdadhhelieaaQIdle
namespace Go.Proofs.Ythipdadhhelieaa
open Go.RowKit Go.Sort Go.BigFrame

/-- Each node that is known is alive, as it began. -/
def AllAlive (t : TabA) : Prop := ∀ k, k < 8 → t.nd k = noSt ∨ ∃ s, t.nd k = (((k : Int), 0, 1), s)
abbrev pk (q : Nat) : PeerA := ((q : Int), 0, 1)
theorem alive_takes {t : TabA} (h : AllAlive t) {q : Nat} (hq : q < 8) : t.takes q (pk q) = !t.knows q := by
  have hm : mayP (pk q) = true := by unfold mayP isNodeB; simp; omega
  unfold TabA.takes
  rw [hm]
  rcases h q hq with e | ⟨s, e⟩
  · have : t.knows q = false := by unfold TabA.knows; rw [e]; rfl
    rw [this]; rfl
  · have : t.knows q = true := by unfold TabA.knows; rw [e]; simp
    rw [this, e]
    simp [greaterB]
theorem alive_hear {t : TabA} (h : AllAlive t) {q : Nat} (hq : q < 8) : AllAlive (t.hear q (pk q)) := by
  intro k hk
  unfold TabA.hear
  split
  · rw [setNd_nd _ hq _ hk]
    by_cases e : k = q
    · subst e; rw [if_pos rfl]; exact .inr ⟨_, rfl⟩
    · rw [if_neg e]; exact h k hk
  · exact h k hk
theorem knows_hear {t : TabA} {q : Nat} (hq : q < 8) {k : Nat} (hk : k < 8) (h : t.knows k = true) : (t.hear q (pk q)).knows k = true := by
  unfold TabA.hear
  split
  · unfold TabA.knows
    rw [setNd_nd _ hq _ hk]
    by_cases e : k = q
    · rw [if_pos e]; simp
    · rw [if_neg e]; exact h
  · exact h
theorem hear_keeps (t : TabA) (q : Nat) : (t.hear q (pk q)).self = t.self ∧ (t.hear q (pk q)).now = t.now ∧ (t.hear q (pk q)).opened = t.opened ∧ (t.hear q (pk q)).last = t.last := by
  unfold TabA.hear
  split
  · exact ⟨setNd_self _ _ _, setNd_now _ _ _, setNd_opened _ _ _, setNd_last _ _ _⟩
  · exact ⟨rfl, rfl, rfl, rfl⟩
theorem hear_timed {t : TabA} (h : t.timed) {q : Nat} (hq : q < 8) : (t.hear q (pk q)).timed := by
  unfold TabA.hear
  split
  · exact setNd_timed h hq _
  · exact h
def TabA.hearL (t : TabA) (qs : List Nat) : TabA := qs.foldl (fun t q => t.hear q (pk q)) t
theorem hearL_snoc (t : TabA) (qs : List Nat) (q : Nat) : t.hearL (qs ++ [q]) = (t.hearL qs).hear q (pk q) := by unfold TabA.hearL; rw [List.foldl_append]; rfl
theorem hearL_all {t : TabA} (ha : AllAlive t) (hm : t.timed) {ks : Nat} (hks : ks < 8) (hk : t.knows ks = true) : ∀ (qs : List Nat), (∀ q ∈ qs, q < 8) → AllAlive (t.hearL qs) ∧ (t.hearL qs).timed ∧ (t.hearL qs).knows ks = true ∧ (t.hearL qs).self = t.self ∧ (t.hearL qs).now = t.now ∧ (t.hearL qs).opened = t.opened ∧ (t.hearL qs).last = t.last := by
  intro qs
  induction qs generalizing t with
  | nil => intro _; exact ⟨ha, hm, hk, rfl, rfl, rfl, rfl⟩
  | cons q r ih =>
    intro hq
    have hq8 := hq q List.mem_cons_self
    have h1 := ih (alive_hear ha hq8) (hear_timed hm hq8) (knows_hear hq8 hks hk) fun x hx => hq x (List.mem_cons_of_mem _ hx)
    have h2 := hear_keeps t q
    exact ⟨h1.1, h1.2.1, h1.2.2.1, h1.2.2.2.1.trans h2.1, h1.2.2.2.2.1.trans h2.2.1, h1.2.2.2.2.2.1.trans h2.2.2.1, h1.2.2.2.2.2.2.trans h2.2.2.2⟩

theorem hearA_any (g : Nat) (t : TabA) (ha : AllAlive t) (ks : Nat) (hself : t.self = (ks : Int)) (hkn : t.knows ks = true) (q : Nat) (hq : q < 8) (w : World) (h : TabAt w g t) :
    Calls Try.prog 42 #[.pointer (some ⟨g, 0, none⟩), .agg #[.int .i64 (q : Int), .int .i64 0, .int .i64 1]] w fun e w' => ∃ A n c ds, e = .returned (.slice A n c) ∧ n = ds.length ∧ n ≤ 1 ∧ RdDA w' w'.heap.size A ds ∧ TabAt w' g (t.hear q (pk q)) ∧ Turns g w.heap.size w w' := by
  have htk := alive_takes ha hq
  cases hk : t.knows q
  · rw [hk] at htk
    have hqs : (pk q).1 ≠ t.self := by
      rw [hself]
      show (q : Int) ≠ (ks : Int)
      intro e
      have e : q = ks := by omega
      rw [e, hkn] at hk
      cases hk
    refine (hear_taken g t q hq (pk q) rfl htk hqs w h).mono fun e w' hp => ?_
    obtain ⟨b, _, he, ho, ht, hg⟩ := hp
    obtain ⟨A, c, e2, _, hr⟩ := ho.rd
    have hh : t.hear q (pk q) = t.setNd q (pk q, t.now) := by unfold TabA.hear; rw [htk]; rfl
    rw [hh]
    injection e2 with e3 e4 e5
    subst e3
    exact ⟨_, 1, _, [pk q], he, rfl, Nat.le_refl _, hr, ht, hg⟩
  · rw [hk] at htk
    refine (hear_not g t q hq (pk q) rfl htk w h).mono fun e w' hp => ?_
    obtain ⟨he, hb⟩ := hp
    have hh : t.hear q (pk q) = t := by unfold TabA.hear; rw [htk]; rfl
    rw [hh]
    exact ⟨none, 0, 0, [], he, rfl, by omega, fun j d hd => by simp at hd, h.below hb h.lt, Turns.of hb⟩

set_option maxRecDepth 100000 in
set_option maxHeartbeats 3200000 in
theorem hearL_any (g base : Nat) (hgb : g < base) (t : TabA) (ks : Nat) (hks : ks < 8) (hself : t.self = (ks : Int)) (hkn : t.knows ks = true) (ha : AllAlive t) (now : Int) (htm : (t.pass now).timed) (lv : Value) (qs : List Nat) (hq8 : ∀ q ∈ qs, q < 8) (hl : qs.length ≤ 1048576) (w : World) (h : TabAt w g t) (ho : OwnD 38 w base lv (qs.map pk)) :
    Calls Try.prog 15 #[.pointer (some ⟨g, 0, none⟩), lv, .int .i64 now] w fun e w' => (∃ v, e = .returned v) ∧ TabAt w' g ((t.pass now).hearL qs) ∧ Turns g w.heap.size w w' := by
  obtain ⟨AL, cL, rfl⟩ := ownD_slice ho
  obtain ⟨N, hN⟩ : ∃ N, Hid (N = qs.length) := ⟨_, Lib.hid rfl⟩
  have hN2 : (qs.map pk).length = N := by rw [hN.out]; simp
  rw [hN2] at ho ⊢
  have hNl : N ≤ 1048576 := by rw [hN.out]; exact hl
  have H0 : Hid (Calls Try.prog 40 #[.pointer (some ⟨g, 0, none⟩)] w fun e w' => e = .returned (.bool true) ∧ w = w') := Lib.hid (by have := made_any g t ks hks hself w h; rw [hkn] at this; exact this)
  have H1 := Lib.hid (pass_any g t now w h)
  obtain ⟨t1, ht1⟩ : ∃ t1, Hid (t1 = t.pass now) := ⟨_, Lib.hid rfl⟩
  have HA1 : Hid (AllAlive t1) := Lib.hid (by rw [ht1.out]; intro k hk; rw [pass_nd']; exact ha k hk)
  have HK1 : Hid (t1.knows ks = true) := Lib.hid (by rw [ht1.out]; unfold TabA.knows at hkn ⊢; rw [pass_nd']; exact hkn)
  have HS1 : Hid (t1.self = (ks : Int)) := Lib.hid (by rw [ht1.out]; exact hself)
  rw [← ht1.out] at H1 htm ⊢
  have HTM := Lib.hid htm
  have HQ := Lib.hid hq8
  have HO := Lib.hid ho
  have HGL := Lib.hid h.lt
  clear h ho hself hkn ha htm hq8 hl hN2
  go_enter Try.func15, Try.ntmps15
  go_wp2_with (first
    | (go_at_call 40
       (with_reducible refine H0.out.mono ?_); rintro e w1 ⟨rfl, rfl⟩)
    | (go_at_call 41
       (with_reducible refine H1.out.mono ?_); rintro e w1 ⟨rfl, hx1, hg1⟩
       have HT1 := Lib.hid hx1
       have HG1 := Lib.hid hg1
       clear hx1 hg1))
  have HT10 : Hid (TabAt w1 g (t1.hearL (qs.take 0))) := Lib.hid HT1.out
  have HD0 : Hid (OwnD 38 w1 w.heap.size (.slice none 0 0) []) := Lib.hid (ownD_nil _ _ _)
  go_loopw [18, 7] (fun i x wr => ∃ (k n : Nat) (A : Option Addr) (c : Nat) (ds : List PeerA), k ≤ N ∧ i = .int .i64 k ∧ x = .slice A n c ∧ n ≤ k ∧ Hid (n = ds.length) ∧ Hid (OwnD 38 wr w.heap.size (.slice A n c) ds) ∧ Hid (TabAt wr g (t1.hearL (qs.take k))) ∧ Hid (Turns g w.heap.size w wr)) (fun i _ _ => N - (intOf i).toNat)
  case atStart => exact ⟨0, 0, none, 0, [], Nat.zero_le _, rfl, rfl, by omega, Lib.hid rfl, HD0, HT10, HG1⟩
  case round =>
    obtain ⟨k, n, A, c, ds, hk, rfl, rfl, hnk, HN, HD, HT, HG⟩ := hrel
    by_cases hlt : k < N
    · obtain ⟨q, hq⟩ : ∃ q, qs[k]? = some q := ⟨qs[k]'(by rw [← hN.out]; exact hlt), List.getElem?_eq_getElem _⟩
      have hq8 : q < 8 := HQ.out q (List.mem_of_getElem? hq)
      have HO2 : Hid (OwnD 38 wr base (.slice AL N cL) (qs.map pk)) := Lib.hid (row_turn HO.out (HG.out) hgb)
      have hqm : (qs.map pk)[k]? = some (pk q) := by rw [List.getElem?_map, hq]; rfl
      obtain ⟨A3, c3, e3, _, hr3⟩ := HO2.out.rd
      injection e3 with e3 e4 e5
      subst e3
      obtain ⟨ad, rfl, hadl, k0, k1, k2⟩ := hr3 k (pk q) hqm
      have HTK : Hid (t1.hearL (qs.take (k + 1)) = (t1.hearL (qs.take k)).hear q (pk q)) := Lib.hid (by rw [List.take_add_one, hq]; exact hearL_snoc _ _ _)
      have HAL := Lib.hid (hearL_all HA1.out HTM.out hks HK1.out (qs.take k) fun x hx => HQ.out x (List.mem_of_mem_take hx))
      obtain ⟨V, hV⟩ : ∃ V, Hid (V = wr.alloc (.cells #[.int .i64 (q : Int), .int .i64 0, .int .i64 1] 38)) := ⟨_, Lib.hid rfl⟩
      have hbV : Below wr.heap.size wr V := by rw [hV.out]; exact (Below.refl _ _).alloc (Nat.le_refl _) _
      have v0 : V.cell? ⟨wr.heap.size, 0, none⟩ = some (.int .i64 (q : Int)) := by rw [hV.out]; exact box_cell _ _ _ 0
      have v1 : V.cell? ⟨wr.heap.size, 1, none⟩ = some (.int .i64 0) := by rw [hV.out]; exact box_cell _ _ _ 1
      have v2 : V.cell? ⟨wr.heap.size, 2, none⟩ = some (.int .i64 1) := by rw [hV.out]; exact box_cell _ _ _ 2
      have HTV := Lib.hid (HT.out.below hbV HT.out.lt)
      have HGV : Hid (Turns g w.heap.size w V) := Lib.hid (HG.out.trans ((Turns.of hbV).mono HG.out.size))
      have HDV : Hid (OwnD 38 V w.heap.size (.slice A n c) ds) := Lib.hid (HD.out.below hbV)
      have HH := Lib.hid (hearA_any g (t1.hearL (qs.take k)) HAL.out.1 ks (HAL.out.2.2.2.1.trans HS1.out) HAL.out.2.2.1 q hq8 V HTV.out)
      simp only at k0 k1 k2
      clear hq hqm hr3 hbV hadl e4 e5
      go_upto_region 8 with fail
      rw [← hV.out]
      clear k0 k1 k2
      go_wp2_with (first
        | (go_at_call 42
           (with_reducible refine HH.out.mono ?_); rintro e w3 ⟨A3, n3, c3, ds3, rfl, hn3, hn31, hr3, ht3, hg3⟩
           have HN3 := Lib.hid hn3
           have HR3 := Lib.hid hr3
           have HT3 : Hid (TabAt w3 g (t1.hearL (qs.take (k + 1)))) := Lib.hid (by rw [HTK.out]; exact ht3)
           have HG3 : Hid (Turns g w.heap.size w w3) := Lib.hid (HGV.out.trans (hg3.mono HGV.out.size))
           have HD3 : Hid (OwnD 38 w3 w.heap.size (.slice A n c) ds) := Lib.hid (row_turn HDV.out hg3 HGL.out)
           have HZ3 : Hid (w.heap.size ≤ w3.heap.size) := Lib.hid HG3.out.size
           have HLE : Hid (ds.length + ds3.length ≤ 1099511627776) := Lib.hid (by have := HN.out; omega)
           clear hn3 hr3 ht3 hg3)
        | (at_builtin; go_must (refine wpList_append_dots Try.underlying31 infoPeer _ rfl (.tmp 22) (.tmp 25) rfl (by rfl) HD3.out (by rfl) HN3.out HR3.out HLE.out HZ3.out ?_)))
      intro v5 w5 ho5 hg5 _
      obtain ⟨A5, c5, rfl⟩ := ownD_slice ho5
      have HN5 : Hid ((ds ++ ds3).length = n + n3) := Lib.hid (by rw [List.length_append, HN.out, HN3.out])
      rw [HN5.out] at ho5 ⊢
      have HN6 : Hid (n + n3 = (ds ++ ds3).length) := Lib.hid HN5.out.symm
      have HD5 := Lib.hid ho5
      have HT5 := Lib.hid (tab_grown HT3.out HGL.out HD3.out hg5)
      have HG5 : Hid (Turns g w.heap.size w w5) := Lib.hid (turns_grown HG3.out (Nat.le_refl _) HD3.out hg5)
      clear ho5 hg5
      go_wp2
      go_roundw
      case rel => exact ⟨k + 1, n + n3, A5, c5, ds ++ ds3, by omega, by go_num, rfl, by omega, HN6, HD5, HT5, HG5⟩
      case measure => simp [intOf]; omega
    · obtain rfl : k = N := by omega
      have HTF : Hid (TabAt wr g (t1.hearL qs)) := Lib.hid (by have := HT.out; rwa [hN.out, List.take_length] at this)
      go_wp2
      go_ret
      exact ⟨⟨_, rfl⟩, HTF.out, HG.out⟩
end Go.Proofs.Ythipdadhhelieaa
