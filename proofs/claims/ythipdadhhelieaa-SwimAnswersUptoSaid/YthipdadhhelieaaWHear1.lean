/- Hear of one rumour of another node; Peers. -/
import Derived.Test.YthipdadhhelieaaWHearG
namespace Go.Proofs.Ythipdadhhelieaa
open Go.RowKit Go.Sort Go.BigFrame

/-- What a rumour of another node makes of a table. -/
def TabA.hear (t : TabA) (k : Nat) (p : PeerA) : TabA := if t.takes k p then t.setNd k (p, t.now) else t
theorem pass_nd (t : TabA) (n : Int) (k : Nat) : (t.pass n).nd k = t.nd k := by
  unfold TabA.pass TabA.nd; rfl
theorem pass_takes (t : TabA) (n : Int) (k : Nat) (p : PeerA) : (t.pass n).takes k p = t.takes k p := by
  unfold TabA.takes TabA.knows; rw [pass_nd]

set_option maxRecDepth 100000 in
set_option maxHeartbeats 3200000 in
theorem hear1_any (g b : Nat) (t : TabA) (k : Nat) (hk : k < 8) (p : PeerA) (hp : p.1 = (k : Int)) (hs : p.1 ≠ t.self) (ks : Nat) (hks : ks < 8) (hself : t.self = (ks : Int)) (hkn : t.knows ks = true) (now : Int) (w : World) (h : TabAt w g t)
    (hr : w.heap[b]? = some (.cells #[.int .i64 p.1, .int .i64 p.2.1, .int .i64 p.2.2] 38 (0, 0))) (hbg : b ≠ g) :
    Calls Try.prog 15 #[.pointer (some ⟨g, 0, none⟩), .slice (some ⟨b, 0, none⟩) 1 1, .int .i64 now] w fun e w' => (∃ v, e = .returned v) ∧ TabAt w' g ((t.pass now).hear k p) ∧ Turns g w.heap.size w w' := by
  have HR := Lib.hid hr
  have HBG := Lib.hid hbg
  have hbl : b < w.heap.size := (Array.getElem?_eq_some_iff.1 hr).1
  have H0 : Hid (Calls Try.prog 40 #[.pointer (some ⟨g, 0, none⟩)] w fun e w' => e = .returned (.bool true) ∧ w = w') := Lib.hid (by have := made_any g t ks hks hself w h; rw [hkn] at this; exact this)
  have H1 := Lib.hid (pass_any g t now w h)
  obtain ⟨T, hT⟩ : ∃ T, Hid (T = t.pass now) := ⟨_, Lib.hid rfl⟩
  have hsT : p.1 ≠ T.self := by rw [hT.out]; exact hs
  rw [← hT.out] at H1 ⊢
  obtain ⟨T', hT'⟩ : ∃ T', Hid (T' = T.hear k p) := ⟨_, Lib.hid rfl⟩
  rw [← hT'.out]
  have HT2 : T.takes k p = true → ∀ w', TabAt w' g T → Hid (Calls Try.prog 42 #[.pointer (some ⟨g, 0, none⟩), .agg #[.int .i64 p.1, .int .i64 p.2.1, .int .i64 p.2.2]] w' fun e w'' => ∃ b1, w'.heap.size ≤ b1 ∧ e = .returned (.slice (some ⟨b1, 0, none⟩) 1 1) ∧ OwnD 38 w'' w'.heap.size (.slice (some ⟨b1, 0, none⟩) 1 1) [p] ∧ TabAt w'' g T' ∧ Turns g w'.heap.size w' w'') := fun hx w' hw => Lib.hid (by
    have e : T' = T.setNd k (p, T.now) := by rw [hT'.out]; unfold TabA.hear; rw [if_pos hx]
    rw [e]; exact hear_taken g T k hk p hp hx hsT w' hw)
  have HN2 : T.takes k p = false → ∀ w', TabAt w' g T → Hid (Calls Try.prog 42 #[.pointer (some ⟨g, 0, none⟩), .agg #[.int .i64 p.1, .int .i64 p.2.1, .int .i64 p.2.2]] w' fun e w'' => e = .returned (.slice none 0 0) ∧ Below w'.heap.size w' w'') := fun hx w' hw => Lib.hid (hear_not g T k hk p hp hx w' hw)
  have HN3 : T.takes k p = false → T' = T := fun hx => by rw [hT'.out]; unfold TabA.hear; rw [if_neg (by rw [hx]; simp)]
  obtain ⟨tk, htk⟩ : ∃ tk, Hid (tk = T.takes k p) := ⟨_, Lib.hid rfl⟩
  rw [← htk.out] at HT2 HN2 HN3
  clear h hr hbg hkn hself hks hs hsT hp hk htk
  go_enter Try.func15, Try.ntmps15
  go_upto_region 4 with (first
    | (go_at_call 40
       (with_reducible refine H0.out.mono ?_); rintro e w1 ⟨rfl, rfl⟩)
    | (go_at_call 41
       (with_reducible refine H1.out.mono ?_); rintro e w1 ⟨rfl, ht1, hg1⟩))
  have HG1 := Lib.hid hg1
  have HT1 := Lib.hid ht1
  have hr1 := (hg1.block b hbl HBG.out).trans HR.out
  have HR1 := Lib.hid hr1
  clear ht1 hg1 hr1 H0 H1
  go_wp2
  go_loopw [18, 7] (fun i x wr => (i = .int .i64 0 ∧ x = .slice none 0 0 ∧ Hid (wr = w1)) ∨ (i = .int .i64 1 ∧ (∃ A n c, x = .slice A n c) ∧ Hid (TabAt wr g T' ∧ Turns g w.heap.size w wr))) (fun i _ _ => 1 - (intOf i).toNat)
  case atStart => exact .inl ⟨rfl, rfl, Lib.hid rfl⟩
  case round =>
    rcases hrel with ⟨rfl, rfl, hwr⟩ | ⟨rfl, ⟨A, n, c, rfl⟩, hx⟩
    · obtain ⟨V, hV⟩ : ∃ V, Hid (V = wr.alloc (.cells #[.int .i64 p.1, .int .i64 p.2.1, .int .i64 p.2.2] 38)) := ⟨_, Lib.hid rfl⟩
      have HWR : Hid (TabAt wr g T ∧ Turns g w.heap.size w wr ∧ wr.heap[b]? = some (.cells #[.int .i64 p.1, .int .i64 p.2.1, .int .i64 p.2.2] 38 (0, 0))) := Lib.hid (by rw [hwr.out]; exact ⟨HT1.out, HG1.out, HR1.out⟩)
      have hBV : Below wr.heap.size wr V := by rw [hV.out]; exact (Below.refl _ _).alloc (Nat.le_refl _) _
      have HTV : Hid (TabAt V g T) := Lib.hid (HWR.out.1.below hBV HWR.out.1.lt)
      have k0 : wr.cell? ⟨b, 0, none⟩ = some (.int .i64 p.1) := cell_of_row _ _ 0 _ _ (0, 0) HWR.out.2.2
      have k1 : wr.cell? ⟨b, 1, none⟩ = some (.int .i64 p.2.1) := cell_of_row _ _ 1 _ _ (0, 0) HWR.out.2.2
      have k2 : wr.cell? ⟨b, 2, none⟩ = some (.int .i64 p.2.2) := cell_of_row _ _ 2 _ _ (0, 0) HWR.out.2.2
      have v0 : V.cell? ⟨wr.heap.size, 0, none⟩ = some (.int .i64 p.1) := by rw [hV.out]; exact box_cell _ _ _ 0
      have v1 : V.cell? ⟨wr.heap.size, 1, none⟩ = some (.int .i64 p.2.1) := by rw [hV.out]; exact box_cell _ _ _ 1
      have v2 : V.cell? ⟨wr.heap.size, 2, none⟩ = some (.int .i64 p.2.2) := by rw [hV.out]; exact box_cell _ _ _ 2
      have HGV : Hid (Turns g w.heap.size w V) := Lib.hid (HWR.out.2.1.trans ((Turns.of hBV).mono HWR.out.2.1.size))
      clear hBV hwr
      go_upto_region 8 with fail
      rw [← hV.out]
      clear k0 k1 k2
      cases tk with
      | true =>
        have hH := HT2 rfl V HTV.out
        clear HT2 HN2 HN3
        go_wp2_with (first
          | (go_at_call 42
             (with_reducible refine hH.out.mono ?_); rintro e w3 ⟨b1, hb1, rfl, ho3, ht3, hg3⟩
             obtain ⟨A3, c3, he3, _, hr3⟩ := ho3.rd
             obtain ⟨rfl, _, rfl⟩ : A3 = some ⟨b1, 0, none⟩ ∧ 1 = 1 ∧ c3 = 1 := by injection he3 with e1 e2 e3; exact ⟨e1.symm, rfl, e3.symm⟩
             have HR3 := Lib.hid hr3
             have HT3 := Lib.hid ht3
             have HG3 := Lib.hid hg3
             have hz3 : w3.heap.size ≤ w3.heap.size := Nat.le_refl _
             clear ho3 hr3 ht3 hg3 he3)
          | (at_builtin; go_must (refine wpList_append_dots Try.underlying31 infoPeer _ rfl (.tmp 22) (.tmp 25) rfl (by rfl) (ownD_nil 38 w3 w3.heap.size) (by rfl) (by rfl) HR3.out (by simp) hz3 ?_)))
        intro v5 w5 ho5 hg5 _
        have hT5 : TabAt w5 g T' := HT3.out.keep (hg5.block g HT3.out.lt (by simp [_root_.Go.Value.ownBlock]))
        have hG5 : Turns g w.heap.size w w5 := (HGV.out.trans (HG3.out.mono HGV.out.size)).trans ((Turns.of (Below.of_grown hg5 (by rfl) (Nat.le_refl _))).mono (Nat.le_trans HGV.out.size HG3.out.size))
        obtain ⟨A5, c5, hv5⟩ := ownD_slice ho5
        have hv5 : v5 = .slice A5 1 c5 := hv5
        subst hv5
        clear hg5 ho5
        go_wp2
        go_roundw
        case rel => exact .inr ⟨by first | rfl | go_num, ⟨A5, 1, c5, rfl⟩, Lib.hid ⟨hT5, hG5⟩⟩
        case measure => simp [intOf]
      | false =>
        have hH := HN2 rfl V HTV.out
        have hE := HN3 rfl
        have HE := Lib.hid hE
        clear HT2 HN2 HN3 hE
        go_wp2_with (first
          | (go_at_call 42
             (with_reducible refine hH.out.mono ?_); rintro e w3 ⟨rfl, hb3⟩
             have HR3 : Hid (RdDA w3 w3.heap.size none []) := Lib.hid (fun j d hd => by simp at hd)
             have HT3 := Lib.hid (HTV.out.below hb3 HTV.out.lt)
             have HG3 := Lib.hid (HGV.out.trans ((Turns.of hb3).mono HGV.out.size))
             have hz3 : w3.heap.size ≤ w3.heap.size := Nat.le_refl _
             clear hb3)
          | (at_builtin; go_must (refine wpList_append_dots Try.underlying31 infoPeer _ rfl (.tmp 22) (.tmp 25) rfl (by rfl) (ownD_nil 38 w3 w3.heap.size) (by rfl) (by rfl) HR3.out (by decide) hz3 ?_)))
        intro v5 w5 ho5 hg5 _
        have hT5 : TabAt w5 g T' := by rw [HE.out]; exact HT3.out.keep (hg5.block g HT3.out.lt (by simp [_root_.Go.Value.ownBlock]))
        have hG5 : Turns g w.heap.size w w5 := HG3.out.trans ((Turns.of (Below.of_grown hg5 (by rfl) (Nat.le_refl _))).mono HG3.out.size)
        obtain ⟨A5, c5, hv5⟩ := ownD_slice ho5
        have hv5 : v5 = .slice A5 0 c5 := hv5
        subst hv5
        clear hg5 ho5
        go_wp2
        go_roundw
        case rel => exact .inr ⟨by first | rfl | go_num, ⟨A5, 0, c5, rfl⟩, Lib.hid ⟨hT5, hG5⟩⟩
        case measure => simp [intOf]
    · go_wp2
      go_ret
      exact ⟨⟨_, rfl⟩, hx.out.1, hx.out.2⟩

/-- Those that are known, of the first k nodes. -/
def TabA.peers (t : TabA) (k : Nat) : List PeerA := ((List.range k).filter t.knows).map fun j => (t.nd j).1
theorem peers_succ (t : TabA) (k : Nat) : t.peers (k + 1) = t.peers k ++ (if t.knows k then [(t.nd k).1] else []) := by
  unfold TabA.peers
  rw [List.range_succ, List.filter_append, List.map_append]
  by_cases h : t.knows k = true
  · rw [if_pos h]; simp [h]
  · rw [if_neg h]; simp [h]
theorem peers_len (t : TabA) (k : Nat) : (t.peers k).length ≤ k := by
  unfold TabA.peers
  rw [List.length_map]
  exact Nat.le_trans (List.length_filter_le _ _) (by rw [List.length_range]; exact Nat.le_refl _)

set_option maxRecDepth 100000 in
set_option maxHeartbeats 3200000 in
theorem peers_any (g : Nat) (t : TabA) (ks : Nat) (hks : ks < 8) (hself : t.self = (ks : Int)) (hkn : t.knows ks = true) (w : World) (h : TabAt w g t) :
    Calls Try.prog 27 #[.pointer (some ⟨g, 0, none⟩)] w fun e w' => ∃ v, e = .returned v ∧ OwnD 38 w' w.heap.size v (t.peers 8) ∧ Below w.heap.size w w' := by
  have H0 : Hid (Calls Try.prog 40 #[.pointer (some ⟨g, 0, none⟩)] w fun e w' => e = .returned (.bool true) ∧ w = w') := Lib.hid (by have := made_any g t ks hks hself w h; rw [hkn] at this; exact this)
  have HT := Lib.hid h
  have hK : ∀ (k : Nat), k < 8 → ∀ w', TabAt w' g t → Hid (Calls Try.prog 62 #[.pointer (some ⟨g, 0, none⟩), .int .i64 (k : Int)] w' fun e w'' => e = .returned (.bool (t.knows k)) ∧ w' = w'') := fun k hk w' hT => Lib.hid (knows_any g t k hk w' hT)
  clear h hkn hself hks
  go_enter Try.func27, Try.ntmps27
  go_wp2_with ((go_at_call 40); (with_reducible refine H0.out.mono ?_); rintro e w1 ⟨rfl, rfl⟩)
  go_loopw [8, 3] (fun i x wr => ∃ (k : Nat) (v : Value), k ≤ 8 ∧ v = x ∧ i = .int .i64 k ∧ Hid (OwnD 38 wr w.heap.size v (t.peers k)) ∧ Hid (Below w.heap.size w wr)) (fun i _ _ => 8 - (intOf i).toNat)
  case atStart => exact ⟨0, _, Nat.zero_le _, rfl, rfl, Lib.hid (ownD_nil _ _ _), Lib.hid (Below.refl _ _)⟩
  case round =>
    obtain ⟨k, v, hk, rfl, rfl, HO, HB⟩ := hrel
    by_cases hlt : k < 8
    · have htr := HT.out.below HB.out HT.out.lt
      have HK := hK k hlt wr htr
      have HS := Lib.hid (peers_succ t k)
      have HL := Lib.hid (peers_len t k)
      obtain ⟨n0, n1, n2, _⟩ := htr.node hlt
      have b0 : (0 : Int) ≤ (k : Int) := by omega
      have b1 : (k : Int) < 8 := by omega
      cases hkk : t.knows k with
      | false =>
        rw [hkk] at HK
        have HO2 : Hid (OwnD 38 wr w.heap.size v (t.peers (k + 1))) := Lib.hid (by rw [HS.out, hkk]; simpa using HO.out)
        clear hkk htr n0 n1 n2
        go_wp2_with ((go_at_call 62); (with_reducible refine HK.out.mono ?_); rintro e w2 ⟨rfl, rfl⟩)
        go_roundw
        case rel => exact ⟨k + 1, _, by omega, rfl, by go_num, HO2, HB⟩
        case measure => simp [intOf]; omega
      | true =>
        rw [hkk] at HK
        have HS2 : Hid (t.peers (k + 1) = t.peers k ++ [(t.nd k).1]) := Lib.hid (by rw [HS.out, hkk]; rfl)
        generalize (t.nd k).1 = s at *
        have hbA : Below wr.heap.size wr (wr.alloc (.cells #[.int .i64 s.1, .int .i64 s.2.1, .int .i64 s.2.2] 38)) := (Below.refl _ _).alloc (Nat.le_refl _) _
        have HOA := Lib.hid (HO.out.below hbA)
        have HR1 : Hid (RdDA (wr.alloc (.cells #[.int .i64 s.1, .int .i64 s.2.1, .int .i64 s.2.2] 38)) (wr.heap.size + 1) (some ⟨wr.heap.size, 0, none⟩) [s]) := Lib.hid (fun j x hj => by
          match j, hj with
          | 0, hj =>
            have e : s = x := by simpa using hj
            subst e
            exact ⟨_, rfl, Nat.lt_succ_self _, box_cell _ _ _ 0, box_cell _ _ _ 1, box_cell _ _ _ 2⟩
          | j + 1, hj => simp at hj)
        have HBA : Hid (Below w.heap.size w (wr.alloc (.cells #[.int .i64 s.1, .int .i64 s.2.1, .int .i64 s.2.2] 38))) := Lib.hid (HB.out.trans (hbA.mono HB.out.size))
        have h63 : (t.peers k).length + [s].length ≤ 1099511627776 := by have := HL.out; simp only [List.length_cons, List.length_nil]; omega
        have hzz := HBA.out.size
        clear hkk htr hbA
        go_wp2_with (first
          | (go_at_call 62
             (with_reducible refine HK.out.mono ?_); rintro e w2 ⟨rfl, rfl⟩)
          | (at_builtin; go_must (refine wpList_append_dots Try.underlying31 infoPeer _ rfl (.tmp 14) (.tmp 22) rfl (by rfl) HOA.out (by rfl) (by rfl) HR1.out h63 hzz ?_)))
        intro v5 w5 ho5 hg5 _
        obtain ⟨A5, c5, hv5⟩ := ownD_slice ho5
        obtain ⟨m5, hm5⟩ : ∃ m5, Hid (m5 = (t.peers k ++ [s]).length) := ⟨_, Lib.hid rfl⟩
        rw [← hm5.out] at hv5
        subst hv5
        have HO5 : Hid (OwnD 38 w5 w.heap.size (.slice A5 m5 c5) (t.peers (k + 1))) := Lib.hid (by rw [HS2.out]; exact ho5)
        have HB5 : Hid (Below w.heap.size w w5) := Lib.hid (HBA.out.grown hg5 hzz (fun g e => (World.ownsRow.lt HOA.out g e).1))
        clear ho5 hg5 h63 hzz
        go_wp2
        go_roundw
        case rel => exact ⟨k + 1, _, by omega, rfl, by go_num, HO5, HB5⟩
        case measure => simp [intOf]; omega
    · obtain rfl : k = 8 := by omega
      go_wp2
      go_ret
      exact ⟨v, rfl, HO.out, HB.out⟩
end Go.Proofs.Ythipdadhhelieaa
