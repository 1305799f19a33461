/- Which members are in: the program's. -/
import Derived.Test.YtmgobekdlgogmaaDoorRInts
namespace Go.Proofs.YtmgobekdlgogmaaDoor
open Go.RowKit Go.Sort Go.BigFrame
open Go.Lib (byteCells byteCells_length)

/-- The nodes that are in. -/
def inOf (ms : List MemA) : List Int := (ms.filter fun m => m.2.2.2 == 1).map (·.1)
theorem inOf_take {ms : List MemA} {k : Nat} {d : MemA} (h : ms[k]? = some d) : inOf (ms.take (k + 1)) = inOf (ms.take k) ++ (if d.2.2.2 = 1 then [d.1] else []) := by
  unfold inOf
  rw [List.take_add_one, h, List.filter_append, List.map_append]
  by_cases e : d.2.2.2 = 1 <;> simp [e]
theorem inOf_len (ms : List MemA) : (inOf ms).length ≤ ms.length := by
  unfold inOf
  rw [List.length_map]
  exact List.length_filter_le _ _

set_option maxRecDepth 100000 in
set_option maxHeartbeats 1600000 in
theorem in_no (p c s : Int) (v : Value) (ms : List MemA) (w : World) (hno : ¬ OkR p c s ms) (hT : Tabs w) (h1 : -9223372036854775808 ≤ p) (h2 : p ≤ 9223372036854775807) (h : RdM w v ms) (hl : ms.length ≤ 4398046511104) :
    Calls Tryd.prog 15 #[.agg #[.int .i64 p, .int .i64 c, .int .i64 s, v]] w (GivesI [] w) := by
  have HV := Lib.hid h
  obtain ⟨A, cap, rfl, hc, hx⟩ := h
  obtain ⟨n, hn⟩ : ∃ n, Hid (n = ms.length) := ⟨_, Lib.hid rfl⟩
  rw [← hn.out] at HV ⊢
  obtain ⟨W, hW⟩ : ∃ W, Hid (W = w.alloc (.cells #[.int .i64 p, .int .i64 c, .int .i64 s, .slice A n cap] 24)) := ⟨_, Lib.hid rfl⟩
  have HB : Hid (Below w.heap.size w W) := Lib.hid (by rw [hW.out]; exact (Below.refl _ _).alloc (Nat.le_refl _) _)
  have k0 : W.cell? ⟨w.heap.size, 0, none⟩ = some (.int .i64 p) := by rw [hW.out]; exact box_cellR _ _ _ 0
  have k1 : W.cell? ⟨w.heap.size, 1, none⟩ = some (.int .i64 c) := by rw [hW.out]; exact box_cellR _ _ _ 1
  have k2 : W.cell? ⟨w.heap.size, 2, none⟩ = some (.int .i64 s) := by rw [hW.out]; exact box_cellR _ _ _ 2
  have k3 : W.cell? ⟨w.heap.size, 3, none⟩ = some (.slice A n cap) := by rw [hW.out]; exact box_cellR _ _ _ 3
  have HC := Lib.hid (can_any p c s (.slice A n cap) ms W (hT.below HB.out hT.big) h1 h2 (HV.out.below HB.out) hl)
  have HNO := Lib.hid hno
  clear hT h1 h2 hx hno
  go_enter Tryd.func15, Tryd.ntmps15
  go_upto_region 2 with fail
  rw [← hW.out]
  go_wp2_with fail
  (with_reducible refine HC.out.mono ?_); rintro e w1 ⟨b, rfl, hbi, hb1⟩
  cases b with
  | true => exact absurd (hbi.1 rfl) HNO.out
  | false =>
    have HB1 : Hid (Below w.heap.size w w1) := Lib.hid (HB.out.trans (hb1.mono HB.out.size))
    clear hb1 hbi k0 k1 k2 k3
    go_wp2
    go_ret
    exact ⟨none, 0, 0, rfl, ownI_nil _ _, rfl, HB1.out⟩

set_option maxRecDepth 100000 in
set_option maxHeartbeats 3200000 in
theorem in_yes (p c s : Int) (v : Value) (ms : List MemA) (w : World) (hok : OkR p c s ms) (hT : Tabs w) (h1 : -9223372036854775808 ≤ p) (h2 : p ≤ 9223372036854775807) (h : RdM w v ms) (hl : ms.length ≤ 4398046511104) :
    Calls Tryd.prog 15 #[.agg #[.int .i64 p, .int .i64 c, .int .i64 s, v]] w (GivesI (inOf ms) w) := by
  have HV := Lib.hid h
  obtain ⟨A, cap, rfl, hc, hx⟩ := h
  obtain ⟨n, hn⟩ : ∃ n, Hid (n = ms.length) := ⟨_, Lib.hid rfl⟩
  rw [← hn.out] at HV hc ⊢
  have HX := Lib.hid hx
  obtain ⟨W, hW⟩ : ∃ W, Hid (W = w.alloc (.cells #[.int .i64 p, .int .i64 c, .int .i64 s, .slice A n cap] 24)) := ⟨_, Lib.hid rfl⟩
  have HB : Hid (Below w.heap.size w W) := Lib.hid (by rw [hW.out]; exact (Below.refl _ _).alloc (Nat.le_refl _) _)
  have HLT : Hid (w.heap.size < W.heap.size) := Lib.hid (by rw [hW.out]; exact (Array.getElem?_eq_some_iff.1 (heap_alloc_new w _)).1)
  have k0 : W.cell? ⟨w.heap.size, 0, none⟩ = some (.int .i64 p) := by rw [hW.out]; exact box_cellR _ _ _ 0
  have k1 : W.cell? ⟨w.heap.size, 1, none⟩ = some (.int .i64 c) := by rw [hW.out]; exact box_cellR _ _ _ 1
  have k2 : W.cell? ⟨w.heap.size, 2, none⟩ = some (.int .i64 s) := by rw [hW.out]; exact box_cellR _ _ _ 2
  have k3 : W.cell? ⟨w.heap.size, 3, none⟩ = some (.slice A n cap) := by rw [hW.out]; exact box_cellR _ _ _ 3
  have HC := Lib.hid (can_any p c s (.slice A n cap) ms W (hT.below HB.out hT.big) h1 h2 (HV.out.below HB.out) hl)
  have HOK := Lib.hid hok
  have K3 := Lib.hid k3
  have HL := Lib.hid hl
  have hln : n ≤ 4398046511104 := by rw [hn.out]; exact hl
  clear hT h1 h2 hx hok hl
  go_enter Tryd.func15, Tryd.ntmps15
  go_upto_region 2 with fail
  rw [← hW.out]
  go_wp2_with fail
  (with_reducible refine HC.out.mono ?_); rintro e w1 ⟨b, rfl, hbi, hb1⟩
  cases b with
  | false => exact absurd (hbi.2 HOK.out) (by decide)
  | true =>
    have HB1 : Hid (Below w.heap.size w w1) := Lib.hid (HB.out.trans (hb1.mono HB.out.size))
    have HS1 : Hid (w.heap.size ≤ w1.heap.size) := Lib.hid HB1.out.size
    have j3 : w1.cell? ⟨w.heap.size, 3, none⟩ = some (.slice A n cap) := (hb1.cell (p := ⟨w.heap.size, 3, none⟩) HLT.out).trans K3.out
    clear hb1 hbi k0 k1 k2 k3
    rw [show canN true = 0 from rfl]
    go_wp2
    go_loopw [3, 13] (fun vx i wr => ∃ (k : Nat) (vn : Value), k ≤ n ∧ vn = vx ∧ i = .int .i64 k ∧ Hid (OwnI wr w1.heap.size vn (inOf (ms.take k))) ∧ Below w1.heap.size w1 wr) (fun _ i _ => n - (intOf i).toNat)
    case atStart => exact ⟨0, _, Nat.zero_le _, rfl, rfl, Lib.hid (by simpa [inOf] using ownI_nil _ _), Below.refl _ _⟩
    case round =>
      obtain ⟨k, vn, hk, rfl, rfl, HO, hb⟩ := hrel
      have HBR : Hid (Below w.heap.size w wr) := Lib.hid (HB1.out.trans (hb.mono HS1.out))
      have hbs := hb.size
      by_cases hlt : k < n
      · obtain ⟨d, hd⟩ : ∃ d, ms[k]? = some d := ⟨ms[k]'(by have := hn.out; omega), List.getElem?_eq_getElem _⟩
        obtain ⟨ad, rfl, hadlt, hda⟩ := HX.out k d hd
        obtain ⟨d0, d1, d2, d3⟩ := hda.below HBR.out (show (ad.add (k * 4)).block < w.heap.size by rw [add_block]; exact hadlt)
        have HD := Lib.hid hd
        obtain ⟨V, hV⟩ : ∃ V, Hid (V = wr.alloc (.cells #[.int .i64 d.1, .int .i64 d.2.1, .int .i64 d.2.2.1, .int .i64 d.2.2.2] 40)) := ⟨_, Lib.hid rfl⟩
        have hbV : Below wr.heap.size wr V := by rw [hV.out]; exact (Below.refl _ _).alloc (Nat.le_refl _) _
        have v0 : V.cell? ⟨wr.heap.size, 0, none⟩ = some (.int .i64 d.1) := by rw [hV.out]; exact box_cellR _ _ _ 0
        have v3 : V.cell? ⟨wr.heap.size, 3, none⟩ = some (.int .i64 d.2.2.2) := by rw [hV.out]; exact box_cellR _ _ _ 3
        have HBW : Hid (Below w1.heap.size w1 V) := Lib.hid (hb.trans (hbV.mono hbs))
        have HOV : Hid (OwnI V w1.heap.size vn (inOf (ms.take k))) := Lib.hid (HO.out.below hbV)
        clear hd hda hbV hb
        go_upto_region 7 with fail
        rw [← hV.out]
        clear d0 d1 d2 d3
        by_cases hst : d.2.2.2 = 1
        · have t1 : (d.2.2.2 == 1) = true := by simpa using hst
          have HT : Hid (inOf (ms.take (k + 1)) = inOf (ms.take k) ++ [d.1]) := Lib.hid (by rw [inOf_take HD.out, if_pos hst])
          have hol : (inOf (ms.take k)).length ≤ 4398046511104 := by
            have h1 := inOf_len (ms.take k)
            have h2 := List.length_take_le k ms
            have := HL.out
            have := hn.out
            omega
          have hz2 := HBW.out.size
          clear hst
          go_wp2_with (at_builtin; go_must (refine wpList_append_int _ rfl (.tmp 20) (.tmp 23) rfl d.1 (by rfl) (by rfl) HOV.out hol hz2 ?_))
          intro v5 w5 ho5 hg5 ht5
          have HO5 : Hid (OwnI w5 w1.heap.size v5 (inOf (ms.take (k + 1)))) := Lib.hid (by rw [HT.out]; exact ho5)
          have HB5 : Hid (Below w1.heap.size w1 w5) := Lib.hid (HBW.out.grown hg5 (by omega) (fun g e => (World.ownsRow.lt HOV.out g e).1))
          clear ho5 hg5 ht5
          go_wp2
          go_roundw
          case rel => exact ⟨k + 1, _, by omega, rfl, by go_num, HO5, HB5.out⟩
          case measure => simp [intOf]; omega
        · have t1 : (d.2.2.2 == 1) = false := by simpa using hst
          have HT : Hid (inOf (ms.take (k + 1)) = inOf (ms.take k)) := Lib.hid (by rw [inOf_take HD.out, if_neg hst, List.append_nil])
          have HO5 : Hid (OwnI V w1.heap.size vn (inOf (ms.take (k + 1)))) := Lib.hid (by rw [HT.out]; exact HOV.out)
          clear hst
          go_wp2
          go_roundw
          case rel => exact ⟨k + 1, _, by omega, rfl, by go_num, HO5, HBW.out⟩
          case measure => simp [intOf]; omega
      · have hkn : k = n := by omega
        have HO1 : Hid (OwnI wr w1.heap.size vn (inOf ms)) := Lib.hid (by have := HO.out; rw [hkn, hn.out, List.take_length] at this; exact this)
        obtain ⟨A7, c7, hv7⟩ := ownI_slice HO1.out
        obtain ⟨m7, hm7⟩ : ∃ m7, Hid (m7 = (inOf ms).length) := ⟨_, Lib.hid rfl⟩
        rw [← hm7.out] at hv7
        subst hv7
        clear hb hkn HO
        go_wp2
        go_ret
        exact ⟨A7, m7, c7, rfl, HO1.out.base_le HS1.out, hm7.out, HBR.out⟩
end Go.Proofs.YtmgobekdlgogmaaDoor
