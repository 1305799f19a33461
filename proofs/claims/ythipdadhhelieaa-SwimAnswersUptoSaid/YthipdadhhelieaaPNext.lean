/- Which nodes have open pings; which node is pinged next. -/
import Derived.Test.YthipdadhhelieaaPBury
import Derived.Test.YthipdadhhelieaaGTurnM
namespace Go.Proofs.Ythipdadhhelieaa
open Go.RowKit Go.Sort Go.BigFrame

theorem match_any (p : PingA) (b : Nat) (x : Int) (w : World) (h : w.cell? ⟨b, 0, none⟩ = some (.int .i64 x)) (hb : b < w.heap.size) :
    Calls Try.prog 73 #[pingV p, .pointer (some ⟨b, 0, none⟩)] w fun e w' => e = .returned (.bool (p.1 == x)) ∧ Below w.heap.size w w' := by
  obtain ⟨W, hW⟩ : ∃ W, Hid (W = w.alloc (.cells #[.int .i64 p.1, .int .i64 p.2.1, .int .i64 p.2.2.1, .bool p.2.2.2] 67)) := ⟨_, Lib.hid rfl⟩
  have hB : Below w.heap.size w W := by rw [hW.out]; exact (Below.refl _ _).alloc (Nat.le_refl _) _
  have c0 : W.cell? ⟨w.heap.size, 0, none⟩ = some (.int .i64 p.1) := by rw [hW.out]; exact box_cell _ _ _ 0
  have c1 : W.cell? ⟨b, 0, none⟩ = some (.int .i64 x) := (hB.cell (p := ⟨b, 0, none⟩) hb).trans h
  have HB := Lib.hid hB
  generalize hd : (p.1 == x) = d
  clear h hB hb
  go_enter Try.func73, Try.ntmps73
  go_upto_region 1 with fail
  rw [← hW.out]
  go_wp2
  go_ret
  exact ⟨rfl, HB.out⟩

/-- Is there such a ping? -/
def IsIdxP (ps : List PingA) (x : Int) (w : World) (e : Ending) (w' : World) : Prop := (∃ k : Int, e = .returned (.int .i64 k) ∧ decide (k ≥ 0) = ps.any (fun p => p.1 == x)) ∧ Below w.heap.size w w'
set_option maxRecDepth 100000 in
set_option maxHeartbeats 1600000 in
theorem indexF_any (base : Nat) (A : Option Addr) (n c : Nat) (ps : List PingA) (hn : n = ps.length) (hl : n ≤ 1048576) (b : Nat) (x : Int) (w : World) (h : OwnG w base (.slice A n c) ps) (hc : w.cell? ⟨b, 0, none⟩ = some (.int .i64 x)) (hb : b < w.heap.size) :
    Calls Try.prog 71 #[.slice A n c, .func (.func 73) #[] #[.pointer (some ⟨b, 0, none⟩)]] w (IsIdxP ps x w) := by
  have HN := Lib.hid hn
  have H := Lib.hid h
  have HC := Lib.hid hc
  have HBL := Lib.hid hb
  clear h hn hc hb
  go_enter Try.func71, Try.ntmps71
  go_wp2
  go_loopw [8] (fun i wr => ∃ k : Nat, k ≤ n ∧ i = .int .i64 k ∧ Hid (∀ j p, j < k → ps[j]? = some p → (p.1 == x) = false) ∧ Below w.heap.size w wr) (fun i _ => n - (intOf i).toNat)
  case atStart => exact ⟨0, Nat.zero_le _, rfl, Lib.hid fun j p hj => by omega, Below.refl _ _⟩
  case round =>
    obtain ⟨k, hk, rfl, hno, hb⟩ := hrel
    by_cases hlt : k < n
    · obtain ⟨p, hp⟩ : ∃ p, ps[k]? = some p := ⟨ps[k]'(by rw [← HN.out]; exact hlt), List.getElem?_eq_getElem _⟩
      obtain ⟨bb, cc, hv, _, hbl, c0, c1, c2, c3⟩ := H.out.at_ hp
      injection hv with hv1 hv2 hv3
      subst hv1
      have e0 := (hb.cell (p := ⟨bb, k * 4, none⟩) hbl).trans c0
      have e1 := (hb.cell (p := ⟨bb, k * 4 + 1, none⟩) hbl).trans c1
      have e2 := (hb.cell (p := ⟨bb, k * 4 + 2, none⟩) hbl).trans c2
      have e3 := (hb.cell (p := ⟨bb, k * 4 + 3, none⟩) hbl).trans c3
      have HM := Lib.hid (match_any p b x wr ((hb.cell (p := ⟨b, 0, none⟩) HBL.out).trans HC.out) (Nat.lt_of_lt_of_le HBL.out hb.size))
      have HB := Lib.hid hb
      have HP := Lib.hid hp
      clear c0 c1 c2 c3 hv2 hv3 hb hp hbl
      cases hd : (p.1 == x)
      · have HM2 := HM
        rw [hd] at HM2
        have HD := Lib.hid hd
        clear hd HM
        go_wp2_with ((go_at_call 73); (with_reducible refine HM2.out.mono ?_); rintro e w1 ⟨rfl, hb1⟩; have HB1 := Lib.hid hb1; clear hb1)
        go_roundw
        case rel =>
          refine ⟨k + 1, by omega, by go_num, Lib.hid fun j y hj hy => ?_, HB.out.trans (HB1.out.mono HB.out.size)⟩
          by_cases hjk : j = k
          · subst hjk
            rw [HP.out] at hy
            injection hy with hy
            rw [← hy]
            exact HD.out
          · exact hno.out j y (by omega) hy
        case measure => simp [intOf]; omega
      · have HM2 := HM
        rw [hd] at HM2
        have HD := Lib.hid hd
        clear hd HM
        go_wp2_with ((go_at_call 73); (with_reducible refine HM2.out.mono ?_); rintro e w1 ⟨rfl, hb1⟩; have HB1 := Lib.hid hb1; clear hb1)
        go_ret
        refine ⟨⟨(k : Int), rfl, ?_⟩, HB.out.trans (HB1.out.mono HB.out.size)⟩
        have : ps.any (fun p => p.1 == x) = true := List.any_eq_true.2 ⟨p, List.mem_of_getElem? HP.out, HD.out⟩
        rw [this]
        simp
    · obtain rfl : k = n := by omega
      have HB := Lib.hid hb
      clear hb
      go_wp2
      go_ret
      refine ⟨⟨-1, rfl, ?_⟩, HB.out⟩
      have : ps.any (fun p => p.1 == x) = false := by
        rw [List.any_eq_false]
        intro p hp
        obtain ⟨j, hj⟩ := List.getElem?_of_mem hp
        have hjl := (List.getElem?_eq_some_iff.1 hj).1
        rw [hno.out j p (by rw [HN.out]; exact hjl) hj]
        decide
      rw [this]
      rfl
theorem containsF_any (base : Nat) (A : Option Addr) (n c : Nat) (ps : List PingA) (hn : n = ps.length) (hl : n ≤ 1048576) (b : Nat) (x : Int) (w : World) (h : OwnG w base (.slice A n c) ps) (hc : w.cell? ⟨b, 0, none⟩ = some (.int .i64 x)) (hb : b < w.heap.size) :
    Calls Try.prog 72 #[.slice A n c, .func (.func 73) #[] #[.pointer (some ⟨b, 0, none⟩)]] w fun e w' => e = .returned (.bool (ps.any (fun p => p.1 == x))) ∧ Below w.heap.size w w' := by
  have H0 := Lib.hid (indexF_any base A n c ps hn hl b x w h hc hb)
  obtain ⟨d, hd⟩ : ∃ d, Hid (d = ps.any (fun p => p.1 == x)) := ⟨_, Lib.hid rfl⟩
  rw [← hd.out]
  clear h hl hn hc hb
  go_enter Try.func72, Try.ntmps72
  go_wp2_with ((go_at_call 71); (with_reducible refine H0.out.mono ?_); rintro e w1 ⟨⟨k, rfl, hk⟩, hb1⟩; have HK := Lib.hid hk; have HB1 := Lib.hid hb1; clear hk hb1)
  go_ret
  exact ⟨ret_bool (HK.out.trans hd.out.symm), HB1.out⟩
theorem pings_any (g base : Nat) (t : TabA) (ps : List PingA) (hl : ps.length ≤ 1048576) (x : Int) (w : World) (h : TabAt w g t) (ho : OwnG w base t.opened ps) :
    Calls Try.prog 70 #[.pointer (some ⟨g, 0, none⟩), .int .i64 x] w fun e w' => e = .returned (.bool (ps.any (fun p => p.1 == x))) ∧ Below w.heap.size w w' := by
  obtain ⟨A, c, hs⟩ := ho.slice
  obtain ⟨n, hn⟩ : ∃ n, n = ps.length := ⟨_, rfl⟩
  rw [← hn] at hs
  obtain ⟨W, hW⟩ : ∃ W, Hid (W = w.alloc (.cells #[.int .i64 x] 3)) := ⟨_, Lib.hid rfl⟩
  have hB : Below w.heap.size w W := by rw [hW.out]; exact (Below.refl _ _).alloc (Nat.le_refl _) _
  have hT := h.below hB h.lt
  have c34 : W.cell? ⟨g, 34, none⟩ = some (.slice A n c) := by rw [← hs]; exact hT.cell 34
  have hx : W.cell? ⟨w.heap.size, 0, none⟩ = some (.int .i64 x) := by rw [hW.out]; exact box_cell _ _ _ 0
  have hz : w.heap.size < W.heap.size := by rw [hW.out]; simp
  have H1 := Lib.hid (containsF_any base A n c ps hn (by omega) w.heap.size x W (by rw [← hs]; exact row_below ho hB) hx hz)
  have HB := Lib.hid hB
  generalize ps.any (fun p => p.1 == x) = d at H1 ⊢
  clear h hB hT hx hz hs hn ho hl
  go_enter Try.func70, Try.ntmps70
  go_upto_region 1 with fail
  rw [← hW.out]
  go_wp2_with ((go_at_call 72); (with_reducible refine H1.out.mono ?_); rintro e w1 ⟨rfl, hb1⟩)
  go_ret
  exact ⟨rfl, HB.out.trans (hb1.mono HB.out.size)⟩

/-- Which nodes may be pinged. -/
def TabA.free (t : TabA) (ps : List PingA) : List Bool := (List.range 8).map fun i : Nat => !decide ((i : Int) = t.self) && (t.knows i && !ps.any fun p => p.1 == (i : Int))
theorem free_len (t : TabA) (ps : List PingA) : (t.free ps).length = 8 := by simp [TabA.free]
theorem free_at (t : TabA) (ps : List PingA) (i : Nat) (hi : i < 8) : (t.free ps).getD i false = (!decide ((i : Int) = t.self) && (t.knows i && !ps.any fun p => p.1 == (i : Int))) := by
  rcases (by omega : i = 0 ∨ i = 1 ∨ i = 2 ∨ i = 3 ∨ i = 4 ∨ i = 5 ∨ i = 6 ∨ i = 7) with rfl | rfl | rfl | rfl | rfl | rfl | rfl | rfl <;> rfl
def nxI (L : List Bool) (st : Nat) : Int := if nx L st < 8 then (nx L st : Int) else -1

set_option maxRecDepth 100000 in
set_option maxHeartbeats 3200000 in
theorem next_any (g base : Nat) (t : TabA) (ps : List PingA) (hl : ps.length ≤ 1048576) (st : Nat) (hst : st ≤ 8) (hlast : t.last.1 = (st : Int) - 1) (w : World) (h : TabAt w g t) (ho : OwnG w base t.opened ps) :
    Calls Try.prog 67 #[.pointer (some ⟨g, 0, none⟩)] w fun e w' => e = .returned (.int .i64 (nxI (t.free ps) st)) ∧ Below w.heap.size w w' := by
  have HT := Lib.hid h
  have HO := Lib.hid ho
  obtain ⟨lt, hlt0⟩ : ∃ lt, Hid (lt = t.last.1) := ⟨_, Lib.hid rfl⟩
  have HLT : Hid (lt = (st : Int) - 1) := Lib.hid (by rw [hlt0.out]; exact hlast)
  have t0 : -1 ≤ lt := by rw [HLT.out]; omega
  have t1 : lt ≤ 7 := by rw [HLT.out]; omega
  obtain ⟨sf, hsf⟩ : ∃ sf, Hid (sf = t.self) := ⟨_, Lib.hid rfl⟩
  obtain ⟨L, hL⟩ : ∃ L, Hid (L = t.free ps) := ⟨_, Lib.hid rfl⟩
  rw [← hL.out]
  have HM : Hid (∀ i, i < 8 → L.getD i false = (!decide ((i : Int) = sf) && (t.knows i && !ps.any fun p => p.1 == (i : Int)))) := Lib.hid (by rw [hL.out, hsf.out]; exact fun i hi => free_at t ps i hi)
  have HLN := Lib.hid hl
  clear h ho hlast hl
  go_enter Try.func67, Try.ntmps67
  go_wp2
  go_loopw [5] (fun i wr => ∃ k : Nat, k ≤ 8 ∧ i = .int .i64 k ∧ Hid (nx L st = nxF L st k (8 - k)) ∧ Hid (Below w.heap.size w wr)) (fun i _ => 8 - (intOf i).toNat)
  case atStart => exact ⟨0, Nat.zero_le _, rfl, Lib.hid rfl, Lib.hid (Below.refl _ _)⟩
  case round =>
    obtain ⟨k, hk, rfl, hno, HB⟩ := hrel
    have HTR := Lib.hid (HT.out.below HB.out HT.out.lt)
    have HOR := Lib.hid (row_below HO.out HB.out)
    have c35 : wr.cell? ⟨g, 35, none⟩ = some (.int .i64 lt) := by rw [hlt0.out]; exact HTR.out.cell 35
    have c0 : wr.cell? ⟨g, 0, none⟩ = some (.int .i64 sf) := by rw [hsf.out]; exact HTR.out.cell 0
    by_cases hlt : k < 8
    · obtain ⟨q, hq⟩ : ∃ q, Hid (q = (st + k) % 8) := ⟨_, Lib.hid rfl⟩
      have hq8 : q < 8 := by rw [hq.out]; omega
      have HN : Hid (nxF L st k (8 - k) = if L.getD q false then q else nxF L st (k + 1) (8 - (k + 1))) := Lib.hid (by
        rw [hq.out, show 8 - k = (8 - (k + 1)) + 1 by omega]
        rfl)
      have hmod : (lt + 1 + (k : Int)) % 8 = (q : Int) := by rw [hq.out, HLT.out]; omega
      have HMQ := Lib.hid (HM.out q hq8)
      have HNO : L.getD q false = false → Hid (nx L st = nxF L st (k + 1) (8 - (k + 1))) := fun e => Lib.hid (by rw [hno.out, HN.out, e]; rfl)
      by_cases hqs : (q : Int) = sf
      · have d1 : ((q : Int) == sf) = true := by simpa using hqs
        have d2 : ((q : Int) != sf) = false := by simp [hqs]
        have HF := HNO (by rw [HMQ.out]; simp [hqs])
        clear hqs HNO
        go_wp2
        go_roundw
        case rel => exact ⟨k + 1, by omega, by go_num, HF, HB⟩
        case measure => simp [intOf]; omega
      · have d1 : ((q : Int) == sf) = false := by simpa using hqs
        have d2 : ((q : Int) != sf) = true := by simpa using hqs
        cases hkn : t.knows q
        · have HF := HNO (by rw [HMQ.out, hkn]; simp)
          have HK : Hid (Calls Try.prog 62 #[.pointer (some ⟨g, 0, none⟩), .int .i64 (q : Int)] wr fun e w' => e = .returned (.bool false) ∧ wr = w') := Lib.hid (by have := knows_any g t q hq8 wr HTR.out; unfold TabA.knows at hkn; rw [hkn] at this; exact this)
          clear hqs HNO hkn
          go_wp2_with ((go_at_call 62); (with_reducible refine HK.out.mono ?_); rintro e w1 ⟨rfl, rfl⟩)
          go_roundw
          case rel => exact ⟨k + 1, by omega, by go_num, HF, HB⟩
          case measure => simp [intOf]; omega
        · have HK : Hid (Calls Try.prog 62 #[.pointer (some ⟨g, 0, none⟩), .int .i64 (q : Int)] wr fun e w' => e = .returned (.bool true) ∧ wr = w') := Lib.hid (by have := knows_any g t q hq8 wr HTR.out; unfold TabA.knows at hkn; rw [hkn] at this; exact this)
          have HP := Lib.hid (pings_any g base t ps HLN.out (q : Int) wr HTR.out HOR.out)
          cases hpa : (ps.any fun p => p.1 == (q : Int))
          · have HP2 := HP
            rw [hpa] at HP2
            have HX : Hid (nx L st = q) := Lib.hid (by rw [hno.out, HN.out, HMQ.out, hkn, hpa]; simp [hqs])
            clear hqs HNO hkn hpa HP
            go_wp2_with (first
              | (go_at_call 62
                 (with_reducible refine HK.out.mono ?_); rintro e w1 ⟨rfl, rfl⟩)
              | (go_at_call 70
                 (with_reducible refine HP2.out.mono ?_); rintro e w2 ⟨rfl, hb2⟩
                 have HB2 := Lib.hid hb2
                 clear hb2))
            go_ret
            exact ⟨ret_int (by unfold nxI; rw [HX.out, if_pos hq8]), HB.out.trans (HB2.out.mono HB.out.size)⟩
          · have HP2 := HP
            rw [hpa] at HP2
            have HF := HNO (by rw [HMQ.out, hpa]; simp)
            clear hqs HNO hkn hpa HP
            go_wp2_with (first
              | (go_at_call 62
                 (with_reducible refine HK.out.mono ?_); rintro e w1 ⟨rfl, rfl⟩)
              | (go_at_call 70
                 (with_reducible refine HP2.out.mono ?_); rintro e w2 ⟨rfl, hb2⟩
                 have HB2 := Lib.hid hb2
                 clear hb2))
            have HBN : Hid (Below w.heap.size w w2) := Lib.hid (HB.out.trans (HB2.out.mono HB.out.size))
            go_roundw
            case rel => exact ⟨k + 1, by omega, by go_num, HF, HBN⟩
            case measure => simp [intOf]; omega
    · obtain rfl : k = 8 := by omega
      go_wp2
      go_ret
      have hx : nx L st = 8 := by rw [hno.out]; rfl
      exact ⟨ret_int (by unfold nxI; rw [hx]; rfl), HB.out⟩
end Go.Proofs.Ythipdadhhelieaa
