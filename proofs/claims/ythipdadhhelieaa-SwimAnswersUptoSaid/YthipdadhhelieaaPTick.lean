/- Tick in general. -/
import Derived.Test.YthipdadhhelieaaPBegin
namespace Go.Proofs.Ythipdadhhelieaa
open Go.RowKit Go.Sort Go.BigFrame

theorem nd_opened (t : TabA) (v : Value) (k : Nat) : ({ t with opened := v } : TabA).nd k = t.nd k := by unfold TabA.nd; split <;> rfl
theorem knows_opened (t : TabA) (v : Value) (k : Nat) : ({ t with opened := v } : TabA).knows k = t.knows k := by unfold TabA.knows; rw [nd_opened]
theorem free_opened (t : TabA) (v : Value) (ps : List PingA) : ({ t with opened := v } : TabA).free ps = t.free ps := by unfold TabA.free; simp only [knows_opened]
theorem timed_opened {t : TabA} (h : t.timed) (v : Value) : ({ t with opened := v } : TabA).timed := ⟨h.1, h.2.1, fun k hk => by rw [nd_opened]; exact h.2.2 k hk⟩
theorem pass_nd' (t : TabA) (n : Int) (k : Nat) : (t.pass n).nd k = t.nd k := by unfold TabA.nd TabA.pass; split <;> rfl

def TabA.begins (t : TabA) (ps : List PingA) (st : Nat) : Bool := !t.early && (decide (nx (t.free ps) st < 8) && decide (t.last.2.1 < 1099511627776))
def TabA.fresh (t : TabA) (ps : List PingA) (st : Nat) : PingA := ((nx (t.free ps) st : Nat), t.last.2.1 + 1, t.now, false)
def TabA.begin (t : TabA) (ps : List PingA) (st : Nat) : TabA × List PingA := if t.begins ps st then ({ t with last := t.fresh ps st }, ps ++ [t.fresh ps st]) else (t, ps)
theorem begins_opened (t : TabA) (v : Value) (ps : List PingA) (st : Nat) : ({ t with opened := v } : TabA).begins ps st = t.begins ps st := by unfold TabA.begins; rw [free_opened]; rfl
theorem fresh_opened (t : TabA) (v : Value) (ps : List PingA) (st : Nat) : ({ t with opened := v } : TabA).fresh ps st = t.fresh ps st := by unfold TabA.fresh; rw [free_opened]

theorem begin_opened (t : TabA) (v : Value) (ps : List PingA) (st : Nat) : ({ t with opened := v } : TabA).begin ps st = ({ (t.begin ps st).1 with opened := v }, (t.begin ps st).2) := by
  unfold TabA.begin
  rw [begins_opened, fresh_opened]
  split <;> rfl

/-- What is needed of a table's last ping. -/
structure Lasts (t : TabA) (st : Nat) : Prop where
  le : st ≤ 8
  to : t.last.1 = (st : Int) - 1
  since0 : 0 ≤ t.last.2.2.1
  since1 : t.last.2.2.1 ≤ t.now
  req0 : 0 ≤ t.last.2.1
  req1 : t.last.2.1 ≤ 1099511627776

theorem pmsg_one (s q r : Int) : (pmsg s q r).toList.length = 1 * 17 ∧ ∀ u ∈ (pmsg s q r).toList, u.oneCell' = true := ⟨rfl, List.all_eq_true.1 (show (pmsg s q r).toList.all (fun u => u.oneCell') = true from rfl)⟩
theorem begin_any (g base : Nat) (hgb : g < base) (t : TabA) (ps : List PingA) (hl : ps.length ≤ 1000) (st : Nat) (hls : Lasts t st) (htm : t.timed) (w : World) (hbw : base ≤ w.heap.size) (h : TabAt w g t) (ho : OwnG w base t.opened ps) :
    Calls Try.prog 48 #[.pointer (some ⟨g, 0, none⟩)] w fun e w' => ∃ v n ov, e = .returned v ∧ OwnM w' base v n ∧ n ≤ 1 ∧ TabAt w' g { (t.begin ps st).1 with opened := ov } ∧ OwnG w' base ov (t.begin ps st).2 ∧ Moves g t.opened.ownBlock w w' := by
  by_cases hb : t.begins ps st = true
  · have e : t.begin ps st = ({ t with last := t.fresh ps st }, ps ++ [t.fresh ps st]) := by unfold TabA.begin; rw [if_pos hb]
    rw [e]
    unfold TabA.begins at hb
    simp only [Bool.and_eq_true, Bool.not_eq_true', decide_eq_true_eq] at hb
    refine (begin_yes g base hgb t ps hl st hls.le hls.to htm ⟨hls.since0, hls.since1, hls.req0, hb.2.2⟩ hb.1 hb.2.1 w hbw h ho).mono fun e w' hp => ?_
    obtain ⟨b, v, he, hbb, hm, ht, hog, hmv⟩ := hp
    exact ⟨_, 1, v, he, ⟨(pmsg t.self (nx (t.free ps) st) (t.last.2.1 + 1)).toList, ⟨rfl, .inr ⟨b, 1, _, rfl, Nat.le_trans hbw hbb, hm, Nat.le_refl _, by decide, rfl, rfl⟩⟩, (pmsg_one _ _ _).2⟩, Nat.le_refl _, ht, hog, hmv⟩
  · have e : t.begin ps st = (t, ps) := by unfold TabA.begin; rw [if_neg hb]
    rw [e]
    have hno : t.early = true ∨ nxI (t.free ps) st = -1 ∨ 1099511627776 ≤ t.last.2.1 := by
      unfold TabA.begins at hb
      cases h1 : t.early
      · right
        by_cases h2 : nx (t.free ps) st < 8
        · right
          simp [h1, h2] at hb
          exact hb
        · left
          unfold nxI
          rw [if_neg h2]
      · exact .inl rfl
    refine (begin_no g base t ps (by omega) st hls.le hls.to htm ⟨hls.since0, hls.since1, hls.req0, hls.req1⟩ hno w h ho).mono fun e w' hp => ?_
    obtain ⟨he, hbl⟩ := hp
    exact ⟨_, 0, t.opened, he, ownM_nil _ _, by omega, h.below hbl h.lt, row_below ho hbl, Moves.of (Turns.of hbl)⟩

/-- What Tick makes of a table and its open pings. -/
def TabA.tick (t : TabA) (ps : List PingA) (st : Nat) (now : Int) : TabA × List PingA := ((((t.pass now).bury 8).wait ps).1).begin (((t.pass now).bury 8).wait ps).2 st
theorem waitStep_keeps (s : TabA × List PingA) (p : PingA) : (waitStep s p).1.self = s.1.self ∧ (waitStep s p).1.last = s.1.last := by
  unfold waitStep
  repeat' split
  all_goals first | exact ⟨rfl, rfl⟩ | exact ⟨setNd_self _ _ _, setNd_last _ _ _⟩
theorem wait_keeps (t : TabA) (ps : List PingA) : (t.wait ps).1.self = t.self ∧ (t.wait ps).1.last = t.last := by
  have : ∀ (l : List PingA) (s : TabA × List PingA), (l.foldl waitStep s).1.self = s.1.self ∧ (l.foldl waitStep s).1.last = s.1.last := by
    intro l
    induction l with
    | nil => intro s; exact ⟨rfl, rfl⟩
    | cons p l ih =>
      intro s
      rw [List.foldl_cons]
      have h1 := ih (waitStep s p)
      have h2 := waitStep_keeps s p
      exact ⟨h1.1.trans h2.1, h1.2.trans h2.2⟩
  exact this ps _
theorem setNd_timed {t : TabA} (h : t.timed) {k : Nat} (hk : k < 8) (p : PeerA) : (t.setNd k (p, t.now)).timed := by
  refine ⟨by rw [setNd_now]; exact h.1, by rw [setNd_now]; exact h.2.1, fun j hj => ?_⟩
  rw [setNd_now, setNd_nd t hk _ hj]
  split
  · exact ⟨h.1, Int.le_refl _⟩
  · exact h.2.2 j hj
theorem bury_timed {t : TabA} (h : t.timed) : ∀ k, k ≤ 8 → (t.bury k).timed
  | 0, _ => h
  | k + 1, hk => by
    have ih := bury_timed h k (by omega)
    unfold TabA.bury
    split
    · have := setNd_timed ih (k := k) (by omega) ((k : Int), (t.nd k).1.2.1, 3)
      rwa [bury_now] at this
    · exact ih
theorem wait_timed {t : TabA} (h : t.timed) {ps : List PingA} (hf : Fine t ps) : (t.wait ps).1.timed := by
  have : ∀ (l : List PingA) (s : TabA × List PingA), s.1.timed → (∀ p ∈ l, 0 ≤ p.1 ∧ p.1 < 8) → (l.foldl waitStep s).1.timed := by
    intro l
    induction l with
    | nil => intro s hs _; exact hs
    | cons p l ih =>
      intro s hs hl
      rw [List.foldl_cons]
      refine ih _ ?_ fun q hq => hl q (List.mem_cons_of_mem _ hq)
      have hp := hl p List.mem_cons_self
      unfold waitStep
      repeat' split
      all_goals first | exact hs | exact setNd_timed hs (by omega) _
  exact this ps _ h fun p hp => ⟨(hf p hp).1, (hf p hp).2.1⟩

/-- What Tick answers. -/
def Ticked (g : Nat) (t' : TabA) (ps' : List PingA) (w : World) (e : Ending) (w' : World) : Prop := ∃ a b ov n m, e = .returned (.tuple #[a, b]) ∧ OwnM w' w.heap.size a n ∧ (∃ ds : List PeerA, w'.ownsRow w.heap.size 38 3 b m (dcells ds) ∧ ds.length = m) ∧ TabAt w' g { t' with opened := ov } ∧ OwnG w' w.heap.size ov ps' ∧ Turns g w.heap.size w w'
set_option maxRecDepth 100000 in
set_option maxHeartbeats 3200000 in
theorem tick_any (g base : Nat) (hgb : g < base) (t : TabA) (ps : List PingA) (hl : ps.length ≤ 100) (st : Nat) (now : Int) (ks : Nat) (hks : ks < 8) (hself : t.self = (ks : Int)) (hkn : t.knows ks = true) (htm : (t.pass now).timed) (hf : Fine (t.pass now) ps) (hls : Lasts (t.pass now) st) (w : World) (h : TabAt w g t) (ho : OwnG w base t.opened ps) :
    Calls Try.prog 18 #[.pointer (some ⟨g, 0, none⟩), .int .i64 now] w (Ticked g (t.tick ps st now).1 (t.tick ps st now).2 w) := by
  have H0 : Hid (Calls Try.prog 40 #[.pointer (some ⟨g, 0, none⟩)] w fun e w' => e = .returned (.bool true) ∧ w = w') := Lib.hid (by have := made_any g t ks hks hself w h; rw [hkn] at this; exact this)
  have H1 := Lib.hid (pass_any g t now w h)
  have HGL := Lib.hid h.lt
  obtain ⟨t1, ht1⟩ : ∃ t1, Hid (t1 = t.pass now) := ⟨_, Lib.hid rfl⟩
  have HO1' : Hid (OwnG w base t1.opened ps) := Lib.hid (by rw [ht1.out]; exact ho)
  rw [← ht1.out] at htm hf hls H1
  obtain ⟨t2, ht2⟩ : ∃ t2, Hid (t2 = t1.bury 8) := ⟨_, Lib.hid rfl⟩
  have HM2 : Hid t2.timed := Lib.hid (by rw [ht2.out]; exact bury_timed htm 8 (by omega))
  have HF2 : Hid (Fine t2 ps) := Lib.hid (by rw [ht2.out]; unfold Fine; rw [bury_now]; exact hf)
  have H2 := fun w' (hT : TabAt w' g t1) => Lib.hid (bury_any g t1 htm w' hT)
  rw [← ht2.out] at H2
  have H3 := fun w' (hT : TabAt w' g t2) (hO : OwnG w' base t2.opened ps) => Lib.hid (wait_any g base t2 ps (by omega) HM2.out HF2.out hgb w' hT hO)
  have HL3 : Hid (Lasts (t2.wait ps).1 st) := Lib.hid (by
    have e1 := (wait_keeps t2 ps).2
    have e2 : t2.last = t1.last := by rw [ht2.out]; exact bury_last _ _
    have e3 : (t2.wait ps).1.now = t1.now := by rw [wait_now, ht2.out, bury_now]
    exact ⟨hls.le, by rw [e1, e2]; exact hls.to, by rw [e1, e2]; exact hls.since0, by rw [e1, e2, e3]; exact hls.since1, by rw [e1, e2]; exact hls.req0, by rw [e1, e2]; exact hls.req1⟩)
  have HM3 : Hid (t2.wait ps).1.timed := Lib.hid (wait_timed HM2.out HF2.out)
  have HT : Hid (t.tick ps st now = (t2.wait ps).1.begin (t2.wait ps).2 st) := Lib.hid (by unfold TabA.tick; rw [← ht1.out, ← ht2.out])
  have HLN : Hid ((t2.wait ps).2.length ≤ 100) := Lib.hid (Nat.le_trans (wait_len _ _) hl)
  have HPS := Lib.hid hl
  have HOP : Hid (t2.opened = t1.opened) := Lib.hid (by rw [ht2.out]; exact bury_opened _ _)
  rw [HT.out]
  clear h ho hself hkn htm hf hls hl
  go_enter Try.func18, Try.ntmps18
  go_wp2_with (first
    | (go_at_call 40
       (with_reducible refine H0.out.mono ?_); rintro e w1 ⟨rfl, rfl⟩)
    | (go_at_call 41
       (with_reducible refine H1.out.mono ?_); rintro e w1 ⟨rfl, hx1, hg1⟩
       have HT1 := Lib.hid hx1
       have HG1 := Lib.hid hg1
       have HO1 : Hid (OwnG w1 base t1.opened ps) := Lib.hid (row_turn HO1'.out hg1 hgb)
       clear hx1 hg1)
    | (go_at_call 46
       (with_reducible refine (H2 _ HT1.out).out.mono ?_); rintro e w2 ⟨v2, ds2, rfl, hd2, hdl2, hx2, hg2⟩
       have HT2 := Lib.hid hx2
       have HG2 : Hid (Turns g w.heap.size w w2) := Lib.hid (HG1.out.trans (hg2.mono HG1.out.size))
       have HO2 : Hid (OwnG w2 base t2.opened ps) := Lib.hid (by rw [HOP.out]; exact row_turn HO1.out hg2 hgb)
       have HD2 : Hid (w2.ownsRow w.heap.size 38 3 v2 ds2.length (dcells ds2)) := Lib.hid (row_base hd2 HG1.out.size)
       have HDL2 := Lib.hid hdl2
       clear hx2 hg2 hd2 hdl2)
    | (go_at_call 47
       (with_reducible refine (H3 _ HT2.out HO2.out).out.mono ?_); rintro e w3 hp3
       obtain ⟨v4, v5, n4, n5, v6, rfl, hw3, h34, h35⟩ := hp3
       have HW3 := Lib.hid hw3
       have HG3 : Hid (Turns g w.heap.size w w3) := Lib.hid (HG2.out.trans (hw3.fr.mono HG2.out.size))
       have HD3 : Hid (w3.ownsRow w.heap.size 38 3 v2 ds2.length (dcells ds2)) := Lib.hid (row_turn HD2.out hw3.fr HGL.out)
       have H34 := Lib.hid h34
       have H35 := Lib.hid h35
       have H4 := Lib.hid (begin_any g w2.heap.size (Nat.lt_of_lt_of_le HGL.out HG2.out.size) { (t2.wait ps).1 with opened := v6 } (t2.wait ps).2 (by have := HLN.out; omega) st ⟨HL3.out.le, HL3.out.to, HL3.out.since0, HL3.out.since1, HL3.out.req0, HL3.out.req1⟩ (timed_opened HM3.out v6) w3 hw3.fr.size hw3.tab hw3.s)
       clear hw3 h34 h35)
    | (go_at_call 48
       (with_reducible refine H4.out.mono ?_); rintro e w4 ⟨u4, m4, ov, rfl, hm4, hm41, hx4, ho4, hv4⟩
       have HGW : Hid (g < w2.heap.size) := Lib.hid (Nat.lt_of_lt_of_le HGL.out HG2.out.size)
       obtain ⟨xs4, hm, hm1⟩ := HW3.out.m
       obtain ⟨ds5, hd5, hd51⟩ := HW3.out.d
       have HMA : Hid (w4.ownsRow w.heap.size 56 17 v4 n4 xs4) := Lib.hid (row_base (row_moves neMG hm HW3.out.s HGW.out hv4) HG2.out.size)
       have HM1 := Lib.hid hm1
       have HD5 : Hid (w4.ownsRow w2.heap.size 38 3 v5 n5 (dcells ds5)) := Lib.hid (row_moves nePG hd5 HW3.out.s HGW.out hv4)
       have HD51 := Lib.hid hd51
       have HD4 : Hid (w4.ownsRow w.heap.size 38 3 v2 ds2.length (dcells ds2)) := Lib.hid (row_moves nePG HD3.out HW3.out.s HGL.out hv4)
       obtain ⟨ys4, hy, hy1⟩ := hm4
       have HY := Lib.hid hy
       have HY1 := Lib.hid hy1
       have HG4 : Hid (Turns g w.heap.size w w4) := Lib.hid (Moves.turns HG3.out (Nat.le_refl _) (row_base HW3.out.s HG2.out.size) hv4)
       have HT4 := Lib.hid hx4
       have HO4 : Hid (OwnG w4 w.heap.size ov ((t2.wait ps).1.begin (t2.wait ps).2 st).2) := Lib.hid (by
         have e : ({ (t2.wait ps).1 with opened := v6 } : TabA).begin (t2.wait ps).2 st = ({ ((t2.wait ps).1.begin (t2.wait ps).2 st).1 with opened := v6 }, ((t2.wait ps).1.begin (t2.wait ps).2 st).2) := begin_opened _ _ _ _
         rw [e] at ho4
         exact row_base ho4 HG2.out.size)
       have HX4 : Hid (TabAt w4 g { ((t2.wait ps).1.begin (t2.wait ps).2 st).1 with opened := ov }) := Lib.hid (by
         have e : ({ (t2.wait ps).1 with opened := v6 } : TabA).begin (t2.wait ps).2 st = ({ ((t2.wait ps).1.begin (t2.wait ps).2 st).1 with opened := v6 }, ((t2.wait ps).1.begin (t2.wait ps).2 st).2) := begin_opened _ _ _ _
         rw [e] at hx4
         exact hx4)
       have HN4 : Hid (n4 + m4 ≤ 65536) := Lib.hid (by have := H34.out; have := HPS.out; omega)
       have HN5 : Hid (ds2.length + n5 ≤ 65536) := Lib.hid (by have := H35.out; have := HPS.out; have := HDL2.out; omega)
       have HZ4 : Hid (w.heap.size ≤ w4.heap.size) := Lib.hid HG4.out.size
       clear hm hm1 hd5 hd51 hy hy1 hm41 hx4 ho4 hv4)
    | (at_builtin; go_must (refine wpList_append_rows Try.underlying34 infoMsg hz17 _ rfl (.tmp 22) (.tmp 24) rfl (by rfl) (by rfl) HMA.out HY.out HY1.out HN4.out HZ4.out ?_)))
  intro v7 w7 ho7 hg7 _
  have HO7 : Hid (OwnM w7 w.heap.size v7 (n4 + m4)) := Lib.hid ⟨_, ho7, fun u hu => by rcases List.mem_append.1 hu with h | h; exact HM1.out u h; exact HY1.out u h⟩
  have HD7 : Hid (w7.ownsRow w.heap.size 38 3 v2 ds2.length (dcells ds2)) := Lib.hid (keepRow neMP.symm HD4.out HMA.out hg7)
  have HD75 : Hid (w7.ownsRow w2.heap.size 38 3 v5 n5 (dcells ds5)) := Lib.hid (keepRow neMP.symm HD5.out HMA.out hg7)
  have HX7 := Lib.hid (tab_grown HX4.out HGL.out HMA.out hg7)
  have HP7 : Hid (OwnG w7 w.heap.size ov ((t2.wait ps).1.begin (t2.wait ps).2 st).2) := Lib.hid (keepRow neMG.symm HO4.out HMA.out hg7)
  have HG7 : Hid (Turns g w.heap.size w w7) := Lib.hid (turns_grown HG4.out (Nat.le_refl _) HMA.out hg7)
  have HZ7 : Hid (w.heap.size ≤ w7.heap.size) := Lib.hid HG7.out.size
  clear ho7 hg7
  go_wp2_with (at_builtin; go_must (refine wpList_append_rows Try.underlying31 infoPeer hz3 _ rfl (.tmp 26) (.tmp 27) rfl (by rfl) (by rfl) HD7.out HD75.out (dcells_one _) HN5.out HZ7.out ?_))
  intro v8 w8 ho8 hg8 _
  have HO8 : Hid (∃ ds : List PeerA, w8.ownsRow w.heap.size 38 3 v8 (ds2.length + n5) (dcells ds) ∧ ds.length = ds2.length + n5) := Lib.hid ⟨ds2 ++ ds5, by rw [dcells_append]; exact ho8, by rw [List.length_append, HD51.out]⟩
  have HM8 : Hid (OwnM w8 w.heap.size v7 (n4 + m4)) := Lib.hid (by obtain ⟨xs, h1, h2⟩ := HO7.out; exact ⟨xs, keepRow neMP h1 HD7.out hg8, h2⟩)
  have HX8 := Lib.hid (tab_grown HX7.out HGL.out HD7.out hg8)
  have HP8 : Hid (OwnG w8 w.heap.size ov ((t2.wait ps).1.begin (t2.wait ps).2 st).2) := Lib.hid (keepRow nePG.symm HP7.out HD7.out hg8)
  have HG8 : Hid (Turns g w.heap.size w w8) := Lib.hid (turns_grown HG7.out (Nat.le_refl _) HD7.out hg8)
  clear ho8 hg8
  go_wp2
  go_ret2
  unfold Ticked
  exact ⟨v7, v8, ov, _, _, rfl, HM8.out, HO8.out, HX8.out, HP8.out, HG8.out⟩
end Go.Proofs.Ythipdadhhelieaa
