/- Is there a span that may not be? -/
import Derived.Test.YtfplblhmeohhmaaCGather2
namespace Go.Proofs.Ytfplblhmeohhmaa
open Go.RowKit Go.Sort Go.BigFrame
open Go.Lib (byteCells byteCells_length)

/-- The four cells of a span. -/
def SpanAt (w : World) (p : Addr) (s : SpanA) : Prop := w.cell? p = some (.int .i64 s.1) ∧ w.cell? ⟨p.block, p.off + 1, none⟩ = some (.int .i64 s.2.1) ∧ w.cell? ⟨p.block, p.off + 2, none⟩ = some (.int .i64 s.2.2.1) ∧ w.cell? ⟨p.block, p.off + 3, none⟩ = some (.int .i64 s.2.2.2)
theorem SpanAt.below {w w' : World} {p : Addr} {s : SpanA} (h : SpanAt w p s) {B : Nat} (hb : Below B w w') (hp : p.block < B) : SpanAt w' p s :=
  ⟨(hb.cell hp).trans h.1, (hb.cell (p := ⟨_, _, none⟩) hp).trans h.2.1, (hb.cell (p := ⟨_, _, none⟩) hp).trans h.2.2.1, (hb.cell (p := ⟨_, _, none⟩) hp).trans h.2.2.2⟩
/-- The slice value reads as these spans. -/
def RdS (w : World) (v : Value) (ss : List SpanA) : Prop := ∃ A c, v = .slice A ss.length c ∧ ss.length ≤ c ∧ ∀ (j : Nat) (s : SpanA), ss[j]? = some s → ∃ ad : Addr, A = some ad ∧ ad.block < w.heap.size ∧ SpanAt w (ad.add (j * 4)) s
theorem RdS.below {w w' : World} {v : Value} {ss : List SpanA} (h : RdS w v ss) (hb : Below w.heap.size w w') : RdS w' v ss := by
  obtain ⟨A, c, e, hc, hx⟩ := h
  refine ⟨A, c, e, hc, fun j s hs => ?_⟩
  obtain ⟨ad, e1, h0, h1⟩ := hx j s hs
  exact ⟨ad, e1, Nat.lt_of_lt_of_le h0 hb.size, h1.below hb (by rw [add_block]; exact h0)⟩
/-- An index of one that may not be, or -1. -/
def WrongPost (ss : List SpanA) (w : World) (e : Ending) (w' : World) : Prop := ∃ i : Int, e = .returned (.int .i64 i) ∧ (0 ≤ i ↔ ¬ ∀ s ∈ ss, mayB s.2 = true) ∧ Below w.heap.size w w'

set_option maxRecDepth 100000 in
set_option maxHeartbeats 3200000 in
theorem indexWrong_any (v : Value) (ss : List SpanA) (w : World) (h : RdS w v ss) (hl : ss.length ≤ 1099511627776) :
    Calls Try.prog 144 #[v, .func (.func 117) #[] #[]] w (WrongPost ss w) := by
  have HR := Lib.hid h
  obtain ⟨A, c, rfl, hc, _⟩ := h
  obtain ⟨n, hn⟩ : ∃ n, Hid (n = ss.length) := ⟨_, Lib.hid rfl⟩
  rw [← hn.out] at hl hc HR ⊢
  go_enter Try.func144, Try.ntmps144
  go_wp2
  go_loopw [8] (fun i wr => ∃ k : Nat, k ≤ n ∧ i = .int .i64 k ∧ Hid (∀ s ∈ ss.take k, mayB s.2 = true) ∧ Below w.heap.size w wr) (fun i _ => n - (intOf i).toNat)
  case atStart => exact ⟨0, Nat.zero_le _, rfl, Lib.hid (by intro m hm; simp at hm), Below.refl _ _⟩
  case round =>
    obtain ⟨k, hk, rfl, HO, hb⟩ := hrel
    have HB := Lib.hid hb
    obtain ⟨A', c', e', _, hx⟩ := HR.out.below hb
    injection e' with e1 e2 e3
    subst e1
    by_cases hlt : k < n
    · obtain ⟨x, hd⟩ : ∃ x, ss[k]? = some x := ⟨ss[k]'(by have := hn.out; omega), List.getElem?_eq_getElem _⟩
      obtain ⟨ad, rfl, hadlt, p0, p1, p2, p3⟩ := hx k x hd
      have HT : Hid (ss.take (k + 1) = ss.take k ++ [x]) := Lib.hid (by rw [List.take_add_one, hd]; rfl)
      have HD := Lib.hid hd
      have HW := fun w' => Lib.hid (wrong_any x w')
      clear hd hx hb e2 e3
      cases hm : mayB x.2 with
      | true =>
        have HN : Hid (∀ s ∈ ss.take (k + 1), mayB s.2 = true) := Lib.hid (fun s hs => by
          rw [HT.out] at hs
          rcases List.mem_append.1 hs with hs | hs
          · exact HO.out s hs
          · simp at hs; rw [hs]; exact hm)
        rw [hm] at HW
        clear hm
        go_wp2_with fail
        (with_reducible refine (HW _).out.mono ?_); rintro e w2 ⟨rfl, hb2⟩
        have HB2 := Lib.hid (HB.out.trans (hb2.mono HB.out.size))
        clear hb2 p0 p1 p2 p3
        go_wp2
        go_roundw
        case rel => exact ⟨k + 1, by omega, by go_num, HN, HB2.out⟩
        case measure => simp [intOf]; omega
      | false =>
        have HN : Hid (¬ ∀ s ∈ ss, mayB s.2 = true) := Lib.hid (fun h => by have := h x (List.mem_of_getElem? HD.out); rw [hm] at this; cases this)
        rw [hm] at HW
        clear hm
        go_wp2_with fail
        (with_reducible refine (HW _).out.mono ?_); rintro e w2 ⟨rfl, hb2⟩
        have HB2 := Lib.hid (HB.out.trans (hb2.mono HB.out.size))
        clear hb2 p0 p1 p2 p3
        go_wp2
        go_ret
        exact ⟨(k : Int), rfl, ⟨fun _ => HN.out, fun _ => by omega⟩, HB2.out⟩
    · have hkn : k = n := by omega
      have HN : Hid (∀ s ∈ ss, mayB s.2 = true) := Lib.hid (by have := HO.out; rw [hkn, hn.out, List.take_length] at this; exact this)
      clear hx hb hkn e2 e3
      go_wp2
      go_ret
      exact ⟨-1, rfl, ⟨fun h => by omega, fun h => absurd HN.out h⟩, HB.out⟩

set_option maxRecDepth 100000 in
set_option maxHeartbeats 800000 in
theorem anyWrong_any (v : Value) (ss : List SpanA) (w : World) (h : RdS w v ss) (hl : ss.length ≤ 1099511627776) :
    Calls Try.prog 116 #[v, .func (.func 117) #[] #[]] w (Tells (¬ ∀ s ∈ ss, mayB s.2 = true) w) := by
  have HI := Lib.hid (indexWrong_any v ss w h hl)
  clear h
  go_enter Try.func116, Try.ntmps116
  go_wp2_with fail
  (with_reducible refine HI.out.mono ?_); rintro e w1 ⟨i, rfl, hi, hb1⟩
  have HX := Lib.hid hb1
  have HII := Lib.hid hi
  clear hb1 hi
  by_cases hn : 0 ≤ i
  · have HN := Lib.hid hn
    have d1 : decide (0 ≤ i) = true := by simpa using hn
    clear hn
    go_wp2
    go_ret
    exact ⟨true, rfl, by simp only [true_iff]; exact HII.out.1 HN.out, HX.out⟩
  · have HN := Lib.hid hn
    have d1 : decide (0 ≤ i) = false := by simpa using hn
    clear hn
    go_wp2
    go_ret
    exact ⟨false, rfl, by simp only [Bool.false_eq_true, false_iff]; exact fun h => by have h1 := HII.out.2 h; have h2 := HN.out; omega, HX.out⟩
end Go.Proofs.Ytfplblhmeohhmaa
