/- A disk behind a script's calls. -/
import Derived.Test.YtaignkjcogmcjaaDDos
namespace Go.Proofs.Ytaignkjcogmcjaa
open Go.RowKit
open Go.Lib (byteCells byteCells_length)

/-- A disk of the call's own that holds some files; all else lies as it lay. -/
def Has (w : World) (room : Int) (d : Nat) (tag : Nat → Option Tag) (fs : List FileA) (w' : World) : Prop :=
  Holds w' tag d room fs ∧ Below w.heap.size w w' ∧ ∀ k, tag k ≠ none → w.heap.size ≤ k

theorem Has.alloc {w w' : World} {room : Int} {d : Nat} {tag : Nat → Option Tag} {fs : List FileA} (h : Has w room d tag fs w') {w2 : World} (hb : Below w'.heap.size w' w2) : Has w room d tag fs w2 :=
  ⟨h.1.same hb.size fun k hk => hb.block k (h.1.tags k hk), h.2.1.trans (hb.mono h.2.1.size), h.2.2⟩
theorem Has.left {w w' w2 : World} {room : Int} {d : Nat} {tag : Nat → Option Tag} {fs gs : List FileA} (h : Has w room d tag fs w') (hl : Left w' tag d room gs w2) : ∃ tag', Has w room d tag' gs w2 ∧ Turned w' w2 tag := by
  obtain ⟨tag', h1, h2, h3⟩ := hl
  refine ⟨tag', ⟨h1, ⟨h2.os.trans h.2.1.os, h2.tape.trans h.2.1.tape, h2.output.trans h.2.1.output, Nat.le_trans h.2.1.size h2.size, fun k hk => ?_⟩, fun k hk => ?_⟩, h2⟩
  · refine (h2.block k (Nat.lt_of_lt_of_le hk h.2.1.size) ?_).trans (h.2.1.block k hk)
    cases e : tag k with
    | none => rfl
    | some t => have := h.2.2 k (by rw [e]; simp); omega
  · rcases h3 k hk with h4 | h4
    · exact h.2.2 k h4
    · exact Nat.le_trans h.2.1.size h4

/-- What begun answers. -/
def BegunPost (w : World) (room : Int) (e : Ending) (w' : World) : Prop :=
  (e = .returned (.pointer none) ∧ Below w.heap.size w w') ∨ ∃ d tag fs, e = .returned (.pointer (some ⟨d, 0, none⟩)) ∧ Has w room d tag fs w'

set_option maxRecDepth 100000 in
set_option maxHeartbeats 3200000 in
theorem begun_any (room : Int) (v : Value) (os : List DoA) (w : World) (hr : RdDos w v os) (hl : os.length ≤ 1048576) :
    Calls Try.prog 29 #[.int .i64 room, v] w (BegunPost w room) := by
  have HR := Lib.hid hr
  obtain ⟨A, c, rfl, hc, hx⟩ := hr
  clear hx
  obtain ⟨n, hn⟩ : ∃ n, Hid (n = os.length) := ⟨_, Lib.hid rfl⟩
  rw [← hn.out] at hl hc ⊢
  by_cases hroom : 0 ≤ room ∧ room ≤ 16777216
  · have HN := Lib.hid (new_yes room hroom.1 hroom.2 w)
    go_enter Try.func29, Try.ntmps29
    go_wp2_with fail
    (with_reducible refine HN.out.mono ?_); rintro e w1 ⟨hb1, d, tag, rfl, hh1, hg1⟩
    have HH1 : Hid (Has w room d tag [] w1) := Lib.hid ⟨hh1, hb1, hg1⟩
    clear hb1 hh1 hg1
    go_wp2
    go_loopw [22] (fun i wr => ∃ (k : Nat) (tag' : Nat → Option Tag) (fs : List FileA), k ≤ n ∧ i = .int .i64 k ∧ Has w room d tag' fs wr) (fun i _ => n - (intOf i).toNat)
    case atStart => exact ⟨0, tag, [], Nat.zero_le _, rfl, HH1.out⟩
    case round =>
      obtain ⟨k, tag', fs, hk, rfl, hh⟩ := hrel
      have HH := Lib.hid hh
      by_cases hlt : k < n
      · obtain ⟨o, ho⟩ : ∃ o, os[k]? = some o := ⟨os[k]'(by have := hn.out; omega), List.getElem?_eq_getElem _⟩
        obtain ⟨A', c', e', _, hx'⟩ := HR.out.same hh.2.1
        obtain ⟨ad, vb, vt, e1, h0, h1, h2, h3, h4, h5, h6⟩ := hx' k o ho
        injection e' with e2 _ e4
        subst e2
        subst e4
        subst e1
        obtain ⟨Jb, cb, evb, _, _⟩ := h6.rb
        obtain ⟨Jt, ct, evt, _, _⟩ := h6.rt
        subst evb
        subst evt
        clear hx' ho hh
        by_cases h40 : k ≤ 40
        · have hbA : Below wr.heap.size wr (wr.alloc (.cells #[.int .i64 o.op, .string o.nm, .string o.ot, .slice Jb o.bs.length cb, .slice Jt o.ts.length ct] 34)) := (Below.refl _ _).alloc (Nat.le_refl _) _
          have hHA := HH.out.alloc hbA
          have HHA := Lib.hid hHA
          have HC := Lib.hid (call_made hHA.1 o _ _ (h6.below hbA))
          clear hbA hHA h6
          go_wp2_with fail
          (with_reducible refine HC.out.mono ?_); rintro e w2 ⟨rfl, hl2⟩
          obtain ⟨tag2, hh2, _⟩ := HHA.out.left hl2
          have HH2 := Lib.hid hh2
          clear hl2 hh2
          go_wp2
          go_roundw
          case rel => exact ⟨k + 1, tag2, _, by omega, by go_num, HH2.out⟩
          case measure => simp [intOf]; omega
        · have hgt : (40 : Int) < (k : Int) := by omega
          clear h6
          go_wp2
          go_ret
          exact .inr ⟨d, tag', fs, rfl, HH.out.alloc ((Below.refl _ _).alloc (Nat.le_refl _) _)⟩
      · obtain rfl : k = n := by omega
        clear hh
        go_wp2
        go_ret
        exact .inr ⟨d, tag', fs, rfl, HH.out⟩
  · have HN := Lib.hid (new_no room (by omega) w)
    go_enter Try.func29, Try.ntmps29
    go_wp2_with fail
    (with_reducible refine HN.out.mono ?_); rintro e w1 ⟨rfl, rfl⟩
    go_wp2
    go_ret
    exact .inl ⟨rfl, Below.refl _ _⟩
end Go.Proofs.Ytaignkjcogmcjaa
