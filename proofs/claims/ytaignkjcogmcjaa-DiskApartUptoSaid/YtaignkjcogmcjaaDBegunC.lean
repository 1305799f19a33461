/- A disk behind a script's calls: all its files' names can be. -/
import Derived.Test.YtaignkjcogmcjaaDAlike
namespace Go.Proofs.Ytaignkjcogmcjaa
open Go.RowKit
open Go.Lib (byteCells byteCells_length)

theorem ans_can {fs gs : List FileA} {n : List UInt8} {here : List UInt8 × Nat → List FileA} (h : canAll fs) (hg : canS n = true → canAll gs) (hh : ∀ x, canS n = true → look fs n = some x → canAll (here x)) : canAll (ans fs n fs gs here) := by
  unfold ans
  split
  · exact h
  · rename_i hc
    have hc' : canS n = true := by simpa using hc
    cases hl : look fs n with
    | none => exact hg hc'
    | some x => exact hh x hc' hl
theorem setF_can {fs : List FileA} {n : List UInt8} {y : List UInt8 × Nat} (h : canAll fs) (hn : canS n = true) : canAll (setF fs n y) := fun f hf => by
  rcases mem_setF hf with rfl | ⟨hf, _⟩
  · exact hn
  · exact h f hf
theorem insF_can {fs : List FileA} {x : FileA} (h : canAll fs) (hn : canS x.1 = true) : canAll (insF x fs) := fun f hf => by
  rcases mem_insF.1 hf with rfl | hf
  · exact hn
  · exact h f hf
theorem strike_can {fs : List FileA} {n : List UInt8} (h : canAll fs) : canAll (strike fs n) := fun f hf => h f (mem_strike hf).1
theorem appF_can {room : Int} {fs : List FileA} {n b : List UInt8} (h : canAll fs) : canAll (appF room fs n b) := by
  unfold appF
  refine ans_can h (fun hc => ?_) (fun x hc _ => ?_)
  · split
    · exact insF_can h hc
    · exact h
  · split
    · exact setF_can h hc
    · exact h
theorem crash_can {fs : List FileA} {ts : List TearA} (h : canAll fs) : canAll (crashF fs ts) := fun f hf => by
  obtain ⟨g, hg, rfl⟩ := List.mem_map.1 hf
  exact h g hg
theorem callF_can {room : Int} {fs : List FileA} {o : DoA} (h : canAll fs) : canAll (callF room fs o) := by
  have h8 := op_lt o.op
  unfold callF
  match hk : opN o.op, h8 with
  | 0, _ => exact appF_can h
  | 1, _ => exact appF_can h
  | 2, _ => exact appF_can h
  | 3, _ =>
    simp only
    unfold syncF
    exact ans_can h (fun _ => h) fun x hc _ => setF_can h hc
  | 4, _ =>
    simp only
    unfold renF
    split
    · rename_i hc
      cases hl : look fs o.nm.data.toList with
      | none => exact h
      | some x =>
        simp only
        unfold place
        exact insF_can (strike_can (strike_can h)) hc.2
    · exact h
  | 5, _ =>
    simp only
    unfold remF
    exact ans_can h (fun _ => h) fun x _ _ => strike_can h
  | 6, _ =>
    simp only
    unfold crashFs
    split
    · exact crash_can h
    · exact h
  | 7, _ => exact fun f hf => by cases hf

/-- What begun answers; all names can be. -/
def BegunCan (w : World) (room : Int) (e : Ending) (w' : World) : Prop :=
  (e = .returned (.pointer none) ∧ Below w.heap.size w w') ∨ ∃ d tag fs, e = .returned (.pointer (some ⟨d, 0, none⟩)) ∧ Has w room d tag fs w' ∧ canAll fs

set_option maxRecDepth 100000 in
set_option maxHeartbeats 3200000 in
theorem begun_can (room : Int) (v : Value) (os : List DoA) (w : World) (hr : RdDos w v os) (hl : os.length ≤ 1048576) :
    Calls Try.prog 29 #[.int .i64 room, v] w (BegunCan w room) := by
  have HR := Lib.hid hr
  obtain ⟨A, c, rfl, hc, hx⟩ := hr
  clear hx
  obtain ⟨n, hn⟩ : ∃ n, Hid (n = os.length) := ⟨_, Lib.hid rfl⟩
  rw [← hn.out] at hl hc ⊢
  by_cases hroom : 0 ≤ room ∧ room ≤ 16777216
  · have HN := Lib.hid (new_yes room hroom.1 hroom.2 w)
    go_enter Try.func29, Try.ntmps29
    go_wp2_with fail
    (with_reducible refine HN.out.mono ?_); rintro e w1 ⟨hb1, d, tag, rfl, hh1, hg1⟩
    have HH1 : Hid (Has w room d tag [] w1) := Lib.hid ⟨hh1, hb1, hg1⟩
    clear hb1 hh1 hg1
    go_wp2
    go_loopw [22] (fun i wr => ∃ (k : Nat) (tag' : Nat → Option Tag) (fs : List FileA), k ≤ n ∧ i = .int .i64 k ∧ Has w room d tag' fs wr ∧ canAll fs) (fun i _ => n - (intOf i).toNat)
    case atStart => exact ⟨0, tag, [], Nat.zero_le _, rfl, HH1.out, fun f hf => by cases hf⟩
    case round =>
      obtain ⟨k, tag', fs, hk, rfl, hh, hcan⟩ := hrel
      have HCAN := Lib.hid hcan
      clear hcan
      have HH := Lib.hid hh
      by_cases hlt : k < n
      · obtain ⟨o, ho⟩ : ∃ o, os[k]? = some o := ⟨os[k]'(by have := hn.out; omega), List.getElem?_eq_getElem _⟩
        obtain ⟨A', c', e', _, hx'⟩ := HR.out.same hh.2.1
        obtain ⟨ad, vb, vt, e1, h0, h1, h2, h3, h4, h5, h6⟩ := hx' k o ho
        injection e' with e2 _ e4
        subst e2
        subst e4
        subst e1
        obtain ⟨Jb, cb, evb, _, _⟩ := h6.rb
        obtain ⟨Jt, ct, evt, _, _⟩ := h6.rt
        subst evb
        subst evt
        clear hx' ho hh
        by_cases h40 : k ≤ 40
        · have hbA : Below wr.heap.size wr (wr.alloc (.cells #[.int .i64 o.op, .string o.nm, .string o.ot, .slice Jb o.bs.length cb, .slice Jt o.ts.length ct] 34)) := (Below.refl _ _).alloc (Nat.le_refl _) _
          have hHA := HH.out.alloc hbA
          have HHA := Lib.hid hHA
          have HC := Lib.hid (call_made hHA.1 o _ _ (h6.below hbA))
          clear hbA hHA h6
          go_wp2_with fail
          (with_reducible refine HC.out.mono ?_); rintro e w2 ⟨rfl, hl2⟩
          obtain ⟨tag2, hh2, _⟩ := HHA.out.left hl2
          have HH2 := Lib.hid hh2
          clear hl2 hh2
          go_wp2
          go_roundw
          case rel => exact ⟨k + 1, tag2, _, by omega, by go_num, HH2.out, callF_can HCAN.out⟩
          case measure => simp [intOf]; omega
        · have hgt : (40 : Int) < (k : Int) := by omega
          clear h6
          go_wp2
          go_ret
          exact .inr ⟨d, tag', fs, rfl, HH.out.alloc ((Below.refl _ _).alloc (Nat.le_refl _) _), HCAN.out⟩
      · obtain rfl : k = n := by omega
        clear hh
        go_wp2
        go_ret
        exact .inr ⟨d, tag', fs, rfl, HH.out, HCAN.out⟩
  · have HN := Lib.hid (new_no room (by omega) w)
    go_enter Try.func29, Try.ntmps29
    go_wp2_with fail
    (with_reducible refine HN.out.mono ?_); rintro e w1 ⟨rfl, rfl⟩
    go_wp2
    go_ret
    exact .inl ⟨rfl, Below.refl _ _⟩
end Go.Proofs.Ytaignkjcogmcjaa
