/- A made disk: going through its files; Used. -/
import Derived.Test.YtakmndfcelghfaaGreatDoorDCalls
namespace Go.Proofs.YtakmndfcelghfaaGreatDoor
open Go.RowKit
open Go.Lib (byteCells byteCells_length)

def ptrOf : Option Nat → Value
  | none => .pointer none
  | some g => .pointer (some ⟨g, 0, none⟩)
theorem key_inv {key : Value} {kl : Lit} (h : keyOf Tryz.prog 9 key = some kl) : ∃ s : ByteArray, key = .string s ∧ kl = .string s.data.toList := by
  cases key <;> simp [keyOf, Tryz.underlying9, mapKey] at h
  obtain ⟨_, rfl⟩ := h
  exact ⟨_, rfl, rfl⟩
theorem elem_inv {v : Value} {y : DataW Unit × List MemPlace} (h : ptrElem v = some y) : ∃ c, v = ptrOf c := by
  rcases ptrElem_inv h with ⟨rfl, _⟩ | ⟨g, rfl, _⟩
  · exact ⟨none, rfl⟩
  · exact ⟨some g, rfl⟩

/-- The step of a range over the files. -/
theorem wpList_next_files (w : World) {ops : Array Oper} {rest : List Oper} {o : Oper} {a : Act} {Q : Exit → Act → World → Prop} (hg : o.guard = none) (it : Operand) (hop : o.op = Op.next it false) (bl : List UInt8 → Nat) (fs : List FileA)
    (m r n : Nat) (left : Lit → Bool) (cnt : Nat) (hit : a.eval it = .pointer (some ⟨r, 0, none⟩)) (h : w.ranges Tryz.prog 9 ptrElem m r n (mapD bl fs) left cnt)
    (hDone : cnt = 0 → (∀ kl, left kl = false) → wpList Tryz.prog ops Q rest (a.put o.dst (.tuple #[.bool false])) w)
    (hMore : ∀ (s : ByteArray) (x : List UInt8 × Nat) (w' : World) (cnt' : Nat), look fs s.data.toList = some x → left (.string s.data.toList) = true → w'.ranges Tryz.prog 9 ptrElem m r n (mapD bl fs) (fun z => left z && !z.sameKey (.string s.data.toList)) cnt' → cnt' < cnt →
      w.grownBy w' (some r) → w'.heap.size = w.heap.size → (Instr.entry (.pointer (some ⟨r, 0, none⟩))).run Tryz.prog w' = .ok (.tuple #[.string s, .pointer (some ⟨bl s.data.toList, 0, none⟩)]) w' →
      wpList Tryz.prog ops Q rest (a.put o.dst (.tuple #[.bool true, .string s, .pointer (some ⟨bl s.data.toList, 0, none⟩)])) w') :
    wpList Tryz.prog ops Q (o :: rest) a w :=
  wpList_next_ranges w hg it hop 9 law9 ptrElem (Value.string) ptrOf (fun key kl hk => by obtain ⟨s, rfl, _⟩ := key_inv hk; exact ⟨s, rfl⟩) (fun v y hv => elem_inv hv) m r n (mapD bl fs) left cnt hit h hDone
    (fun s c kl y w' cnt' hkey hlk hv hat hrg hlt hgr hsz hen => by
      obtain ⟨s', e, rfl⟩ := key_inv hkey
      injection e with e
      subst e
      cases hl : look fs s.data.toList with
      | none =>
        have h1 := hat .nil
        have h2 := hat (.lit (.bool true))
        rw [mapD_at, hl] at h1 h2
        rw [← h1] at h2
        cases h2
      | some x =>
        have h1 := hat .nil
        rw [mapD_at, hl] at h1
        have h3 : y.1 = .lit (.int .i64 (bl s.data.toList : Int)) := h1.symm
        have h4 : ptrOf c = .pointer (some ⟨bl s.data.toList, 0, none⟩) := by
          obtain ⟨y1, y2⟩ := y
          simp only at h3
          subst h3
          exact ptr_lit hv
        rw [h4] at hen ⊢
        exact hMore s x w' cnt' hl hlk hrg hlt hgr hsz hen)

/-- How many bytes the files have that are still to come. -/
def usedLeft (fs : List FileA) (left : Lit → Bool) : Nat := (fs.map fun f => if left (.string f.1) then f.2.1.length else 0).sum
theorem usedLeft_cons (f : FileA) (fs : List FileA) (left : Lit → Bool) : usedLeft (f :: fs) left = (if left (.string f.1) then f.2.1.length else 0) + usedLeft fs left := by unfold usedLeft; simp
theorem usedLeft_all {fs : List FileA} {left : Lit → Bool} (h : ∀ f ∈ fs, left (.string f.1) = true) : usedLeft fs left = used fs := by
  induction fs with
  | nil => rfl
  | cons f r ih => rw [usedLeft_cons, used_cons, ih fun g hg => h g (List.mem_cons_of_mem _ hg), if_pos (h f List.mem_cons_self)]
theorem usedLeft_none {fs : List FileA} {left : Lit → Bool} (h : ∀ kl, left kl = false) : usedLeft fs left = 0 := by
  induction fs with
  | nil => rfl
  | cons f r ih => rw [usedLeft_cons, ih, h]; rfl
theorem usedLeft_same {fs : List FileA} {left left' : Lit → Bool} (h : ∀ f ∈ fs, left (.string f.1) = left' (.string f.1)) : usedLeft fs left = usedLeft fs left' := by
  induction fs with
  | nil => rfl
  | cons f r ih => rw [usedLeft_cons, usedLeft_cons, ih fun g hg => h g (List.mem_cons_of_mem _ hg), h f List.mem_cons_self]
theorem sameKey_str (a b : List UInt8) : Lit.sameKey (.string a) (.string b) = (a == b) := rfl
theorem usedLeft_step {fs : List FileA} (hs : Sorted fs) {left : Lit → Bool} {n : List UInt8} {x : List UInt8 × Nat} (hl : look fs n = some x) (hleft : left (.string n) = true) :
    usedLeft fs left = x.1.length + usedLeft fs (fun z => left z && !z.sameKey (.string n)) := by
  induction fs with
  | nil => cases hl
  | cons f r ih =>
    have h1 := List.pairwise_cons.1 hs
    rw [usedLeft_cons, usedLeft_cons]
    by_cases hn : f.1 = n
    · have e : x = f.2 := by
        have : look (f :: r) n = some f.2 := by unfold look; simp [hn]
        rw [this] at hl; injection hl with hl; exact hl.symm
      have e2 : usedLeft r (fun z => left z && !z.sameKey (.string n)) = usedLeft r left := usedLeft_same fun g hg => by
        have hne : (g.1 == n) = false := by
          rw [beq_eq_false_iff_ne]
          exact fun eg => bb_ne (h1.1 g hg) (hn.trans eg.symm)
        simp [sameKey_str, hne]
      rw [e2, hn, hleft, e]
      simp [sameKey_str]
    · have e : look (f :: r) n = look r n := by unfold look; simp [hn]
      rw [e] at hl
      have hne : (f.1 == n) = false := by simpa using hn
      rw [ih h1.2 hl]
      simp only [sameKey_str, hne, Bool.not_false, Bool.and_true]
      omega

section
variable {w : World} {tag : Nat → Option Tag} {d : Nat} {room : Int} {fs : List FileA}
theorem hlit (fs : List FileA) (bl : List UInt8 → Nat) (f : FileA) (hf : f ∈ fs) : Maps.has (mapD bl fs) (.string f.1) = true := by
  rw [mapD_has]
  cases hl : look fs f.1 with
  | none => exact absurd rfl (look_none hl f hf)
  | some x => rfl

set_option maxRecDepth 100000 in
set_option maxHeartbeats 1600000 in
theorem used_made (h : Holds w tag d room fs) : Calls Tryz.prog 121 #[.pointer (some ⟨d, 0, none⟩)] w fun e w' => e = .returned (.int .i64 (used fs : Int)) ∧ Below w.heap.size w w' := by
  have HM := Lib.hid (made_yes h)
  obtain ⟨m, bl, g1, g2, g3, g4, g5⟩ := h.struct
  have c1 : w.cell? ⟨d, 1, none⟩ = some (.map (some m)) := cell_of_row w d 1 _ _ (0, 0) g1
  have hroom := h.room1
  have hfit := h.fit
  have hrise := Lib.hid h.rise
  have G5 := Lib.hid g5
  obtain ⟨u, hu⟩ : ∃ u, Hid (u = used fs) := ⟨_, Lib.hid rfl⟩
  have hu1 : (u : Int) ≤ 16777216 := by rw [hu.out]; omega
  rw [← hu.out]
  clear g5 g1 hfit
  go_enter Tryz.func121, Tryz.ntmps121
  go_wp2_with fail
  (with_reducible refine HM.out.mono ?_); rintro e w' ⟨rfl, rfl⟩
  go_wp2_with (at_range; refine wpList_range_own _ rfl _ 40 rfl 9 164 law9 Tryz.underlying40 ptrElem m fs.length _ rfl g4 ?_; intro w0 hrg0 hg0 hs0)
  go_frame
  go_loopw [3] (fun n wr => ∃ (left : Lit → Bool) (cnt k : Nat), wr.ranges Tryz.prog 9 ptrElem m w.heap.size fs.length (mapD bl fs) left cnt ∧ n = .int .i64 (k : Int) ∧ k + usedLeft fs left = u ∧ w.grownBy wr none) (fun _ wr => wr.rangeLeft m w.heap.size)
  case atStart => exact ⟨_, _, 0, hrg0, rfl, by rw [hu.out, usedLeft_all fun f hf => hlit fs bl f hf]; omega, hg0⟩
  case round =>
    obtain ⟨left, cnt, k, hrg, rfl, hk, hgr⟩ := hrel
    have HK := Lib.hid hk
    have hk1 : (k : Int) ≤ 16777216 := by omega
    clear hk
    go_wp2_with (at_next; refine wpList_next_files _ rfl _ rfl bl fs m w.heap.size _ _ _ rfl hrg ?_ ?_)
    · intro hc0 hl0
      have hfin : Hid ((k : Int) = (u : Int)) := Lib.hid (by have := HK.out; rw [usedLeft_none hl0] at this; omega)
      go_wp2
      go_ret
      exact ⟨ret_int hfin.out, ⟨hgr.os, hgr.tape, hgr.output, hgr.size, fun i hi => hgr.block i hi (by simp)⟩⟩
    · intro s x1 x2 w1 cnt1 hlk hleft hrg1 hlt hg1 hs1 hen
      have hm := look_some hlk
      have hf := G5.out _ hm
      obtain ⟨A, c, k0, k1, k2, k3⟩ := hf.open_
      have hb1 : bl s.data.toList < w.heap.size := (Array.getElem?_eq_some_iff.1 k0).1
      have q0 : w1.heap[bl s.data.toList]? = w.heap[bl s.data.toList]? := (hg1.block _ (Nat.lt_of_lt_of_le hb1 hgr.size) (by simp; omega)).trans (hgr.block _ hb1 (by simp))
      have q1 : w1.cell? ⟨bl s.data.toList, 0, none⟩ = some (.slice A x1.length c) := (World.cell?_of_block (a := ⟨bl s.data.toList, 0, none⟩) q0).trans k1
      have hstep := usedLeft_step hrise.out hlk hleft
      have hk2 : k + x1.length + usedLeft fs (fun z => left z && !z.sameKey (.string s.data.toList)) = u := by have := HK.out; simp only at hstep; omega
      have HK2 := Lib.hid hk2
      have hxl : (k : Int) + (x1.length : Int) ≤ 16777216 := by omega
      have hle : w1.rangeLeft m w.heap.size < wr.rangeLeft m w.heap.size := by rw [hrg1.left_eq, hrg.left_eq]; omega
      have HLE := Lib.hid hle
      have hgr2 : w.grownBy w1 none := ⟨hg1.os.trans hgr.os, hg1.tape.trans hgr.tape, hg1.output.trans hgr.output, Nat.le_trans hgr.size hg1.size, fun i hi _ => (hg1.block i (Nat.lt_of_lt_of_le hi hgr.size) (by simp; omega)).trans (hgr.block i hi (by simp))⟩
      clear hstep hk2 hle k0 k1 k2 k3 hf hm hlk hleft q0
      go_wp2
      go_roundw
      case rel => exact ⟨_, _, k + x1.length, hrg1, by go_num, HK2.out, hgr2⟩
      case measure => exact HLE.out
end
end Go.Proofs.YtakmndfcelghfaaGreatDoor
